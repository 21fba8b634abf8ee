/-
  Two slots in a variable, with rows of their own; marked and held.
  What one block alone changes, in the words of footprints.
  A packet in a variable of seven cells, and its row.
  The test package's functions over packets: laid, measured, held against each other, marked.
-/
import Derived.Test.YtoaifgblbfdncabGreatDoorJ41
import Derived.Test.YtoaifgblbfdncabGreatDoorJ02
import Derived.Test.YtoaifgblbfdncabGreatDoorJ13
import Derived.Test.YtoaifgblbfdncabGreatDoorJ22
import Derived.Test.YtoaifgblbfdncabGreatDoorJ14
import Derived.Test.YtoaifgblbfdncabGreatDoorJ16
namespace Go.Proofs.YtoaifgblbfdncabGreatDoor
open Go.RowKit

/-- Two slots in variable G, whose rows lie in blocks from lo on, below hi. -/
structure SO (lo hi G : Nat) (cs : Array Value) (v u : Value) (r s : List Int) (X : World) : Prop where
  var : VarA G SlotsT cs X
  co : ∃ f g : List Nat, (f ++ g).Nodup ∧ layIntS.own X lo f [v] r ∧ layIntS.own X lo g [u] s ∧ ∀ a ∈ f ++ g, a < hi
  gh : hi ≤ G
section
variable {lo hi G : Nat} {cs : Array Value} {v u : Value} {r s : List Int} {X Y : World}
theorem SO.next (h : SO lo hi G cs v u r s X) (hb : Below X.heap.size X Y) : SO lo hi G cs v u r s Y := by
  obtain ⟨f, g, hd, h1, h2, h3⟩ := h.co
  exact ⟨h.var.next hb, ⟨f, g, hd, layIntS.next h1 hb, layIntS.next h2 hb, h3⟩, h.gh⟩
theorem SO.rd1 (h : SO lo hi G cs v u r s X) : layIntS.rd X [v] r := by
  obtain ⟨f, g, hd, h1, h2, h3⟩ := h.co
  exact layIntS.read h1
theorem SO.rd2 (h : SO lo hi G cs v u r s X) : layIntS.rd X [u] s := by
  obtain ⟨f, g, hd, h1, h2, h3⟩ := h.co
  exact layIntS.read h2
/-- Blocks from a on, below b, alone are changed. -/
def ChgIn (a b : Nat) (X Y : World) : Prop := ∃ f : List Nat, (∀ g ∈ f, a ≤ g ∧ g < b) ∧ Chg f X Y
theorem SO.away (h : SO lo hi G cs v u r s X) {a b : Nat} (hc : ChgIn a b X Y) (ho : b ≤ lo ∨ hi ≤ a) (hG : G < a ∨ b ≤ G) : SO lo hi G cs v u r s Y := by
  obtain ⟨f, g, hd, h1, h2, h3⟩ := h.co
  obtain ⟨e, he, hc⟩ := hc
  refine ⟨⟨(hc.block G h.var.lt (fun hm => by have := he G hm; omega)).trans h.var.row⟩, ⟨f, g, hd, layIntS.chg h1 hc (fun x hx hm => ?_), layIntS.chg h2 hc (fun x hx hm => ?_), h3⟩, h.gh⟩
  · have h5 := (layIntS.blocks h1 x hx).1
    have h6 := h3 x (List.mem_append_left _ hx)
    have h7 := he x hm
    omega
  · have h5 := (layIntS.blocks h2 x hx).1
    have h6 := h3 x (List.mem_append_right _ hx)
    have h7 := he x hm
    omega
theorem ChgIn.var {a b : Nat} (hc : ChgIn a b X Y) {q : Nat} {t : TypeId} {es : Array Value} (h : VarA q t es X) (hq : q < a ∨ b ≤ q) : VarA q t es Y := by
  obtain ⟨f, h1, h2⟩ := hc
  exact ⟨(h2.block q h.lt (fun hm => by have := h1 q hm; omega)).trans h.row⟩
theorem ChgIn.below {W : World} {a b : Nat} (hb : Below W.heap.size W X) (hc : ChgIn a b X Y) (ha : W.heap.size ≤ a) : Below W.heap.size W Y := by
  obtain ⟨f, h1, h2⟩ := hc
  exact hb.trans (h2.below (fun g hg => by have := h1 g hg; omega) hb.size)
theorem ChgIn.size {a b : Nat} (hc : ChgIn a b X Y) : X.heap.size ≤ Y.heap.size := by
  obtain ⟨f, _, h⟩ := hc
  exact h.size
theorem SO.mark {z0 : Int} {z1 z2 : ByteArray} {z3 : Int} {z5 : Int} {n0 : Int} {n1 n2 : ByteArray} {n3 : Int} {n5 : Int} (h : SO lo hi G #[.int .i64 z0, .string z1, .string z2, .int .i64 z3, v, .int .i64 z5, .int .i64 n0, .string n1, .string n2, .int .i64 n3, u, .int .i64 n5] v u r s X) (l4 : r.length ≤ 10000000) (l5 : s.length ≤ 10000000) :
    Calls Tryz.prog 12 #[.agg #[.int .i64 z0, .string z1, .string z2, .int .i64 z3, v, .int .i64 z5, .int .i64 n0, .string n1, .string n2, .int .i64 n3, u, .int .i64 n5], .int .i64 1] X fun e Y => e = .returned (.int .i64 (1 + 1 * (r.length : Int) + 1 * (s.length : Int))) ∧ SO lo hi G #[.int .i64 z0, .string z1, .string z2, .int .i64 z3, v, .int .i64 z5, .int .i64 n0, .string n1, .string n2, .int .i64 n3, u, .int .i64 n5] v u (layIntS.mark 1 r).1 (layIntS.mark (1 + 1 * (r.length : Int)) s).1 Y ∧ ChgIn lo hi X Y := by
  obtain ⟨f, g, hd, h1, h2, h3⟩ := h.co
  refine (markSlots_any z0 z1 z2 z3 v r z5 n0 n1 n2 n3 u s n5 lo f g l4 l5 1 (by omega) (by omega) X hd h1 h2).mono ?_
  rintro e Y ⟨rfl, k1, k2, hc⟩
  have hin : ∀ a ∈ f ++ g, lo ≤ a ∧ a < hi := fun a ha => ⟨by
    rcases List.mem_append.1 ha with ha | ha
    · exact (layIntS.blocks h1 a ha).1
    · exact (layIntS.blocks h2 a ha).1, h3 a ha⟩
  have hG := h.gh
  exact ⟨rfl, ⟨⟨(hc.block G h.var.lt (fun hm => by have := hin G hm; omega)).trans h.var.row⟩, ⟨f, g, hd, k1, k2, h3⟩, h.gh⟩, f ++ g, hin, hc⟩
theorem SO.held {z0 : Int} {z1 z2 : ByteArray} {z3 : Int} {z5 : Int} {n0 : Int} {n1 n2 : ByteArray} {n3 : Int} {n5 : Int} (h : SO lo hi G #[.int .i64 z0, .string z1, .string z2, .int .i64 z3, v, .int .i64 z5, .int .i64 n0, .string n1, .string n2, .int .i64 n3, u, .int .i64 n5] v u (layIntS.mark 1 r).1 (layIntS.mark (1 + 1 * (r.length : Int)) s).1 X) (l4 : r.length ≤ 10000000) (l5 : s.length ≤ 10000000) :
    Calls Tryz.prog 14 #[.agg #[.int .i64 z0, .string z1, .string z2, .int .i64 z3, v, .int .i64 z5, .int .i64 n0, .string n1, .string n2, .int .i64 n3, u, .int .i64 n5], .int .i64 1] X fun e Y => e = .returned (.int .i64 (1 + 1 * (r.length : Int) + 1 * (s.length : Int))) ∧ Below X.heap.size X Y :=
  heldSlots_any z0 z1 z2 z3 v r z5 n0 n1 n2 n3 u s n5 l4 l5 1 (by omega) (by omega) X h.rd1 h.rd2
end
theorem SO.new {W X : World} {cs : Array Value} {v u : Value} {r s : List Int} {f g : List Nat} (hd : (f ++ g).Nodup) (h1 : layIntS.own X W.heap.size f [v] r) (h2 : layIntS.own X W.heap.size g [u] s) : SO W.heap.size X.heap.size X.heap.size cs v u r s (X.alloc (.cells cs SlotsT)) :=
  ⟨VarA.new X SlotsT cs, ⟨f, g, hd, layIntS.next h1 ((Below.refl _ _).alloc (Nat.le_refl _) _), layIntS.next h2 ((Below.refl _ _).alloc (Nat.le_refl _) _), fun a ha => by
    rcases List.mem_append.1 ha with ha | ha
    · exact (layIntS.blocks h1 a ha).2
    · exact (layIntS.blocks h2 a ha).2⟩, Nat.le_refl _⟩

end Go.Proofs.YtoaifgblbfdncabGreatDoor
namespace Go.Proofs.YtoaifgblbfdncabGreatDoor
open Go.RowKit

theorem only_chg {c : Nat} {X Y : World} (h : Only c X Y) : Chg [c] X Y := ⟨h.os, h.tape, h.output, h.size, fun g hg hn => h.block g hg (fun e => hn (List.mem_singleton.2 e))⟩
theorem only_below {c b : Nat} {X Y : World} (h : Only c X Y) (hb : b ≤ c) (hs : b ≤ X.heap.size) : Below b X Y := (only_chg h).below (fun g hg => by rw [List.mem_singleton] at hg; omega) hs

end Go.Proofs.YtoaifgblbfdncabGreatDoor
namespace Go.Proofs.YtoaifgblbfdncabGreatDoor
open Go.RowKit

theorem VarA.keep {r : Nat} {t : TypeId} {cs : Array Value} {X Y : World} {b : Nat} (h : VarA r t cs X) (hb : Below b X Y) (hr : r < b) : VarA r t cs Y := ⟨(hb.block r hr).trans h.row⟩
theorem set_seven {X : World} {G : Nat} {a b c d e f g p0 p1 p2 p3 p4 p5 p6 : Value} (h : VarA G PkT #[a, b, c, d, e, f, g] X) : VarA G PkT #[p0, p1, p2, p3, p4, p5, p6] (((((((X.setCell ⟨G, 0, none⟩ p0).setCell ⟨G, 1, none⟩ p1).setCell ⟨G, 2, none⟩ p2).setCell ⟨G, 3, none⟩ p3).setCell ⟨G, 4, none⟩ p4).setCell ⟨G, 5, none⟩ p5).setCell ⟨G, 6, none⟩ p6) := by
  have h0 : VarA G PkT #[p0, b, c, d, e, f, g] _ := h.set 0 p0
  have h1 : VarA G PkT #[p0, p1, c, d, e, f, g] _ := h0.set 1 p1
  have h2 : VarA G PkT #[p0, p1, p2, d, e, f, g] _ := h1.set 2 p2
  have h3 : VarA G PkT #[p0, p1, p2, p3, e, f, g] _ := h2.set 3 p3
  have h4 : VarA G PkT #[p0, p1, p2, p3, p4, f, g] _ := h3.set 4 p4
  have h5 : VarA G PkT #[p0, p1, p2, p3, p4, p5, g] _ := h4.set 5 p5
  exact h5.set 6 p6
theorem only_seven (X : World) (G : Nat) (p0 p1 p2 p3 p4 p5 p6 : Value) : Only G X (((((((X.setCell ⟨G, 0, none⟩ p0).setCell ⟨G, 1, none⟩ p1).setCell ⟨G, 2, none⟩ p2).setCell ⟨G, 3, none⟩ p3).setCell ⟨G, 4, none⟩ p4).setCell ⟨G, 5, none⟩ p5).setCell ⟨G, 6, none⟩ p6) :=
  ((((((Only.setCell 0 p0).trans (Only.setCell 1 p1)).trans (Only.setCell 2 p2)).trans (Only.setCell 3 p3)).trans (Only.setCell 4 p4)).trans (Only.setCell 5 p5)).trans (Only.setCell 6 p6)

end Go.Proofs.YtoaifgblbfdncabGreatDoor
namespace Go.Proofs.YtoaifgblbfdncabGreatDoor
open Go.RowKit

abbrev LPkT : TypeId := 28

/-- While a packet is laid: the argument, the result, the copy. -/
structure TP (w : World) (bs cs : Array Value) (X : World) : Prop where
  box : VarA w.heap.size LPkT bs X
  res : VarA (w.heap.size + 1) PkT #[.int .i64 0, .int .i64 0, .int .i64 0, .int .i64 0, .int .i64 0, .slice none 0 0, .string ⟨#[]⟩] X
  var : VarA (w.heap.size + 2) PkT cs X
  below : Below w.heap.size w X
theorem TP.next {w : World} {bs cs : Array Value} {X Y : World} (h : TP w bs cs X) (hb : Below X.heap.size X Y) : TP w bs cs Y := ⟨h.box.next hb, h.res.next hb, h.var.next hb, h.below.trans (hb.mono h.below.size)⟩
theorem TP.set {w : World} {bs cs : Array Value} {X : World} (h : TP w bs cs X) (j : Nat) (u : Value) : TP w bs (cs.setIfInBounds j u) (X.setCell ⟨w.heap.size + 2, j, none⟩ u) := by
  have ho : Only (w.heap.size + 2) X (X.setCell ⟨w.heap.size + 2, j, none⟩ u) := Only.setCell j u
  exact ⟨h.box.only ho (by omega), h.res.only ho (by omega), h.var.set j u, h.below.trans (only_below ho (by omega) h.below.size)⟩
/-- What toPacket gives. -/
def PkMade (op key fr dst num : Int) (xs : List Int) (body : ByteArray) (w : World) (e : Ending) (w' : World) : Prop :=
  ∃ (na : Option Addr) (nc : Nat) (f : List Nat), e = .returned (.agg #[.int .i64 op, .int .i64 key, .int .i64 fr, .int .i64 dst, .int .i64 num, .slice na xs.length nc, .string body]) ∧ f.Nodup ∧ layIntS.own w' w.heap.size f [.slice na xs.length nc] xs ∧ Below w.heap.size w w'

set_option maxRecDepth 100000 in
set_option maxHeartbeats 1600000 in
theorem toPacket_any (op key fr dst num : Int) (v : Value) (xs : List Int) (body : ByteArray) (hl : xs.length ≤ 1048576) (w : World) (h : layIntS.rd w [v] xs) :
    Calls Tryz.prog 8 #[.agg #[.int .i64 op, .int .i64 key, .int .i64 fr, .int .i64 dst, .int .i64 num, v, .string body]] w (PkMade op key fr dst num xs body w) := by
  obtain ⟨a, cp, rfl⟩ := rows_form h
  have HR := Lib.hid h
  have T0 : Hid (TP w #[.int .i64 op, .int .i64 key, .int .i64 fr, .int .i64 dst, .int .i64 num, .slice a xs.length cp, .string body] #[.int .i64 0, .int .i64 0, .int .i64 0, .int .i64 0, .int .i64 0, .slice none 0 0, .string ⟨#[]⟩] (((w.alloc (.cells #[.int .i64 op, .int .i64 key, .int .i64 fr, .int .i64 dst, .int .i64 num, .slice a xs.length cp, .string body] LPkT)).alloc (.cells #[.int .i64 0, .int .i64 0, .int .i64 0, .int .i64 0, .int .i64 0, .slice none 0 0, .string ⟨#[]⟩] PkT)).alloc (.cells #[.int .i64 0, .int .i64 0, .int .i64 0, .int .i64 0, .int .i64 0, .slice none 0 0, .string ⟨#[]⟩] PkT))) := by
    have e1 : (w.alloc (.cells #[.int .i64 op, .int .i64 key, .int .i64 fr, .int .i64 dst, .int .i64 num, .slice a xs.length cp, .string body] LPkT)).heap.size = w.heap.size + 1 := by simp
    have e2 : ((w.alloc (.cells #[.int .i64 op, .int .i64 key, .int .i64 fr, .int .i64 dst, .int .i64 num, .slice a xs.length cp, .string body] LPkT)).alloc (.cells #[.int .i64 0, .int .i64 0, .int .i64 0, .int .i64 0, .int .i64 0, .slice none 0 0, .string ⟨#[]⟩] PkT)).heap.size = w.heap.size + 2 := by simp
    have A1 := VarA.new (w.alloc (.cells #[.int .i64 op, .int .i64 key, .int .i64 fr, .int .i64 dst, .int .i64 num, .slice a xs.length cp, .string body] LPkT)) PkT #[.int .i64 0, .int .i64 0, .int .i64 0, .int .i64 0, .int .i64 0, .slice none 0 0, .string ⟨#[]⟩]
    have A2 := VarA.new ((w.alloc (.cells #[.int .i64 op, .int .i64 key, .int .i64 fr, .int .i64 dst, .int .i64 num, .slice a xs.length cp, .string body] LPkT)).alloc (.cells #[.int .i64 0, .int .i64 0, .int .i64 0, .int .i64 0, .int .i64 0, .slice none 0 0, .string ⟨#[]⟩] PkT)) PkT #[.int .i64 0, .int .i64 0, .int .i64 0, .int .i64 0, .int .i64 0, .slice none 0 0, .string ⟨#[]⟩]
    rw [e1] at A1
    rw [e2] at A2
    exact ⟨((VarA.new w LPkT #[.int .i64 op, .int .i64 key, .int .i64 fr, .int .i64 dst, .int .i64 num, .slice a xs.length cp, .string body]).alloc _).alloc _, A1.alloc _, A2, (((Below.refl w.heap.size w).alloc (Nat.le_refl _) _).alloc (by simp) _).alloc (by simp; omega) _⟩
  clear h
  go_enter Tryz.func8, Tryz.ntmps8
  go_upto_region 2 with fail
  generalize ((w.alloc (.cells #[.int .i64 op, .int .i64 key, .int .i64 fr, .int .i64 dst, .int .i64 num, .slice a xs.length cp, .string body] LPkT)).alloc (.cells #[.int .i64 0, .int .i64 0, .int .i64 0, .int .i64 0, .int .i64 0, .slice none 0 0, .string ⟨#[]⟩] PkT)).alloc (.cells #[.int .i64 0, .int .i64 0, .int .i64 0, .int .i64 0, .int .i64 0, .slice none 0 0, .string ⟨#[]⟩] PkT) = X0 at *
  have b0 : X0.cell? ⟨w.heap.size, 0, none⟩ = some (.int .i64 op) := T0.out.box.cell 0
  have d0 : X0.cell? ⟨w.heap.size + 2, 0, none⟩ = some (.int .i64 0) := T0.out.var.cell 0
  have f0 := T0.out.var.free 0
  have T1 : Hid (TP w #[.int .i64 op, .int .i64 key, .int .i64 fr, .int .i64 dst, .int .i64 num, .slice a xs.length cp, .string body] #[.int .i64 op, .int .i64 0, .int .i64 0, .int .i64 0, .int .i64 0, .slice none 0 0, .string ⟨#[]⟩] (X0.setCell ⟨w.heap.size + 2, 0, none⟩ (.int .i64 op))) := T0.out.set 0 (.int .i64 op)
  clear T0
  go_upto_region 3 with fail
  generalize X0.setCell ⟨w.heap.size + 2, 0, none⟩ (.int .i64 op) = X1 at *
  clear b0 d0 f0
  have b1 : X1.cell? ⟨w.heap.size, 1, none⟩ = some (.int .i64 key) := T1.out.box.cell 1
  have d1 : X1.cell? ⟨w.heap.size + 2, 1, none⟩ = some (.int .i64 0) := T1.out.var.cell 1
  have f1 := T1.out.var.free 1
  have T2 : Hid (TP w #[.int .i64 op, .int .i64 key, .int .i64 fr, .int .i64 dst, .int .i64 num, .slice a xs.length cp, .string body] #[.int .i64 op, .int .i64 key, .int .i64 0, .int .i64 0, .int .i64 0, .slice none 0 0, .string ⟨#[]⟩] (X1.setCell ⟨w.heap.size + 2, 1, none⟩ (.int .i64 key))) := T1.out.set 1 (.int .i64 key)
  clear T1
  go_upto_region 4 with fail
  generalize X1.setCell ⟨w.heap.size + 2, 1, none⟩ (.int .i64 key) = X2 at *
  clear b1 d1 f1
  have b2 : X2.cell? ⟨w.heap.size, 2, none⟩ = some (.int .i64 fr) := T2.out.box.cell 2
  have d2 : X2.cell? ⟨w.heap.size + 2, 2, none⟩ = some (.int .i64 0) := T2.out.var.cell 2
  have f2 := T2.out.var.free 2
  have T3 : Hid (TP w #[.int .i64 op, .int .i64 key, .int .i64 fr, .int .i64 dst, .int .i64 num, .slice a xs.length cp, .string body] #[.int .i64 op, .int .i64 key, .int .i64 fr, .int .i64 0, .int .i64 0, .slice none 0 0, .string ⟨#[]⟩] (X2.setCell ⟨w.heap.size + 2, 2, none⟩ (.int .i64 fr))) := T2.out.set 2 (.int .i64 fr)
  clear T2
  go_upto_region 5 with fail
  generalize X2.setCell ⟨w.heap.size + 2, 2, none⟩ (.int .i64 fr) = X3 at *
  clear b2 d2 f2
  have b3 : X3.cell? ⟨w.heap.size, 3, none⟩ = some (.int .i64 dst) := T3.out.box.cell 3
  have d3 : X3.cell? ⟨w.heap.size + 2, 3, none⟩ = some (.int .i64 0) := T3.out.var.cell 3
  have f3 := T3.out.var.free 3
  have T4 : Hid (TP w #[.int .i64 op, .int .i64 key, .int .i64 fr, .int .i64 dst, .int .i64 num, .slice a xs.length cp, .string body] #[.int .i64 op, .int .i64 key, .int .i64 fr, .int .i64 dst, .int .i64 0, .slice none 0 0, .string ⟨#[]⟩] (X3.setCell ⟨w.heap.size + 2, 3, none⟩ (.int .i64 dst))) := T3.out.set 3 (.int .i64 dst)
  clear T3
  go_upto_region 6 with fail
  generalize X3.setCell ⟨w.heap.size + 2, 3, none⟩ (.int .i64 dst) = X4 at *
  clear b3 d3 f3
  have b4 : X4.cell? ⟨w.heap.size, 4, none⟩ = some (.int .i64 num) := T4.out.box.cell 4
  have d4 : X4.cell? ⟨w.heap.size + 2, 4, none⟩ = some (.int .i64 0) := T4.out.var.cell 4
  have f4 := T4.out.var.free 4
  have T5 : Hid (TP w #[.int .i64 op, .int .i64 key, .int .i64 fr, .int .i64 dst, .int .i64 num, .slice a xs.length cp, .string body] #[.int .i64 op, .int .i64 key, .int .i64 fr, .int .i64 dst, .int .i64 num, .slice none 0 0, .string ⟨#[]⟩] (X4.setCell ⟨w.heap.size + 2, 4, none⟩ (.int .i64 num))) := T4.out.set 4 (.int .i64 num)
  clear T4
  go_upto_region 7 with fail
  generalize X4.setCell ⟨w.heap.size + 2, 4, none⟩ (.int .i64 num) = X5 at *
  clear b4 d4 f4
  have b5 : X5.cell? ⟨w.heap.size, 5, none⟩ = some (.slice a xs.length cp) := T5.out.box.cell 5
  have KT := Lib.hid (toIntS_any (.slice a xs.length cp) xs hl X5 (layIntS.below HR.out T5.out.below))
  go_wp2_with fail
  refine KT.out.mono ?_
  rintro e Y5 ⟨v', fp, rfl, hd, hown, hb⟩
  obtain ⟨na, nc, rfl⟩ := rows_form (layIntS.read hown)
  have T5b := Lib.hid (T5.out.next hb)
  have hsz : w.heap.size + 3 ≤ X5.heap.size := T5.out.var.lt
  have OW := Lib.hid hown
  have LB : Hid (∀ g ∈ fp, w.heap.size + 3 ≤ g) := fun g hg => Nat.le_trans hsz (layIntS.blocks hown g hg).1
  clear hown hb T5 b5 KT HR
  have d5 : Y5.cell? ⟨w.heap.size + 2, 5, none⟩ = some (.slice none 0 0) := T5b.out.var.cell 5
  have f5 := T5b.out.var.free 5
  have T6 : Hid (TP w #[.int .i64 op, .int .i64 key, .int .i64 fr, .int .i64 dst, .int .i64 num, .slice a xs.length cp, .string body] #[.int .i64 op, .int .i64 key, .int .i64 fr, .int .i64 dst, .int .i64 num, .slice na xs.length nc, .string ⟨#[]⟩] (Y5.setCell ⟨w.heap.size + 2, 5, none⟩ (.slice na xs.length nc))) := T5b.out.set 5 (.slice na xs.length nc)
  replace OW : Hid (layIntS.own (Y5.setCell ⟨w.heap.size + 2, 5, none⟩ (.slice na xs.length nc)) X5.heap.size fp [.slice na xs.length nc] xs) := layIntS.chg OW.out (Chg.cell _ _ _ _) (fun g hg => by have := LB.out g hg; simp; omega)
  clear T5b
  go_upto_region 8 with fail
  generalize Y5.setCell ⟨w.heap.size + 2, 5, none⟩ (.slice na xs.length nc) = X6 at *
  clear d5 f5
  have b6 : X6.cell? ⟨w.heap.size, 6, none⟩ = some (.string body) := T6.out.box.cell 6
  have d6 : X6.cell? ⟨w.heap.size + 2, 6, none⟩ = some (.string ⟨#[]⟩) := T6.out.var.cell 6
  have f6 := T6.out.var.free 6
  have T7 : Hid (TP w #[.int .i64 op, .int .i64 key, .int .i64 fr, .int .i64 dst, .int .i64 num, .slice a xs.length cp, .string body] #[.int .i64 op, .int .i64 key, .int .i64 fr, .int .i64 dst, .int .i64 num, .slice na xs.length nc, .string body] (X6.setCell ⟨w.heap.size + 2, 6, none⟩ (.string body))) := T6.out.set 6 (.string body)
  replace OW : Hid (layIntS.own (X6.setCell ⟨w.heap.size + 2, 6, none⟩ (.string body)) X5.heap.size fp [.slice na xs.length nc] xs) := layIntS.chg OW.out (Chg.cell _ _ _ _) (fun g hg => by have := LB.out g hg; simp; omega)
  clear T6
  go_upto_region 9 with fail
  generalize X6.setCell ⟨w.heap.size + 2, 6, none⟩ (.string body) = X7 at *
  clear b6 d6 f6
  have p0 : X7.cell? ⟨w.heap.size + 2, 0, none⟩ = some (.int .i64 op) := T7.out.var.cell 0
  have g0 := T7.out.res.free 0
  have q0 : X7.cell? ⟨w.heap.size + 1, 0, none⟩ = some (.int .i64 0) := T7.out.res.cell 0
  have p1 : X7.cell? ⟨w.heap.size + 2, 1, none⟩ = some (.int .i64 key) := T7.out.var.cell 1
  have g1 := T7.out.res.free 1
  have q1 : X7.cell? ⟨w.heap.size + 1, 1, none⟩ = some (.int .i64 0) := T7.out.res.cell 1
  have p2 : X7.cell? ⟨w.heap.size + 2, 2, none⟩ = some (.int .i64 fr) := T7.out.var.cell 2
  have g2 := T7.out.res.free 2
  have q2 : X7.cell? ⟨w.heap.size + 1, 2, none⟩ = some (.int .i64 0) := T7.out.res.cell 2
  have p3 : X7.cell? ⟨w.heap.size + 2, 3, none⟩ = some (.int .i64 dst) := T7.out.var.cell 3
  have g3 := T7.out.res.free 3
  have q3 : X7.cell? ⟨w.heap.size + 1, 3, none⟩ = some (.int .i64 0) := T7.out.res.cell 3
  have p4 : X7.cell? ⟨w.heap.size + 2, 4, none⟩ = some (.int .i64 num) := T7.out.var.cell 4
  have g4 := T7.out.res.free 4
  have q4 : X7.cell? ⟨w.heap.size + 1, 4, none⟩ = some (.int .i64 0) := T7.out.res.cell 4
  have p5 : X7.cell? ⟨w.heap.size + 2, 5, none⟩ = some (.slice na xs.length nc) := T7.out.var.cell 5
  have g5 := T7.out.res.free 5
  have q5 : X7.cell? ⟨w.heap.size + 1, 5, none⟩ = some (.slice none 0 0) := T7.out.res.cell 5
  have p6 : X7.cell? ⟨w.heap.size + 2, 6, none⟩ = some (.string body) := T7.out.var.cell 6
  have g6 := T7.out.res.free 6
  have q6 : X7.cell? ⟨w.heap.size + 1, 6, none⟩ = some (.string ⟨#[]⟩) := T7.out.res.cell 6
  have O7 := only_seven X7 (w.heap.size + 1) (.int .i64 op) (.int .i64 key) (.int .i64 fr) (.int .i64 dst) (.int .i64 num) (.slice na xs.length nc) (.string body)
  have hs7 := T7.out.below.size
  have FIN : Hid (PkMade op key fr dst num xs body w (.returned (.agg #[.int .i64 op, .int .i64 key, .int .i64 fr, .int .i64 dst, .int .i64 num, .slice na xs.length nc, .string body])) (((((((X7.setCell ⟨w.heap.size + 1, 0, none⟩ (.int .i64 op)).setCell ⟨w.heap.size + 1, 1, none⟩ (.int .i64 key)).setCell ⟨w.heap.size + 1, 2, none⟩ (.int .i64 fr)).setCell ⟨w.heap.size + 1, 3, none⟩ (.int .i64 dst)).setCell ⟨w.heap.size + 1, 4, none⟩ (.int .i64 num)).setCell ⟨w.heap.size + 1, 5, none⟩ (.slice na xs.length nc)).setCell ⟨w.heap.size + 1, 6, none⟩ (.string body))) :=
    ⟨na, nc, fp, rfl, hd, layIntS.lower (layIntS.chg OW.out (only_chg O7) (fun g hg => by have := LB.out g hg; simp; omega)) (by omega), T7.out.below.trans (only_below O7 (by omega) hs7)⟩
  have R7 := set_seven (p0 := .int .i64 op) (p1 := .int .i64 key) (p2 := .int .i64 fr) (p3 := .int .i64 dst) (p4 := .int .i64 num) (p5 := .slice na xs.length nc) (p6 := .string body) T7.out.res
  have j0 := R7.cell 0
  have j1 := R7.cell 1
  have j2 := R7.cell 2
  have j3 := R7.cell 3
  have j4 := R7.cell 4
  have j5 := R7.cell 5
  have j6 := R7.cell 6
  clear R7 T7 O7 OW LB
  go_wp2_with fail
  exact bodyPost_ret (v := .agg #[.int .i64 op, .int .i64 key, .int .i64 fr, .int .i64 dst, .int .i64 num, .slice na xs.length nc, .string body]) (by simp [results, Tryz.results8, go_sem, j0, j1, j2, j3, j4, j5, j6]) rfl FIN.out

end Go.Proofs.YtoaifgblbfdncabGreatDoor
