/-
  The program's Install, with the library's Clone.
  Two slots in a variable, with rows of their own; marked and held.
-/
import Derived.Test.YtpfkokjbpfaafauJ14
import Derived.Test.YtpfkokjbpfaafauJ21
import Derived.Test.YtpfkokjbpfaafauJ19
namespace Go.Proofs.Ytpfkokjbpfaafau
open Go.RowKit

theorem implInstall_any (x0 : Int) (x1 x2 : ByteArray) (x3 : Int) (v4 : Value) (r4 : List Int) (x5 : Int) (y0 : Int) (y1 y2 : ByteArray) (y3 : Int) (u4 : Value) (s4 : List Int) (y5 : Int) (send op : ByteArray) (now : Int) (q1 : send.size ≤ 1048576) (q2 : op.size ≤ 1048576) (f1 : FitsSlot x1 x2 r4) (f2 : FitsSlot y1 y2 s4) (gx : SlG x0 x1 x2 x3 r4 x5) (gy : SlG y0 y1 y2 y3 s4 y5) (_hwn : IntZ now) (w : World) (h : layIntS.rd w [v4] r4) (k : layIntS.rd w [u4] s4) :
    Calls Try.prog 17 #[.agg #[.int .i64 x0, .string x1, .string x2, .int .i64 x3, v4, .int .i64 x5, .int .i64 y0, .string y1, .string y2, .int .i64 y3, u4, .int .i64 y5], .string send, .string op, .int .i64 now] w (InstallEnd x0 x1 x2 x3 r4 x5 y0 y1 y2 y3 s4 y5 send op now w) :=
  implInstall_of cloneS x0 x1 x2 x3 v4 r4 x5 y0 y1 y2 y3 u4 s4 y5 send op now q1 q2 f1 f2 gx gy w h k

end Go.Proofs.Ytpfkokjbpfaafau
namespace Go.Proofs.Ytpfkokjbpfaafau
open Go.RowKit

/-- Two slots in variable G, whose rows lie in blocks from lo on, below hi. -/
structure SO (lo hi G : Nat) (cs : Array Value) (v u : Value) (r s : List Int) (X : World) : Prop where
  var : VarA G SlotsT cs X
  co : ∃ f g : List Nat, (f ++ g).Nodup ∧ layIntS.own X lo f [v] r ∧ layIntS.own X lo g [u] s ∧ ∀ a ∈ f ++ g, a < hi
  gh : hi ≤ G
section
variable {lo hi G : Nat} {cs : Array Value} {v u : Value} {r s : List Int} {X Y : World}
theorem SO.next (h : SO lo hi G cs v u r s X) (hb : Below X.heap.size X Y) : SO lo hi G cs v u r s Y := by
  obtain ⟨f, g, hd, h1, h2, h3⟩ := h.co
  exact ⟨h.var.next hb, ⟨f, g, hd, layIntS.next h1 hb, layIntS.next h2 hb, h3⟩, h.gh⟩
theorem SO.rd1 (h : SO lo hi G cs v u r s X) : layIntS.rd X [v] r := by
  obtain ⟨f, g, hd, h1, h2, h3⟩ := h.co
  exact layIntS.read h1
theorem SO.rd2 (h : SO lo hi G cs v u r s X) : layIntS.rd X [u] s := by
  obtain ⟨f, g, hd, h1, h2, h3⟩ := h.co
  exact layIntS.read h2
/-- Blocks from a on, below b, alone are changed. -/
def ChgIn (a b : Nat) (X Y : World) : Prop := ∃ f : List Nat, (∀ g ∈ f, a ≤ g ∧ g < b) ∧ Chg f X Y
theorem SO.away (h : SO lo hi G cs v u r s X) {a b : Nat} (hc : ChgIn a b X Y) (ho : b ≤ lo ∨ hi ≤ a) (hG : G < a ∨ b ≤ G) : SO lo hi G cs v u r s Y := by
  obtain ⟨f, g, hd, h1, h2, h3⟩ := h.co
  obtain ⟨e, he, hc⟩ := hc
  refine ⟨⟨(hc.block G h.var.lt (fun hm => by have := he G hm; omega)).trans h.var.row⟩, ⟨f, g, hd, layIntS.chg h1 hc (fun x hx hm => ?_), layIntS.chg h2 hc (fun x hx hm => ?_), h3⟩, h.gh⟩
  · have h5 := (layIntS.blocks h1 x hx).1
    have h6 := h3 x (List.mem_append_left _ hx)
    have h7 := he x hm
    omega
  · have h5 := (layIntS.blocks h2 x hx).1
    have h6 := h3 x (List.mem_append_right _ hx)
    have h7 := he x hm
    omega
theorem ChgIn.var {a b : Nat} (hc : ChgIn a b X Y) {q : Nat} {t : TypeId} {es : Array Value} (h : VarA q t es X) (hq : q < a ∨ b ≤ q) : VarA q t es Y := by
  obtain ⟨f, h1, h2⟩ := hc
  exact ⟨(h2.block q h.lt (fun hm => by have := h1 q hm; omega)).trans h.row⟩
theorem ChgIn.below {W : World} {a b : Nat} (hb : Below W.heap.size W X) (hc : ChgIn a b X Y) (ha : W.heap.size ≤ a) : Below W.heap.size W Y := by
  obtain ⟨f, h1, h2⟩ := hc
  exact hb.trans (h2.below (fun g hg => by have := h1 g hg; omega) hb.size)
theorem ChgIn.size {a b : Nat} (hc : ChgIn a b X Y) : X.heap.size ≤ Y.heap.size := by
  obtain ⟨f, _, h⟩ := hc
  exact h.size
theorem SO.mark {z0 : Int} {z1 z2 : ByteArray} {z3 : Int} {z5 : Int} {n0 : Int} {n1 n2 : ByteArray} {n3 : Int} {n5 : Int} (h : SO lo hi G #[.int .i64 z0, .string z1, .string z2, .int .i64 z3, v, .int .i64 z5, .int .i64 n0, .string n1, .string n2, .int .i64 n3, u, .int .i64 n5] v u r s X) (l4 : r.length ≤ 10000000) (l5 : s.length ≤ 10000000) :
    Calls Try.prog 18 #[.agg #[.int .i64 z0, .string z1, .string z2, .int .i64 z3, v, .int .i64 z5, .int .i64 n0, .string n1, .string n2, .int .i64 n3, u, .int .i64 n5], .int .i64 1] X fun e Y => e = .returned (.int .i64 (1 + 1 * (r.length : Int) + 1 * (s.length : Int))) ∧ SO lo hi G #[.int .i64 z0, .string z1, .string z2, .int .i64 z3, v, .int .i64 z5, .int .i64 n0, .string n1, .string n2, .int .i64 n3, u, .int .i64 n5] v u (layIntS.mark 1 r).1 (layIntS.mark (1 + 1 * (r.length : Int)) s).1 Y ∧ ChgIn lo hi X Y := by
  obtain ⟨f, g, hd, h1, h2, h3⟩ := h.co
  refine (markSlots_any z0 z1 z2 z3 v r z5 n0 n1 n2 n3 u s n5 lo f g l4 l5 1 (by omega) (by omega) X hd h1 h2).mono ?_
  rintro e Y ⟨rfl, k1, k2, hc⟩
  have hin : ∀ a ∈ f ++ g, lo ≤ a ∧ a < hi := fun a ha => ⟨by
    rcases List.mem_append.1 ha with ha | ha
    · exact (layIntS.blocks h1 a ha).1
    · exact (layIntS.blocks h2 a ha).1, h3 a ha⟩
  have hG := h.gh
  exact ⟨rfl, ⟨⟨(hc.block G h.var.lt (fun hm => by have := hin G hm; omega)).trans h.var.row⟩, ⟨f, g, hd, k1, k2, h3⟩, h.gh⟩, f ++ g, hin, hc⟩
theorem SO.held {z0 : Int} {z1 z2 : ByteArray} {z3 : Int} {z5 : Int} {n0 : Int} {n1 n2 : ByteArray} {n3 : Int} {n5 : Int} (h : SO lo hi G #[.int .i64 z0, .string z1, .string z2, .int .i64 z3, v, .int .i64 z5, .int .i64 n0, .string n1, .string n2, .int .i64 n3, u, .int .i64 n5] v u (layIntS.mark 1 r).1 (layIntS.mark (1 + 1 * (r.length : Int)) s).1 X) (l4 : r.length ≤ 10000000) (l5 : s.length ≤ 10000000) :
    Calls Try.prog 19 #[.agg #[.int .i64 z0, .string z1, .string z2, .int .i64 z3, v, .int .i64 z5, .int .i64 n0, .string n1, .string n2, .int .i64 n3, u, .int .i64 n5], .int .i64 1] X fun e Y => e = .returned (.int .i64 (1 + 1 * (r.length : Int) + 1 * (s.length : Int))) ∧ Below X.heap.size X Y :=
  heldSlots_any z0 z1 z2 z3 v r z5 n0 n1 n2 n3 u s n5 l4 l5 1 (by omega) (by omega) X h.rd1 h.rd2
end
theorem SO.new {W X : World} {cs : Array Value} {v u : Value} {r s : List Int} {f g : List Nat} (hd : (f ++ g).Nodup) (h1 : layIntS.own X W.heap.size f [v] r) (h2 : layIntS.own X W.heap.size g [u] s) : SO W.heap.size X.heap.size X.heap.size cs v u r s (X.alloc (.cells cs SlotsT)) :=
  ⟨VarA.new X SlotsT cs, ⟨f, g, hd, layIntS.next h1 ((Below.refl _ _).alloc (Nat.le_refl _) _), layIntS.next h2 ((Below.refl _ _).alloc (Nat.le_refl _) _), fun a ha => by
    rcases List.mem_append.1 ha with ha | ha
    · exact (layIntS.blocks h1 a ha).2
    · exact (layIntS.blocks h2 a ha).2⟩, Nat.le_refl _⟩

end Go.Proofs.Ytpfkokjbpfaafau
