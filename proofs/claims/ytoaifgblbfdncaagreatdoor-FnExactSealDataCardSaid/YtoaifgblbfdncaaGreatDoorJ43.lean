/-
  Two slots in a variable, with rows of their own; marked and held.
  What one block alone changes, in the words of footprints.
  A packet in a variable of seven cells, and its row.
  The test package's functions over packets: laid, measured, held against each other, marked.
  The test package's functions over packets: measured, held against each other, marked, found marked.
-/
import Derived.Test.YtoaifgblbfdncaaGreatDoorJ39
import Derived.Test.YtoaifgblbfdncaaGreatDoorJ01
import Derived.Test.YtoaifgblbfdncaaGreatDoorJ03
import Derived.Test.YtoaifgblbfdncaaGreatDoorJ24
import Derived.Test.YtoaifgblbfdncaaGreatDoorJ04
import Derived.Test.YtoaifgblbfdncaaGreatDoorJ05
namespace Go.Proofs.YtoaifgblbfdncaaGreatDoor
open Go.RowKit

/-- Two slots in variable G, whose rows lie in blocks from lo on, below hi. -/
structure SO (lo hi G : Nat) (cs : Array Value) (v u : Value) (r s : List Int) (X : World) : Prop where
  var : VarA G SlotsT cs X
  co : ∃ f g : List Nat, (f ++ g).Nodup ∧ layIntS.own X lo f [v] r ∧ layIntS.own X lo g [u] s ∧ ∀ a ∈ f ++ g, a < hi
  gh : hi ≤ G
section
variable {lo hi G : Nat} {cs : Array Value} {v u : Value} {r s : List Int} {X Y : World}
theorem SO.next (h : SO lo hi G cs v u r s X) (hb : Below X.heap.size X Y) : SO lo hi G cs v u r s Y := by
  obtain ⟨f, g, hd, h1, h2, h3⟩ := h.co
  exact ⟨h.var.next hb, ⟨f, g, hd, layIntS.next h1 hb, layIntS.next h2 hb, h3⟩, h.gh⟩
theorem SO.rd1 (h : SO lo hi G cs v u r s X) : layIntS.rd X [v] r := by
  obtain ⟨f, g, hd, h1, h2, h3⟩ := h.co
  exact layIntS.read h1
theorem SO.rd2 (h : SO lo hi G cs v u r s X) : layIntS.rd X [u] s := by
  obtain ⟨f, g, hd, h1, h2, h3⟩ := h.co
  exact layIntS.read h2
/-- Blocks from a on, below b, alone are changed. -/
def ChgIn (a b : Nat) (X Y : World) : Prop := ∃ f : List Nat, (∀ g ∈ f, a ≤ g ∧ g < b) ∧ Chg f X Y
theorem SO.away (h : SO lo hi G cs v u r s X) {a b : Nat} (hc : ChgIn a b X Y) (ho : b ≤ lo ∨ hi ≤ a) (hG : G < a ∨ b ≤ G) : SO lo hi G cs v u r s Y := by
  obtain ⟨f, g, hd, h1, h2, h3⟩ := h.co
  obtain ⟨e, he, hc⟩ := hc
  refine ⟨⟨(hc.block G h.var.lt (fun hm => by have := he G hm; omega)).trans h.var.row⟩, ⟨f, g, hd, layIntS.chg h1 hc (fun x hx hm => ?_), layIntS.chg h2 hc (fun x hx hm => ?_), h3⟩, h.gh⟩
  · have h5 := (layIntS.blocks h1 x hx).1
    have h6 := h3 x (List.mem_append_left _ hx)
    have h7 := he x hm
    omega
  · have h5 := (layIntS.blocks h2 x hx).1
    have h6 := h3 x (List.mem_append_right _ hx)
    have h7 := he x hm
    omega
theorem ChgIn.var {a b : Nat} (hc : ChgIn a b X Y) {q : Nat} {t : TypeId} {es : Array Value} (h : VarA q t es X) (hq : q < a ∨ b ≤ q) : VarA q t es Y := by
  obtain ⟨f, h1, h2⟩ := hc
  exact ⟨(h2.block q h.lt (fun hm => by have := h1 q hm; omega)).trans h.row⟩
theorem ChgIn.below {W : World} {a b : Nat} (hb : Below W.heap.size W X) (hc : ChgIn a b X Y) (ha : W.heap.size ≤ a) : Below W.heap.size W Y := by
  obtain ⟨f, h1, h2⟩ := hc
  exact hb.trans (h2.below (fun g hg => by have := h1 g hg; omega) hb.size)
theorem ChgIn.size {a b : Nat} (hc : ChgIn a b X Y) : X.heap.size ≤ Y.heap.size := by
  obtain ⟨f, _, h⟩ := hc
  exact h.size
theorem SO.mark {z0 : Int} {z1 z2 : ByteArray} {z3 : Int} {z5 : Int} {n0 : Int} {n1 n2 : ByteArray} {n3 : Int} {n5 : Int} (h : SO lo hi G #[.int .i64 z0, .string z1, .string z2, .int .i64 z3, v, .int .i64 z5, .int .i64 n0, .string n1, .string n2, .int .i64 n3, u, .int .i64 n5] v u r s X) (l4 : r.length ≤ 10000000) (l5 : s.length ≤ 10000000) :
    Calls Tryz.prog 20 #[.agg #[.int .i64 z0, .string z1, .string z2, .int .i64 z3, v, .int .i64 z5, .int .i64 n0, .string n1, .string n2, .int .i64 n3, u, .int .i64 n5], .int .i64 1] X fun e Y => e = .returned (.int .i64 (1 + 1 * (r.length : Int) + 1 * (s.length : Int))) ∧ SO lo hi G #[.int .i64 z0, .string z1, .string z2, .int .i64 z3, v, .int .i64 z5, .int .i64 n0, .string n1, .string n2, .int .i64 n3, u, .int .i64 n5] v u (layIntS.mark 1 r).1 (layIntS.mark (1 + 1 * (r.length : Int)) s).1 Y ∧ ChgIn lo hi X Y := by
  obtain ⟨f, g, hd, h1, h2, h3⟩ := h.co
  refine (markSlots_any z0 z1 z2 z3 v r z5 n0 n1 n2 n3 u s n5 lo f g l4 l5 1 (by omega) (by omega) X hd h1 h2).mono ?_
  rintro e Y ⟨rfl, k1, k2, hc⟩
  have hin : ∀ a ∈ f ++ g, lo ≤ a ∧ a < hi := fun a ha => ⟨by
    rcases List.mem_append.1 ha with ha | ha
    · exact (layIntS.blocks h1 a ha).1
    · exact (layIntS.blocks h2 a ha).1, h3 a ha⟩
  have hG := h.gh
  exact ⟨rfl, ⟨⟨(hc.block G h.var.lt (fun hm => by have := hin G hm; omega)).trans h.var.row⟩, ⟨f, g, hd, k1, k2, h3⟩, h.gh⟩, f ++ g, hin, hc⟩
end
theorem SO.new {W X : World} {cs : Array Value} {v u : Value} {r s : List Int} {f g : List Nat} (hd : (f ++ g).Nodup) (h1 : layIntS.own X W.heap.size f [v] r) (h2 : layIntS.own X W.heap.size g [u] s) : SO W.heap.size X.heap.size X.heap.size cs v u r s (X.alloc (.cells cs SlotsT)) :=
  ⟨VarA.new X SlotsT cs, ⟨f, g, hd, layIntS.next h1 ((Below.refl _ _).alloc (Nat.le_refl _) _), layIntS.next h2 ((Below.refl _ _).alloc (Nat.le_refl _) _), fun a ha => by
    rcases List.mem_append.1 ha with ha | ha
    · exact (layIntS.blocks h1 a ha).2
    · exact (layIntS.blocks h2 a ha).2⟩, Nat.le_refl _⟩

end Go.Proofs.YtoaifgblbfdncaaGreatDoor
namespace Go.Proofs.YtoaifgblbfdncaaGreatDoor
open Go.RowKit

end Go.Proofs.YtoaifgblbfdncaaGreatDoor
namespace Go.Proofs.YtoaifgblbfdncaaGreatDoor
open Go.RowKit

theorem VarA.keep {r : Nat} {t : TypeId} {cs : Array Value} {X Y : World} {b : Nat} (h : VarA r t cs X) (hb : Below b X Y) (hr : r < b) : VarA r t cs Y := ⟨(hb.block r hr).trans h.row⟩
end Go.Proofs.YtoaifgblbfdncaaGreatDoor
namespace Go.Proofs.YtoaifgblbfdncaaGreatDoor
open Go.RowKit

end Go.Proofs.YtoaifgblbfdncaaGreatDoor
namespace Go.Proofs.YtoaifgblbfdncaaGreatDoor
open Go.RowKit

set_option maxRecDepth 100000 in
set_option maxHeartbeats 1600000 in
theorem eqPacket_same (op key fr dst num : Int) (v u : Value) (xs : List Int) (body : ByteArray) (hl : xs.length ≤ 100000000) (w : World) (h : layIntS.rd w [v] xs) (k : layIntS.rd w [u] xs) :
    Calls Tryz.prog 19 #[.agg #[.int .i64 op, .int .i64 key, .int .i64 fr, .int .i64 dst, .int .i64 num, v, .string body], .agg #[.int .i64 op, .int .i64 key, .int .i64 fr, .int .i64 dst, .int .i64 num, u, .string body]] w fun e w' => e = .returned (.bool true) ∧ Below w.heap.size w w' := by
  obtain ⟨va, vc, rfl⟩ := rows_form h
  obtain ⟨ua, uc, rfl⟩ := rows_form k
  have e1 : (w.alloc (.cells #[.int .i64 op, .int .i64 key, .int .i64 fr, .int .i64 dst, .int .i64 num, .slice va xs.length vc, .string body] PkT)).heap.size = w.heap.size + 1 := by simp
  have A0 := Lib.hid ((VarA.new w PkT #[.int .i64 op, .int .i64 key, .int .i64 fr, .int .i64 dst, .int .i64 num, .slice va xs.length vc, .string body]).alloc (.cells #[.int .i64 op, .int .i64 key, .int .i64 fr, .int .i64 dst, .int .i64 num, .slice ua xs.length uc, .string body] PkT))
  have A1' := VarA.new (w.alloc (.cells #[.int .i64 op, .int .i64 key, .int .i64 fr, .int .i64 dst, .int .i64 num, .slice va xs.length vc, .string body] PkT)) PkT #[.int .i64 op, .int .i64 key, .int .i64 fr, .int .i64 dst, .int .i64 num, .slice ua xs.length uc, .string body]
  rw [e1] at A1'
  have A1 := Lib.hid A1'
  have B0 := Lib.hid (((Below.refl w.heap.size w).alloc (Nat.le_refl _) (.cells #[.int .i64 op, .int .i64 key, .int .i64 fr, .int .i64 dst, .int .i64 num, .slice va xs.length vc, .string body] PkT)).alloc (by simp) (.cells #[.int .i64 op, .int .i64 key, .int .i64 fr, .int .i64 dst, .int .i64 num, .slice ua xs.length uc, .string body] PkT))
  have HL := Lib.hid h
  have KL := Lib.hid k
  clear A1' e1 h k
  go_enter Tryz.func19, Tryz.ntmps19
  go_upto_region 1 with fail
  generalize (w.alloc (.cells #[.int .i64 op, .int .i64 key, .int .i64 fr, .int .i64 dst, .int .i64 num, .slice va xs.length vc, .string body] PkT)).alloc (.cells #[.int .i64 op, .int .i64 key, .int .i64 fr, .int .i64 dst, .int .i64 num, .slice ua xs.length uc, .string body] PkT) = Y0 at *
  have a0 : Y0.cell? ⟨w.heap.size, 0, none⟩ = some (.int .i64 op) := A0.out.cell 0
  have a1 : Y0.cell? ⟨w.heap.size, 1, none⟩ = some (.int .i64 key) := A0.out.cell 1
  have a2 : Y0.cell? ⟨w.heap.size, 2, none⟩ = some (.int .i64 fr) := A0.out.cell 2
  have a3 : Y0.cell? ⟨w.heap.size, 3, none⟩ = some (.int .i64 dst) := A0.out.cell 3
  have a4 : Y0.cell? ⟨w.heap.size, 4, none⟩ = some (.int .i64 num) := A0.out.cell 4
  have a5 : Y0.cell? ⟨w.heap.size, 5, none⟩ = some (.slice va xs.length vc) := A0.out.cell 5
  have a6 : Y0.cell? ⟨w.heap.size, 6, none⟩ = some (.string body) := A0.out.cell 6
  have b0 : Y0.cell? ⟨w.heap.size + 1, 0, none⟩ = some (.int .i64 op) := A1.out.cell 0
  have b1 : Y0.cell? ⟨w.heap.size + 1, 1, none⟩ = some (.int .i64 key) := A1.out.cell 1
  have b2 : Y0.cell? ⟨w.heap.size + 1, 2, none⟩ = some (.int .i64 fr) := A1.out.cell 2
  have b3 : Y0.cell? ⟨w.heap.size + 1, 3, none⟩ = some (.int .i64 dst) := A1.out.cell 3
  have b4 : Y0.cell? ⟨w.heap.size + 1, 4, none⟩ = some (.int .i64 num) := A1.out.cell 4
  have b5 : Y0.cell? ⟨w.heap.size + 1, 5, none⟩ = some (.slice ua xs.length uc) := A1.out.cell 5
  have b6 : Y0.cell? ⟨w.heap.size + 1, 6, none⟩ = some (.string body) := A1.out.cell 6
  go_wp2_with fail
  refine (eqIntS_same _ _ xs hl _ (layIntS.below HL.out B0.out) (layIntS.below KL.out B0.out)).mono ?_
  rintro e Y1 ⟨rfl, hb⟩
  have B1 := Lib.hid (B0.out.trans (hb.mono B0.out.size))
  have a6' : Y1.cell? ⟨w.heap.size, 6, none⟩ = some (.string body) := (A0.out.next hb).cell 6
  have b6' : Y1.cell? ⟨w.heap.size + 1, 6, none⟩ = some (.string body) := (A1.out.next hb).cell 6
  clear hb a0 a1 a2 a3 a4 a5 a6 b0 b1 b2 b3 b4 b5 b6
  go_wp2_with fail
  go_ret
  exact ⟨rfl, B1.out⟩

set_option maxRecDepth 100000 in
set_option maxHeartbeats 800000 in
theorem markPacket_any (op key fr dst num : Int) (v : Value) (xs : List Int) (body : ByteArray) (b : Nat) (fp : List Nat) (k : Int) (hk0 : 0 ≤ k) (hk1 : k ≤ 1000000000) (hl : xs.length ≤ 100000000) (w : World) (hd : fp.Nodup) (ho : layIntS.own w b fp [v] xs) :
    Calls Tryz.prog 21 #[.agg #[.int .i64 op, .int .i64 key, .int .i64 fr, .int .i64 dst, .int .i64 num, v, .string body], .int .i64 k] w fun e w' => e = .returned (.int .i64 (k + (xs.length : Int))) ∧ layIntS.own w' b fp [v] (upI k xs.length) ∧ Chg fp w w' := by
  obtain ⟨va, vc, rfl⟩ := rows_form (layIntS.read ho)
  have hb0 := (Below.refl w.heap.size w).alloc (Nat.le_refl _) (.cells #[.int .i64 op, .int .i64 key, .int .i64 fr, .int .i64 dst, .int .i64 num, .slice va xs.length vc, .string body] PkT)
  have A0 := Lib.hid (VarA.new w PkT #[.int .i64 op, .int .i64 key, .int .i64 fr, .int .i64 dst, .int .i64 num, .slice va xs.length vc, .string body])
  have O0 := Lib.hid (layIntS.next ho hb0)
  have G0 := Lib.hid (Below.chg hb0 fp)
  clear ho hb0
  go_enter Tryz.func21, Tryz.ntmps21
  go_upto_region 1 with fail
  generalize w.alloc (.cells #[.int .i64 op, .int .i64 key, .int .i64 fr, .int .i64 dst, .int .i64 num, .slice va xs.length vc, .string body] PkT) = Y0 at *
  have c5 : Y0.cell? ⟨w.heap.size, 5, none⟩ = some (.slice va xs.length vc) := A0.out.cell 5
  have KM := Lib.hid (markIntS_any _ xs b fp k hk0 hk1 hl Y0 hd O0.out)
  clear O0
  go_wp2_with fail
  refine KM.out.mono ?_
  rintro e Y1 ⟨rfl, hM, hC⟩
  have M1 := Lib.hid hM
  have G1 := Lib.hid (G0.out.trans hC)
  clear hM hC c5 KM G0
  go_wp2_with fail
  go_ret
  exact ⟨rfl, M1.out, G1.out⟩

set_option maxRecDepth 100000 in
set_option maxHeartbeats 800000 in
theorem heldPacket_any (op key fr dst num : Int) (v : Value) (n : Nat) (body : ByteArray) (k : Int) (hk0 : 0 ≤ k) (hk1 : k ≤ 1000000000) (hl : n ≤ 100000000) (w : World) (h : layIntS.rd w [v] (upI k n)) :
    Calls Tryz.prog 23 #[.agg #[.int .i64 op, .int .i64 key, .int .i64 fr, .int .i64 dst, .int .i64 num, v, .string body], .int .i64 k] w fun e w' => e = .returned (.int .i64 (k + (n : Int))) ∧ Below w.heap.size w w' := by
  obtain ⟨va, vc, hv⟩ := rows_form h
  subst hv
  have hneg : ¬ (k + (n : Int) < 0) := by omega
  have hb0 := (Below.refl w.heap.size w).alloc (Nat.le_refl _) (.cells #[.int .i64 op, .int .i64 key, .int .i64 fr, .int .i64 dst, .int .i64 num, .slice va (upI k n).length vc, .string body] PkT)
  have A0 := Lib.hid (VarA.new w PkT #[.int .i64 op, .int .i64 key, .int .i64 fr, .int .i64 dst, .int .i64 num, .slice va (upI k n).length vc, .string body])
  have B0 := Lib.hid hb0
  have R0 := Lib.hid (layIntS.below h hb0)
  clear h hb0
  go_enter Tryz.func23, Tryz.ntmps23
  go_upto_region 1 with fail
  generalize w.alloc (.cells #[.int .i64 op, .int .i64 key, .int .i64 fr, .int .i64 dst, .int .i64 num, .slice va (upI k n).length vc, .string body] PkT) = Y0 at *
  generalize (upI k n).length = ln at *
  have c5 : Y0.cell? ⟨w.heap.size, 5, none⟩ = some (.slice va ln vc) := A0.out.cell 5
  have KH := Lib.hid (heldIntS_any _ n k hk0 hk1 hl Y0 R0.out)
  clear R0
  go_wp2_with fail
  refine KH.out.mono ?_
  rintro e Y1 ⟨rfl, rfl⟩
  clear c5 KH
  go_wp2_with fail
  go_ret
  exact ⟨rfl, B0.out⟩

end Go.Proofs.YtoaifgblbfdncaaGreatDoor
