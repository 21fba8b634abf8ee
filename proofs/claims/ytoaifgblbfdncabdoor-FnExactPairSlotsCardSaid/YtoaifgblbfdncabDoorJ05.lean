/-
  The given mark of a number, as a text.
  An element of a row taken out, where only new blocks are made; marks that are texts; measured rows.
  Rows of ints beside rows of structs: marked and measured by the same words.
  Slot as it lies; the laws' own functions over it and over rows of it.
  Rows and variables of different types lie apart; no program is spoken of here.
-/
import Derived.Test.YtoaifgblbfdncabDoorRows
import Derived.Test.YtoaifgblbfdncabDoorJ04
import Derived.Test.YtoaifgblbfdncabDoorJ02
import Derived.BigQuiet
import Derived.Deep.QuietTactic
import Derived.Deep.RegionHeld3
import Derived.Deep.DeepCutAuto
namespace Go.Proofs.YtoaifgblbfdncabDoor
open Go.RowKit

theorem ret_int {k : IntKind} {a b : Int} (h : a = b) : Ending.returned (.int k a) = .returned (.int k b) := by rw [h]

/-- The mark of a number. -/
def mark (k : Nat) : List UInt8 := 109 :: digs k

end Go.Proofs.YtoaifgblbfdncabDoor
namespace Go.Proofs.YtoaifgblbfdncabDoor
open Go.RowKit

theorem Zip.next {α : Type} {e : TypeId} {A : Lay α} {w w' : World} {b g cap : Nat} {f1 f2 f3 : List Nat} {u1 c u3 : List Value} {X : List α} {x : α} {Y : List α} (h : Zip e A w b g cap f1 f2 f3 u1 c u3 X x Y) (hb : Below w.heap.size w w') : Zip e A w' b g cap f1 f2 f3 u1 c u3 X x Y :=
  ⟨ownsRow_keep h.row (hb.block g h.lt.2), ownAll_keep A h.left (fun i hi => hb.block i (ownAll_blocks A h.left i hi).2), A.next h.mid hb, ownAll_keep A h.right (fun i hi => hb.block i (ownAll_blocks A h.right i hi).2), h.dup⟩
end Go.Proofs.YtoaifgblbfdncabDoor
namespace Go.Proofs.YtoaifgblbfdncabDoor
open Go.RowKit

theorem markI_up : ∀ (xs : List Int) (k : Int), (layIntS.mark k xs).1 = upI k xs.length
  | [], k => rfl
  | x :: xs, k => by
    have h := markI_up xs (k + 1)
    show k :: (layIntS.mark (k + 1) xs).1 = _
    rw [h]
    unfold upI
    rw [List.length_cons, List.range_succ_eq_map, List.map_cons, List.map_map]
    simp only [Int.natCast_zero, Int.add_zero, List.cons.injEq, true_and]
    refine List.map_congr_left (fun j _ => ?_)
    simp only [Function.comp_apply, Nat.succ_eq_add_one, Int.natCast_add, Int.natCast_one]
    omega
theorem markIntL_any (v : Value) (xs : List Int) (b : Nat) (fp : List Nat) (k : Int) (hk0 : 1 ≤ k) (hk1 : k ≤ 500000000) (hl : xs.length ≤ 10000000) (w : World) (hd : fp.Nodup) (ho : layIntS.own w b fp [v] xs) :
    Calls Tryd.prog 42 #[v, .int .i64 k] w fun e w' => e = .returned (.int .i64 (k + 1 * (xs.length : Int))) ∧ layIntS.own w' b fp [v] (layIntS.mark k xs).1 ∧ Chg fp w w' := by
  refine (markIntS_any v xs b fp k (by omega) (by omega) (by omega) w hd ho).mono ?_
  rintro e w' ⟨rfl, h1, h2⟩
  exact ⟨by rw [Int.one_mul], by rw [markI_up]; exact h1, h2⟩
theorem heldIntL_any (v : Value) (xs : List Int) (k : Int) (hk0 : 1 ≤ k) (hk1 : k ≤ 500000000) (hl : xs.length ≤ 10000000) (w : World) (hr : layIntS.rd w [v] (layIntS.mark k xs).1) :
    Calls Tryd.prog 43 #[v, .int .i64 k] w fun e w' => e = .returned (.int .i64 (k + 1 * (xs.length : Int))) ∧ Below w.heap.size w w' := by
  rw [markI_up] at hr
  refine (heldIntS_any v xs.length k (by omega) (by omega) (by omega) w hr).mono ?_
  rintro e w' ⟨rfl, rfl⟩
  exact ⟨by rw [Int.one_mul], Below.refl _ _⟩
end Go.Proofs.YtoaifgblbfdncabDoor
namespace Go.Proofs.YtoaifgblbfdncabDoor
open Go.RowKit

abbrev SlotT : TypeId := 24
set_option maxRecDepth 100000 in
set_option maxHeartbeats 1600000 in
theorem eqSlot_same (x0 : Int) (x1 : ByteArray) (x2 : ByteArray) (x3 : Int) (v4 u4 : Value) (r4 : List Int) (x5 : Int) (w : World) (h4 : layIntS.rd w [v4] r4) (k4 : layIntS.rd w [u4] r4) (l4 : r4.length ≤ 100000000) :
    Calls Tryd.prog 18 #[.agg #[.int .i64 x0, .string x1, .string x2, .int .i64 x3, v4, .int .i64 x5], .agg #[.int .i64 x0, .string x1, .string x2, .int .i64 x3, u4, .int .i64 x5]] w fun e w' => e = .returned (.bool true) ∧ Below w.heap.size w w' := by
  have C_eqIntS_same := Lib.hid eqIntS_same
  have H4 := Lib.hid h4
  have K4 := Lib.hid k4
  clear h4 k4
  have A0 := (VarA.new w SlotT #[.int .i64 x0, .string x1, .string x2, .int .i64 x3, v4, .int .i64 x5]).alloc (.cells #[.int .i64 x0, .string x1, .string x2, .int .i64 x3, u4, .int .i64 x5] SlotT)
  have A1 := VarA.new (w.alloc (.cells #[.int .i64 x0, .string x1, .string x2, .int .i64 x3, v4, .int .i64 x5] SlotT)) SlotT #[.int .i64 x0, .string x1, .string x2, .int .i64 x3, u4, .int .i64 x5]
  have BY := ((Below.refl w.heap.size w).alloc (Nat.le_refl _) (.cells #[.int .i64 x0, .string x1, .string x2, .int .i64 x3, v4, .int .i64 x5] SlotT)).alloc (by simp) (.cells #[.int .i64 x0, .string x1, .string x2, .int .i64 x3, u4, .int .i64 x5] SlotT)
  have e1 : (w.alloc (.cells #[.int .i64 x0, .string x1, .string x2, .int .i64 x3, v4, .int .i64 x5] SlotT)).heap.size = w.heap.size + 1 := by simp
  rw [e1] at A1
  clear e1
  have HA0 := Lib.hid A0
  have HA1 := Lib.hid A1
  have HBY := Lib.hid BY
  clear A0 A1 BY
  go_enter Tryd.func18, Tryd.ntmps18
  go_upto_region 1 with fail
  generalize (w.alloc (.cells #[.int .i64 x0, .string x1, .string x2, .int .i64 x3, v4, .int .i64 x5] SlotT)).alloc (.cells #[.int .i64 x0, .string x1, .string x2, .int .i64 x3, u4, .int .i64 x5] SlotT) = Y0 at *
  have a0 : Y0.cell? ⟨w.heap.size, 0, none⟩ = some (.int .i64 x0) := HA0.out.cell 0
  have b0 : Y0.cell? ⟨w.heap.size + 1, 0, none⟩ = some (.int .i64 x0) := HA1.out.cell 0
  have a1 : Y0.cell? ⟨w.heap.size, 1, none⟩ = some (.string x1) := HA0.out.cell 1
  have b1 : Y0.cell? ⟨w.heap.size + 1, 1, none⟩ = some (.string x1) := HA1.out.cell 1
  have a2 : Y0.cell? ⟨w.heap.size, 2, none⟩ = some (.string x2) := HA0.out.cell 2
  have b2 : Y0.cell? ⟨w.heap.size + 1, 2, none⟩ = some (.string x2) := HA1.out.cell 2
  have a3 : Y0.cell? ⟨w.heap.size, 3, none⟩ = some (.int .i64 x3) := HA0.out.cell 3
  have b3 : Y0.cell? ⟨w.heap.size + 1, 3, none⟩ = some (.int .i64 x3) := HA1.out.cell 3
  have a4 : Y0.cell? ⟨w.heap.size, 4, none⟩ = some (v4) := HA0.out.cell 4
  have b4 : Y0.cell? ⟨w.heap.size + 1, 4, none⟩ = some (u4) := HA1.out.cell 4
  have a5 : Y0.cell? ⟨w.heap.size, 5, none⟩ = some (.int .i64 x5) := HA0.out.cell 5
  have b5 : Y0.cell? ⟨w.heap.size + 1, 5, none⟩ = some (.int .i64 x5) := HA1.out.cell 5
  go_wp2_with fail
  refine (C_eqIntS_same.out _ _ r4 l4 _ (layIntS.below H4.out HBY.out) (layIntS.below K4.out HBY.out)).mono ?_
  rintro e Y1 ⟨rfl, hb⟩
  replace HA0 := Lib.hid (HA0.out.next hb)
  replace HA1 := Lib.hid (HA1.out.next hb)
  replace HBY := Lib.hid (HBY.out.trans (hb.mono HBY.out.size))
  clear hb a0 b0 a1 b1 a2 b2 a3 b3 a4 b4 a5 b5
  have a0 : Y1.cell? ⟨w.heap.size, 0, none⟩ = some (.int .i64 x0) := HA0.out.cell 0
  have b0 : Y1.cell? ⟨w.heap.size + 1, 0, none⟩ = some (.int .i64 x0) := HA1.out.cell 0
  have a1 : Y1.cell? ⟨w.heap.size, 1, none⟩ = some (.string x1) := HA0.out.cell 1
  have b1 : Y1.cell? ⟨w.heap.size + 1, 1, none⟩ = some (.string x1) := HA1.out.cell 1
  have a2 : Y1.cell? ⟨w.heap.size, 2, none⟩ = some (.string x2) := HA0.out.cell 2
  have b2 : Y1.cell? ⟨w.heap.size + 1, 2, none⟩ = some (.string x2) := HA1.out.cell 2
  have a3 : Y1.cell? ⟨w.heap.size, 3, none⟩ = some (.int .i64 x3) := HA0.out.cell 3
  have b3 : Y1.cell? ⟨w.heap.size + 1, 3, none⟩ = some (.int .i64 x3) := HA1.out.cell 3
  have a4 : Y1.cell? ⟨w.heap.size, 4, none⟩ = some (v4) := HA0.out.cell 4
  have b4 : Y1.cell? ⟨w.heap.size + 1, 4, none⟩ = some (u4) := HA1.out.cell 4
  have a5 : Y1.cell? ⟨w.heap.size, 5, none⟩ = some (.int .i64 x5) := HA0.out.cell 5
  have b5 : Y1.cell? ⟨w.heap.size + 1, 5, none⟩ = some (.int .i64 x5) := HA1.out.cell 5
  go_wp2_with fail
  go_ret
  exact ⟨rfl, HBY.out⟩

set_option maxRecDepth 100000 in
set_option maxHeartbeats 3200000 in
theorem markSlot_any (x0 : Int) (x1 : ByteArray) (x2 : ByteArray) (x3 : Int) (v4 : Value) (r4 : List Int) (x5 : Int) (b : Nat) (f4 : List Nat) (l4 : r4.length ≤ 10000000) (k : Int) (hk0 : 1 ≤ k) (hk1 : k ≤ 100000000) (w : World) (hd : (f4).Nodup) (o4 : layIntS.own w b f4 [v4] r4) :
    Calls Tryd.prog 19 #[.agg #[.int .i64 x0, .string x1, .string x2, .int .i64 x3, v4, .int .i64 x5], .int .i64 k] w fun e w' => e = .returned (.int .i64 (k + 1 * (r4.length : Int))) ∧ (layIntS.own w' b f4 [v4] (layIntS.mark (k) r4).1) ∧ Chg (f4) w w' := by
  obtain ⟨a4, p4, rfl⟩ := rows_form (layIntS.read o4)
  have O4 := Lib.hid (layIntS.next o4 ((Below.refl _ _).alloc (Nat.le_refl _) (.cells #[.int .i64 x0, .string x1, .string x2, .int .i64 x3, .slice a4 r4.length p4, .int .i64 x5] SlotT)))
  have A0 := Lib.hid (VarA.new w SlotT #[.int .i64 x0, .string x1, .string x2, .int .i64 x3, .slice a4 r4.length p4, .int .i64 x5])
  have G0 := Lib.hid (Below.chg ((Below.refl w.heap.size w).alloc (Nat.le_refl _) (.cells #[.int .i64 x0, .string x1, .string x2, .int .i64 x3, .slice a4 r4.length p4, .int .i64 x5] SlotT)) (f4))
  have LW4 : Hid (∀ a ∈ f4, a < w.heap.size) := fun a ha => (layIntS.blocks o4 a ha).2
  have N4 := Lib.hid hd
  clear hd o4 
  go_enter Tryd.func19, Tryd.ntmps19
  go_upto_region 1 with fail
  generalize w.alloc (.cells #[.int .i64 x0, .string x1, .string x2, .int .i64 x3, .slice a4 r4.length p4, .int .i64 x5] SlotT) = Y0 at *
  have c4 : Y0.cell? ⟨w.heap.size, 4, none⟩ = some (.slice a4 r4.length p4) := A0.out.cell 4
  have K4 := Lib.hid (markIntL_any (.slice a4 r4.length p4) r4 b f4 k (by omega) (by omega) (by omega) Y0 N4.out O4.out)
  go_wp2_with fail
  refine (K4.out).mono ?_
  rintro e Y1 ⟨rfl, om4, hc⟩
  have M4 := Lib.hid om4
  replace A0 : Hid (VarA w.heap.size SlotT #[.int .i64 x0, .string x1, .string x2, .int .i64 x3, .slice a4 r4.length p4, .int .i64 x5] Y1) := ⟨by rw [hc.block _ A0.out.lt (fun e => by have := LW4.out _ e; omega)]; exact A0.out.row⟩
  replace G0 := Lib.hid (G0.out.trans (hc.sub (fun a ha => ha)))
  clear hc om4 c4 K4
  go_wp2_with fail
  go_ret
  have e9 : k + (r4.length : Int) = k + 1 * (r4.length : Int) := by omega
  exact ⟨ret_int e9, M4.out, G0.out⟩

set_option maxRecDepth 100000 in
set_option maxHeartbeats 3200000 in
theorem heldSlot_any (x0 : Int) (x1 : ByteArray) (x2 : ByteArray) (x3 : Int) (v4 : Value) (r4 : List Int) (x5 : Int) (l4 : r4.length ≤ 10000000) (k : Int) (hk0 : 1 ≤ k) (hk1 : k ≤ 100000000) (w : World) (h4 : layIntS.rd w [v4] (layIntS.mark (k) r4).1) :
    Calls Tryd.prog 20 #[.agg #[.int .i64 x0, .string x1, .string x2, .int .i64 x3, v4, .int .i64 x5], .int .i64 k] w fun e w' => e = .returned (.int .i64 (k + 1 * (r4.length : Int))) ∧ Below w.heap.size w w' := by
  have hm4 := mkAll_length Lay.int r4 (k)
  obtain ⟨a4, p4, hv4⟩ := rows_form h4
  rw [show (layIntS.mark (k) r4).1.length = r4.length from hm4] at hv4
  subst hv4
  have H4 := Lib.hid (layIntS.below h4 ((Below.refl _ _).alloc (Nat.le_refl _) (.cells #[.int .i64 x0, .string x1, .string x2, .int .i64 x3, .slice a4 r4.length p4, .int .i64 x5] SlotT)))
  have A0 := Lib.hid (VarA.new w SlotT #[.int .i64 x0, .string x1, .string x2, .int .i64 x3, .slice a4 r4.length p4, .int .i64 x5])
  have BY := Lib.hid ((Below.refl w.heap.size w).alloc (Nat.le_refl _) (.cells #[.int .i64 x0, .string x1, .string x2, .int .i64 x3, .slice a4 r4.length p4, .int .i64 x5] SlotT))
  clear h4 hm4
  go_enter Tryd.func20, Tryd.ntmps20
  go_upto_region 1 with fail
  generalize w.alloc (.cells #[.int .i64 x0, .string x1, .string x2, .int .i64 x3, .slice a4 r4.length p4, .int .i64 x5] SlotT) = Y0 at *
  have c4 : Y0.cell? ⟨w.heap.size, 4, none⟩ = some (.slice a4 r4.length p4) := A0.out.cell 4
  have P4 : ¬ (k + 1 * (r4.length : Int) < 0) := by omega
  have K4 := Lib.hid (heldIntL_any (.slice a4 r4.length p4) r4 k (by omega) (by omega) (by omega) Y0 H4.out)
  go_wp2_with fail
  refine (K4.out).mono ?_
  rintro e Y1 ⟨rfl, hb⟩
  replace A0 := Lib.hid (A0.out.next hb)
  replace BY := Lib.hid (BY.out.trans (hb.mono BY.out.size))
  clear hb c4 K4
  go_wp2_with fail
  go_ret
  have e9 : k + (r4.length : Int) = k + 1 * (r4.length : Int) := by omega
  exact ⟨ret_int e9, BY.out⟩

end Go.Proofs.YtoaifgblbfdncabDoor
namespace Go.Proofs.YtoaifgblbfdncabDoor
open Go.RowKit

theorem VarA.next' {r : Nat} {t : TypeId} {cs : Array Value} {X Y : World} {b : Nat} (h : VarA r t cs X) (hb : Below b X Y) (hr : r < b) : VarA r t cs Y := ⟨(hb.block r hr).trans h.row⟩

end Go.Proofs.YtoaifgblbfdncabDoor
