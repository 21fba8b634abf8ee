/-
  Slot as it lies; the laws' own functions over it and over rows of it.
-/
import Derived.Test.YtoaifgblbfdncabGreatDoorJ14
import Derived.Test.YtoaifgblbfdncabGreatDoorRows
import Derived.Test.YtoaifgblbfdncabGreatDoorJ16
import Derived.Deep.RegionHeld3
import Derived.BigQuiet
import Derived.Deep.QuietTactic
import Derived.Deep.DeepCutAuto
namespace Go.Proofs.YtoaifgblbfdncabGreatDoor
open Go.RowKit

abbrev SlotD := Int × ByteArray × ByteArray × Int × (List Int) × Int
abbrev SlotT : TypeId := 31
def laySlot : Lay SlotD := Lay.pair Lay.int (Lay.pair Lay.str (Lay.pair Lay.str (Lay.pair Lay.int (Lay.pair layIntS Lay.int))))
theorem laySlot_rd {w : World} {cs : List Value} {x : SlotD} : laySlot.rd w cs x ↔ ∃ v4, cs = [.int .i64 x.1, .string x.2.1, .string x.2.2.1, .int .i64 x.2.2.2.1, v4, .int .i64 x.2.2.2.2.2] ∧ layIntS.rd w [v4] x.2.2.2.2.1 := by
  constructor
  · rintro ⟨c100, d100, rfl, rfl, ⟨c101, d101, rfl, rfl, ⟨c102, d102, rfl, rfl, ⟨c103, d103, rfl, rfl, ⟨c105, d105, rfl, ⟨v104, rfl, h104⟩, rfl⟩⟩⟩⟩⟩
    exact ⟨v104, rfl, ⟨v104, rfl, h104⟩⟩
  · rintro ⟨v4, rfl, H4⟩
    exact ⟨[_], [_, _, _, _, _], rfl, rfl, ⟨[_], [_, _, _, _], rfl, rfl, ⟨[_], [_, _, _], rfl, rfl, ⟨[_], [_, _], rfl, rfl, ⟨[_], [_], rfl, H4, rfl⟩⟩⟩⟩⟩

theorem laySlot_own {w : World} {b : Nat} {f : List Nat} {cs : List Value} {x : SlotD} : laySlot.own w b f cs x ↔ ∃ v4 f4, cs = [.int .i64 x.1, .string x.2.1, .string x.2.2.1, .int .i64 x.2.2.2.1, v4, .int .i64 x.2.2.2.2.2] ∧ f = f4 ∧ layIntS.own w b f4 [v4] x.2.2.2.2.1 := by
  constructor
  · rintro ⟨f100, g100, c100, d100, rfl, rfl, ⟨rfl, rfl⟩, ⟨f101, g101, c101, d101, rfl, rfl, ⟨rfl, rfl⟩, ⟨f102, g102, c102, d102, rfl, rfl, ⟨rfl, rfl⟩, ⟨f103, g103, c103, d103, rfl, rfl, ⟨rfl, rfl⟩, ⟨f105, g105, c105, d105, rfl, rfl, ⟨v104, rfl, h104⟩, ⟨rfl, rfl⟩⟩⟩⟩⟩⟩
    exact ⟨v104, _, rfl, by simp, ⟨v104, rfl, h104⟩⟩
  · rintro ⟨v4, f4, rfl, hf, H4⟩
    have hf2 : f = ([] ++ ([] ++ ([] ++ ([] ++ (f4 ++ []))))) := by simp [hf]
    rw [hf2]
    exact ⟨[], ([] ++ ([] ++ ([] ++ (f4 ++ [])))), [_], [_, _, _, _, _], rfl, rfl, ⟨rfl, rfl⟩, ⟨[], ([] ++ ([] ++ (f4 ++ []))), [_], [_, _, _, _], rfl, rfl, ⟨rfl, rfl⟩, ⟨[], ([] ++ (f4 ++ [])), [_], [_, _, _], rfl, rfl, ⟨rfl, rfl⟩, ⟨[], (f4 ++ []), [_], [_, _], rfl, rfl, ⟨rfl, rfl⟩, ⟨f4, [], [_], [_], rfl, rfl, H4, ⟨rfl, rfl⟩⟩⟩⟩⟩⟩

set_option maxRecDepth 100000 in
set_option maxHeartbeats 1600000 in
theorem toSlot_any (x0 : Int) (x1 : ByteArray) (x2 : ByteArray) (x3 : Int) (v4 : Value) (r4 : List Int) (x5 : Int) (w : World) (h4 : layIntS.rd w [v4] r4) (l4 : r4.length ≤ 1048576) :
    Calls Tryz.prog 22 #[.agg #[.int .i64 x0, .string x1, .string x2, .int .i64 x3, v4, .int .i64 x5]] w fun e w' => OutT laySlot w (x0, x1, x2, x3, r4, x5) e w' := by
  obtain ⟨a4, p4, rfl⟩ := rows_form h4
  have C_toIntS_any := Lib.hid toIntS_any
  have H4 := Lib.hid h4
  clear h4
  have A0 := ((VarA.new w 24 #[.int .i64 x0, .string x1, .string x2, .int .i64 x3, .slice a4 r4.length p4, .int .i64 x5]).alloc (.cells #[.int .i64 0, .string ⟨#[]⟩, .string ⟨#[]⟩, .int .i64 0, .slice none 0 0, .int .i64 0] SlotT)).alloc (.cells #[.int .i64 0, .string ⟨#[]⟩, .string ⟨#[]⟩, .int .i64 0, .slice none 0 0, .int .i64 0] SlotT)
  have A1 := (VarA.new (w.alloc (.cells #[.int .i64 x0, .string x1, .string x2, .int .i64 x3, .slice a4 r4.length p4, .int .i64 x5] 24)) SlotT #[.int .i64 0, .string ⟨#[]⟩, .string ⟨#[]⟩, .int .i64 0, .slice none 0 0, .int .i64 0]).alloc (.cells #[.int .i64 0, .string ⟨#[]⟩, .string ⟨#[]⟩, .int .i64 0, .slice none 0 0, .int .i64 0] SlotT)
  have A2 := VarA.new ((w.alloc (.cells #[.int .i64 x0, .string x1, .string x2, .int .i64 x3, .slice a4 r4.length p4, .int .i64 x5] 24)).alloc (.cells #[.int .i64 0, .string ⟨#[]⟩, .string ⟨#[]⟩, .int .i64 0, .slice none 0 0, .int .i64 0] SlotT)) SlotT #[.int .i64 0, .string ⟨#[]⟩, .string ⟨#[]⟩, .int .i64 0, .slice none 0 0, .int .i64 0]
  have BY := ((((Below.refl w.heap.size w).alloc (Nat.le_refl _) (.cells #[.int .i64 x0, .string x1, .string x2, .int .i64 x3, .slice a4 r4.length p4, .int .i64 x5] 24)).alloc (by simp) (.cells #[.int .i64 0, .string ⟨#[]⟩, .string ⟨#[]⟩, .int .i64 0, .slice none 0 0, .int .i64 0] SlotT)).alloc (by simp; omega) (.cells #[.int .i64 0, .string ⟨#[]⟩, .string ⟨#[]⟩, .int .i64 0, .slice none 0 0, .int .i64 0] SlotT))
  have e1 : (w.alloc (.cells #[.int .i64 x0, .string x1, .string x2, .int .i64 x3, .slice a4 r4.length p4, .int .i64 x5] 24)).heap.size = w.heap.size + 1 := by simp
  have e2 : ((w.alloc (.cells #[.int .i64 x0, .string x1, .string x2, .int .i64 x3, .slice a4 r4.length p4, .int .i64 x5] 24)).alloc (.cells #[.int .i64 0, .string ⟨#[]⟩, .string ⟨#[]⟩, .int .i64 0, .slice none 0 0, .int .i64 0] SlotT)).heap.size = w.heap.size + 1 + 1 := by simp
  rw [e1] at A1
  rw [e2] at A2
  clear e1 e2
  have HA0 := Lib.hid A0
  have HA1 := Lib.hid A1
  have HA2 := Lib.hid A2
  have HBY := Lib.hid BY
  clear A0 A1 A2 BY
  go_enter Tryz.func22, Tryz.ntmps22
  go_upto_region 2 with fail
  generalize ((w.alloc (.cells #[.int .i64 x0, .string x1, .string x2, .int .i64 x3, .slice a4 r4.length p4, .int .i64 x5] 24)).alloc (.cells #[.int .i64 0, .string ⟨#[]⟩, .string ⟨#[]⟩, .int .i64 0, .slice none 0 0, .int .i64 0] SlotT)).alloc (.cells #[.int .i64 0, .string ⟨#[]⟩, .string ⟨#[]⟩, .int .i64 0, .slice none 0 0, .int .i64 0] SlotT) = Y0 at *
  have c0 : Y0.cell? ⟨w.heap.size, 0, none⟩ = some (.int .i64 x0) := HA0.out.cell 0
  have q0 : Y0.cell? ⟨w.heap.size + 1 + 1, 0, none⟩ = some (.int .i64 0) := HA2.out.cell 0
  have f_0 : Y0.frozen? ⟨w.heap.size + 1 + 1, 0, none⟩ = false := HA2.out.free 0
  replace HA0 : Hid (VarA w.heap.size 24 #[.int .i64 x0, .string x1, .string x2, .int .i64 x3, .slice a4 r4.length p4, .int .i64 x5] (Y0.setCell ⟨w.heap.size + 1 + 1, 0, none⟩ (.int .i64 x0))) := HA0.out.off 0 (.int .i64 x0) (by omega)
  replace HA1 : Hid (VarA (w.heap.size + 1) SlotT #[.int .i64 0, .string ⟨#[]⟩, .string ⟨#[]⟩, .int .i64 0, .slice none 0 0, .int .i64 0] (Y0.setCell ⟨w.heap.size + 1 + 1, 0, none⟩ (.int .i64 x0))) := HA1.out.off 0 (.int .i64 x0) (by omega)
  replace HA2 : Hid (VarA (w.heap.size + 1 + 1) SlotT #[.int .i64 x0, .string ⟨#[]⟩, .string ⟨#[]⟩, .int .i64 0, .slice none 0 0, .int .i64 0] (Y0.setCell ⟨w.heap.size + 1 + 1, 0, none⟩ (.int .i64 x0))) := HA2.out.set 0 (.int .i64 x0)
  replace HBY : Hid (Below w.heap.size w (Y0.setCell ⟨w.heap.size + 1 + 1, 0, none⟩ (.int .i64 x0))) := HBY.out.trans ((Only.setCell (c := w.heap.size + 1 + 1) (w := Y0) 0 (.int .i64 x0)).below (B := w.heap.size) (by omega) HBY.out.size)
  go_upto_region 3 with fail
  generalize (Y0.setCell ⟨w.heap.size + 1 + 1, 0, none⟩ (.int .i64 x0)) = Y1 at *
  clear c0 q0 f_0
  have c1 : Y1.cell? ⟨w.heap.size, 1, none⟩ = some (.string x1) := HA0.out.cell 1
  have q1 : Y1.cell? ⟨w.heap.size + 1 + 1, 1, none⟩ = some (.string ⟨#[]⟩) := HA2.out.cell 1
  have f_1 : Y1.frozen? ⟨w.heap.size + 1 + 1, 1, none⟩ = false := HA2.out.free 1
  replace HA0 : Hid (VarA w.heap.size 24 #[.int .i64 x0, .string x1, .string x2, .int .i64 x3, .slice a4 r4.length p4, .int .i64 x5] (Y1.setCell ⟨w.heap.size + 1 + 1, 1, none⟩ (.string x1))) := HA0.out.off 1 (.string x1) (by omega)
  replace HA1 : Hid (VarA (w.heap.size + 1) SlotT #[.int .i64 0, .string ⟨#[]⟩, .string ⟨#[]⟩, .int .i64 0, .slice none 0 0, .int .i64 0] (Y1.setCell ⟨w.heap.size + 1 + 1, 1, none⟩ (.string x1))) := HA1.out.off 1 (.string x1) (by omega)
  replace HA2 : Hid (VarA (w.heap.size + 1 + 1) SlotT #[.int .i64 x0, .string x1, .string ⟨#[]⟩, .int .i64 0, .slice none 0 0, .int .i64 0] (Y1.setCell ⟨w.heap.size + 1 + 1, 1, none⟩ (.string x1))) := HA2.out.set 1 (.string x1)
  replace HBY : Hid (Below w.heap.size w (Y1.setCell ⟨w.heap.size + 1 + 1, 1, none⟩ (.string x1))) := HBY.out.trans ((Only.setCell (c := w.heap.size + 1 + 1) (w := Y1) 1 (.string x1)).below (B := w.heap.size) (by omega) HBY.out.size)
  go_upto_region 4 with fail
  generalize (Y1.setCell ⟨w.heap.size + 1 + 1, 1, none⟩ (.string x1)) = Y2 at *
  clear c1 q1 f_1
  have c2 : Y2.cell? ⟨w.heap.size, 2, none⟩ = some (.string x2) := HA0.out.cell 2
  have q2 : Y2.cell? ⟨w.heap.size + 1 + 1, 2, none⟩ = some (.string ⟨#[]⟩) := HA2.out.cell 2
  have f_2 : Y2.frozen? ⟨w.heap.size + 1 + 1, 2, none⟩ = false := HA2.out.free 2
  replace HA0 : Hid (VarA w.heap.size 24 #[.int .i64 x0, .string x1, .string x2, .int .i64 x3, .slice a4 r4.length p4, .int .i64 x5] (Y2.setCell ⟨w.heap.size + 1 + 1, 2, none⟩ (.string x2))) := HA0.out.off 2 (.string x2) (by omega)
  replace HA1 : Hid (VarA (w.heap.size + 1) SlotT #[.int .i64 0, .string ⟨#[]⟩, .string ⟨#[]⟩, .int .i64 0, .slice none 0 0, .int .i64 0] (Y2.setCell ⟨w.heap.size + 1 + 1, 2, none⟩ (.string x2))) := HA1.out.off 2 (.string x2) (by omega)
  replace HA2 : Hid (VarA (w.heap.size + 1 + 1) SlotT #[.int .i64 x0, .string x1, .string x2, .int .i64 0, .slice none 0 0, .int .i64 0] (Y2.setCell ⟨w.heap.size + 1 + 1, 2, none⟩ (.string x2))) := HA2.out.set 2 (.string x2)
  replace HBY : Hid (Below w.heap.size w (Y2.setCell ⟨w.heap.size + 1 + 1, 2, none⟩ (.string x2))) := HBY.out.trans ((Only.setCell (c := w.heap.size + 1 + 1) (w := Y2) 2 (.string x2)).below (B := w.heap.size) (by omega) HBY.out.size)
  go_upto_region 5 with fail
  generalize (Y2.setCell ⟨w.heap.size + 1 + 1, 2, none⟩ (.string x2)) = Y3 at *
  clear c2 q2 f_2
  have c3 : Y3.cell? ⟨w.heap.size, 3, none⟩ = some (.int .i64 x3) := HA0.out.cell 3
  have q3 : Y3.cell? ⟨w.heap.size + 1 + 1, 3, none⟩ = some (.int .i64 0) := HA2.out.cell 3
  have f_3 : Y3.frozen? ⟨w.heap.size + 1 + 1, 3, none⟩ = false := HA2.out.free 3
  replace HA0 : Hid (VarA w.heap.size 24 #[.int .i64 x0, .string x1, .string x2, .int .i64 x3, .slice a4 r4.length p4, .int .i64 x5] (Y3.setCell ⟨w.heap.size + 1 + 1, 3, none⟩ (.int .i64 x3))) := HA0.out.off 3 (.int .i64 x3) (by omega)
  replace HA1 : Hid (VarA (w.heap.size + 1) SlotT #[.int .i64 0, .string ⟨#[]⟩, .string ⟨#[]⟩, .int .i64 0, .slice none 0 0, .int .i64 0] (Y3.setCell ⟨w.heap.size + 1 + 1, 3, none⟩ (.int .i64 x3))) := HA1.out.off 3 (.int .i64 x3) (by omega)
  replace HA2 : Hid (VarA (w.heap.size + 1 + 1) SlotT #[.int .i64 x0, .string x1, .string x2, .int .i64 x3, .slice none 0 0, .int .i64 0] (Y3.setCell ⟨w.heap.size + 1 + 1, 3, none⟩ (.int .i64 x3))) := HA2.out.set 3 (.int .i64 x3)
  replace HBY : Hid (Below w.heap.size w (Y3.setCell ⟨w.heap.size + 1 + 1, 3, none⟩ (.int .i64 x3))) := HBY.out.trans ((Only.setCell (c := w.heap.size + 1 + 1) (w := Y3) 3 (.int .i64 x3)).below (B := w.heap.size) (by omega) HBY.out.size)
  go_upto_region 6 with fail
  generalize (Y3.setCell ⟨w.heap.size + 1 + 1, 3, none⟩ (.int .i64 x3)) = Y4 at *
  clear c3 q3 f_3
  have c4 : Y4.cell? ⟨w.heap.size, 4, none⟩ = some (.slice a4 r4.length p4) := HA0.out.cell 4
  go_wp2_with fail
  refine (C_toIntS_any.out _ _ l4 _ (layIntS.below H4.out HBY.out)).mono ?_
  rintro e Y5 ⟨n4, f4, rfl, nd4, hown, hb⟩
  obtain ⟨ao4, cp4, rfl⟩ := rows_form (layIntS.read hown)
  have LB4 : Hid (∀ a ∈ f4, w.heap.size + 1 + 1 < a) := fun a ha => Nat.lt_of_lt_of_le HA2.out.lt (layIntS.blocks hown a ha).1
  have O4 := Lib.hid (layIntS.lower hown HBY.out.size)
  replace HA0 := Lib.hid (HA0.out.next hb)
  replace HA1 := Lib.hid (HA1.out.next hb)
  replace HA2 := Lib.hid (HA2.out.next hb)
  replace HBY := Lib.hid (HBY.out.trans (hb.mono HBY.out.size))
  clear hb hown
  have q4 : Y5.cell? ⟨w.heap.size + 1 + 1, 4, none⟩ = some (.slice none 0 0) := HA2.out.cell 4
  have f_4 : Y5.frozen? ⟨w.heap.size + 1 + 1, 4, none⟩ = false := HA2.out.free 4
  replace HA0 : Hid (VarA w.heap.size 24 #[.int .i64 x0, .string x1, .string x2, .int .i64 x3, .slice a4 r4.length p4, .int .i64 x5] (Y5.setCell ⟨w.heap.size + 1 + 1, 4, none⟩ (.slice ao4 r4.length cp4))) := HA0.out.off 4 (.slice ao4 r4.length cp4) (by omega)
  replace HA1 : Hid (VarA (w.heap.size + 1) SlotT #[.int .i64 0, .string ⟨#[]⟩, .string ⟨#[]⟩, .int .i64 0, .slice none 0 0, .int .i64 0] (Y5.setCell ⟨w.heap.size + 1 + 1, 4, none⟩ (.slice ao4 r4.length cp4))) := HA1.out.off 4 (.slice ao4 r4.length cp4) (by omega)
  replace HA2 : Hid (VarA (w.heap.size + 1 + 1) SlotT #[.int .i64 x0, .string x1, .string x2, .int .i64 x3, .slice ao4 r4.length cp4, .int .i64 0] (Y5.setCell ⟨w.heap.size + 1 + 1, 4, none⟩ (.slice ao4 r4.length cp4))) := HA2.out.set 4 (.slice ao4 r4.length cp4)
  replace HBY : Hid (Below w.heap.size w (Y5.setCell ⟨w.heap.size + 1 + 1, 4, none⟩ (.slice ao4 r4.length cp4))) := HBY.out.trans ((Only.setCell (c := w.heap.size + 1 + 1) (w := Y5) 4 (.slice ao4 r4.length cp4)).below (B := w.heap.size) (by omega) HBY.out.size)
  replace O4 : Hid (layIntS.own (Y5.setCell ⟨w.heap.size + 1 + 1, 4, none⟩ (.slice ao4 r4.length cp4)) w.heap.size f4 [.slice ao4 r4.length cp4] r4) := layIntS.chg O4.out (Chg.cell _ _ _ _) (fun a ha => by have := LB4.out a ha; simp; omega)
  go_upto_region 7 with fail
  generalize (Y5.setCell ⟨w.heap.size + 1 + 1, 4, none⟩ (.slice ao4 r4.length cp4)) = Y6 at *
  clear c4 q4 f_4
  have c5 : Y6.cell? ⟨w.heap.size, 5, none⟩ = some (.int .i64 x5) := HA0.out.cell 5
  have q5 : Y6.cell? ⟨w.heap.size + 1 + 1, 5, none⟩ = some (.int .i64 0) := HA2.out.cell 5
  have f_5 : Y6.frozen? ⟨w.heap.size + 1 + 1, 5, none⟩ = false := HA2.out.free 5
  replace HA0 : Hid (VarA w.heap.size 24 #[.int .i64 x0, .string x1, .string x2, .int .i64 x3, .slice a4 r4.length p4, .int .i64 x5] (Y6.setCell ⟨w.heap.size + 1 + 1, 5, none⟩ (.int .i64 x5))) := HA0.out.off 5 (.int .i64 x5) (by omega)
  replace HA1 : Hid (VarA (w.heap.size + 1) SlotT #[.int .i64 0, .string ⟨#[]⟩, .string ⟨#[]⟩, .int .i64 0, .slice none 0 0, .int .i64 0] (Y6.setCell ⟨w.heap.size + 1 + 1, 5, none⟩ (.int .i64 x5))) := HA1.out.off 5 (.int .i64 x5) (by omega)
  replace HA2 : Hid (VarA (w.heap.size + 1 + 1) SlotT #[.int .i64 x0, .string x1, .string x2, .int .i64 x3, .slice ao4 r4.length cp4, .int .i64 x5] (Y6.setCell ⟨w.heap.size + 1 + 1, 5, none⟩ (.int .i64 x5))) := HA2.out.set 5 (.int .i64 x5)
  replace HBY : Hid (Below w.heap.size w (Y6.setCell ⟨w.heap.size + 1 + 1, 5, none⟩ (.int .i64 x5))) := HBY.out.trans ((Only.setCell (c := w.heap.size + 1 + 1) (w := Y6) 5 (.int .i64 x5)).below (B := w.heap.size) (by omega) HBY.out.size)
  replace O4 : Hid (layIntS.own (Y6.setCell ⟨w.heap.size + 1 + 1, 5, none⟩ (.int .i64 x5)) w.heap.size f4 [.slice ao4 r4.length cp4] r4) := layIntS.chg O4.out (Chg.cell _ _ _ _) (fun a ha => by have := LB4.out a ha; simp; omega)
  go_upto_region 8 with fail
  generalize (Y6.setCell ⟨w.heap.size + 1 + 1, 5, none⟩ (.int .i64 x5)) = Y7 at *
  clear c5 q5 f_5
  have c0 : Y7.cell? ⟨w.heap.size + 1 + 1, 0, none⟩ = some (.int .i64 x0) := HA2.out.cell 0
  have q0 : Y7.cell? ⟨w.heap.size + 1, 0, none⟩ = some (.int .i64 0) := HA1.out.cell 0
  have f_0 : Y7.frozen? ⟨w.heap.size + 1, 0, none⟩ = false := HA1.out.free 0
  have c1 : Y7.cell? ⟨w.heap.size + 1 + 1, 1, none⟩ = some (.string x1) := HA2.out.cell 1
  have q1 : Y7.cell? ⟨w.heap.size + 1, 1, none⟩ = some (.string ⟨#[]⟩) := HA1.out.cell 1
  have f_1 : Y7.frozen? ⟨w.heap.size + 1, 1, none⟩ = false := HA1.out.free 1
  have c2 : Y7.cell? ⟨w.heap.size + 1 + 1, 2, none⟩ = some (.string x2) := HA2.out.cell 2
  have q2 : Y7.cell? ⟨w.heap.size + 1, 2, none⟩ = some (.string ⟨#[]⟩) := HA1.out.cell 2
  have f_2 : Y7.frozen? ⟨w.heap.size + 1, 2, none⟩ = false := HA1.out.free 2
  have c3 : Y7.cell? ⟨w.heap.size + 1 + 1, 3, none⟩ = some (.int .i64 x3) := HA2.out.cell 3
  have q3 : Y7.cell? ⟨w.heap.size + 1, 3, none⟩ = some (.int .i64 0) := HA1.out.cell 3
  have f_3 : Y7.frozen? ⟨w.heap.size + 1, 3, none⟩ = false := HA1.out.free 3
  have c4 : Y7.cell? ⟨w.heap.size + 1 + 1, 4, none⟩ = some (.slice ao4 r4.length cp4) := HA2.out.cell 4
  have q4 : Y7.cell? ⟨w.heap.size + 1, 4, none⟩ = some (.slice none 0 0) := HA1.out.cell 4
  have f_4 : Y7.frozen? ⟨w.heap.size + 1, 4, none⟩ = false := HA1.out.free 4
  have c5 : Y7.cell? ⟨w.heap.size + 1 + 1, 5, none⟩ = some (.int .i64 x5) := HA2.out.cell 5
  have q5 : Y7.cell? ⟨w.heap.size + 1, 5, none⟩ = some (.int .i64 0) := HA1.out.cell 5
  have f_5 : Y7.frozen? ⟨w.heap.size + 1, 5, none⟩ = false := HA1.out.free 5
  replace HA1 : Hid (VarA (w.heap.size + 1) SlotT #[.int .i64 x0, .string ⟨#[]⟩, .string ⟨#[]⟩, .int .i64 0, .slice none 0 0, .int .i64 0] (Y7.setCell ⟨w.heap.size + 1, 0, none⟩ (.int .i64 x0))) := HA1.out.set 0 (.int .i64 x0)
  replace HBY : Hid (Below w.heap.size w (Y7.setCell ⟨w.heap.size + 1, 0, none⟩ (.int .i64 x0))) := HBY.out.trans ((Only.setCell (c := w.heap.size + 1) (w := Y7) 0 (.int .i64 x0)).below (B := w.heap.size) (by omega) HBY.out.size)
  replace O4 : Hid (layIntS.own (Y7.setCell ⟨w.heap.size + 1, 0, none⟩ (.int .i64 x0)) w.heap.size f4 [.slice ao4 r4.length cp4] r4) := layIntS.chg O4.out (Chg.cell _ _ _ _) (fun a ha => by have := LB4.out a ha; simp; omega)
  replace HA1 : Hid (VarA (w.heap.size + 1) SlotT #[.int .i64 x0, .string x1, .string ⟨#[]⟩, .int .i64 0, .slice none 0 0, .int .i64 0] ((Y7.setCell ⟨w.heap.size + 1, 0, none⟩ (.int .i64 x0)).setCell ⟨w.heap.size + 1, 1, none⟩ (.string x1))) := HA1.out.set 1 (.string x1)
  replace HBY : Hid (Below w.heap.size w ((Y7.setCell ⟨w.heap.size + 1, 0, none⟩ (.int .i64 x0)).setCell ⟨w.heap.size + 1, 1, none⟩ (.string x1))) := HBY.out.trans ((Only.setCell (c := w.heap.size + 1) (w := (Y7.setCell ⟨w.heap.size + 1, 0, none⟩ (.int .i64 x0))) 1 (.string x1)).below (B := w.heap.size) (by omega) HBY.out.size)
  replace O4 : Hid (layIntS.own ((Y7.setCell ⟨w.heap.size + 1, 0, none⟩ (.int .i64 x0)).setCell ⟨w.heap.size + 1, 1, none⟩ (.string x1)) w.heap.size f4 [.slice ao4 r4.length cp4] r4) := layIntS.chg O4.out (Chg.cell _ _ _ _) (fun a ha => by have := LB4.out a ha; simp; omega)
  replace HA1 : Hid (VarA (w.heap.size + 1) SlotT #[.int .i64 x0, .string x1, .string x2, .int .i64 0, .slice none 0 0, .int .i64 0] (((Y7.setCell ⟨w.heap.size + 1, 0, none⟩ (.int .i64 x0)).setCell ⟨w.heap.size + 1, 1, none⟩ (.string x1)).setCell ⟨w.heap.size + 1, 2, none⟩ (.string x2))) := HA1.out.set 2 (.string x2)
  replace HBY : Hid (Below w.heap.size w (((Y7.setCell ⟨w.heap.size + 1, 0, none⟩ (.int .i64 x0)).setCell ⟨w.heap.size + 1, 1, none⟩ (.string x1)).setCell ⟨w.heap.size + 1, 2, none⟩ (.string x2))) := HBY.out.trans ((Only.setCell (c := w.heap.size + 1) (w := ((Y7.setCell ⟨w.heap.size + 1, 0, none⟩ (.int .i64 x0)).setCell ⟨w.heap.size + 1, 1, none⟩ (.string x1))) 2 (.string x2)).below (B := w.heap.size) (by omega) HBY.out.size)
  replace O4 : Hid (layIntS.own (((Y7.setCell ⟨w.heap.size + 1, 0, none⟩ (.int .i64 x0)).setCell ⟨w.heap.size + 1, 1, none⟩ (.string x1)).setCell ⟨w.heap.size + 1, 2, none⟩ (.string x2)) w.heap.size f4 [.slice ao4 r4.length cp4] r4) := layIntS.chg O4.out (Chg.cell _ _ _ _) (fun a ha => by have := LB4.out a ha; simp; omega)
  replace HA1 : Hid (VarA (w.heap.size + 1) SlotT #[.int .i64 x0, .string x1, .string x2, .int .i64 x3, .slice none 0 0, .int .i64 0] ((((Y7.setCell ⟨w.heap.size + 1, 0, none⟩ (.int .i64 x0)).setCell ⟨w.heap.size + 1, 1, none⟩ (.string x1)).setCell ⟨w.heap.size + 1, 2, none⟩ (.string x2)).setCell ⟨w.heap.size + 1, 3, none⟩ (.int .i64 x3))) := HA1.out.set 3 (.int .i64 x3)
  replace HBY : Hid (Below w.heap.size w ((((Y7.setCell ⟨w.heap.size + 1, 0, none⟩ (.int .i64 x0)).setCell ⟨w.heap.size + 1, 1, none⟩ (.string x1)).setCell ⟨w.heap.size + 1, 2, none⟩ (.string x2)).setCell ⟨w.heap.size + 1, 3, none⟩ (.int .i64 x3))) := HBY.out.trans ((Only.setCell (c := w.heap.size + 1) (w := (((Y7.setCell ⟨w.heap.size + 1, 0, none⟩ (.int .i64 x0)).setCell ⟨w.heap.size + 1, 1, none⟩ (.string x1)).setCell ⟨w.heap.size + 1, 2, none⟩ (.string x2))) 3 (.int .i64 x3)).below (B := w.heap.size) (by omega) HBY.out.size)
  replace O4 : Hid (layIntS.own ((((Y7.setCell ⟨w.heap.size + 1, 0, none⟩ (.int .i64 x0)).setCell ⟨w.heap.size + 1, 1, none⟩ (.string x1)).setCell ⟨w.heap.size + 1, 2, none⟩ (.string x2)).setCell ⟨w.heap.size + 1, 3, none⟩ (.int .i64 x3)) w.heap.size f4 [.slice ao4 r4.length cp4] r4) := layIntS.chg O4.out (Chg.cell _ _ _ _) (fun a ha => by have := LB4.out a ha; simp; omega)
  replace HA1 : Hid (VarA (w.heap.size + 1) SlotT #[.int .i64 x0, .string x1, .string x2, .int .i64 x3, .slice ao4 r4.length cp4, .int .i64 0] (((((Y7.setCell ⟨w.heap.size + 1, 0, none⟩ (.int .i64 x0)).setCell ⟨w.heap.size + 1, 1, none⟩ (.string x1)).setCell ⟨w.heap.size + 1, 2, none⟩ (.string x2)).setCell ⟨w.heap.size + 1, 3, none⟩ (.int .i64 x3)).setCell ⟨w.heap.size + 1, 4, none⟩ (.slice ao4 r4.length cp4))) := HA1.out.set 4 (.slice ao4 r4.length cp4)
  replace HBY : Hid (Below w.heap.size w (((((Y7.setCell ⟨w.heap.size + 1, 0, none⟩ (.int .i64 x0)).setCell ⟨w.heap.size + 1, 1, none⟩ (.string x1)).setCell ⟨w.heap.size + 1, 2, none⟩ (.string x2)).setCell ⟨w.heap.size + 1, 3, none⟩ (.int .i64 x3)).setCell ⟨w.heap.size + 1, 4, none⟩ (.slice ao4 r4.length cp4))) := HBY.out.trans ((Only.setCell (c := w.heap.size + 1) (w := ((((Y7.setCell ⟨w.heap.size + 1, 0, none⟩ (.int .i64 x0)).setCell ⟨w.heap.size + 1, 1, none⟩ (.string x1)).setCell ⟨w.heap.size + 1, 2, none⟩ (.string x2)).setCell ⟨w.heap.size + 1, 3, none⟩ (.int .i64 x3))) 4 (.slice ao4 r4.length cp4)).below (B := w.heap.size) (by omega) HBY.out.size)
  replace O4 : Hid (layIntS.own (((((Y7.setCell ⟨w.heap.size + 1, 0, none⟩ (.int .i64 x0)).setCell ⟨w.heap.size + 1, 1, none⟩ (.string x1)).setCell ⟨w.heap.size + 1, 2, none⟩ (.string x2)).setCell ⟨w.heap.size + 1, 3, none⟩ (.int .i64 x3)).setCell ⟨w.heap.size + 1, 4, none⟩ (.slice ao4 r4.length cp4)) w.heap.size f4 [.slice ao4 r4.length cp4] r4) := layIntS.chg O4.out (Chg.cell _ _ _ _) (fun a ha => by have := LB4.out a ha; simp; omega)
  replace HA1 : Hid (VarA (w.heap.size + 1) SlotT #[.int .i64 x0, .string x1, .string x2, .int .i64 x3, .slice ao4 r4.length cp4, .int .i64 x5] ((((((Y7.setCell ⟨w.heap.size + 1, 0, none⟩ (.int .i64 x0)).setCell ⟨w.heap.size + 1, 1, none⟩ (.string x1)).setCell ⟨w.heap.size + 1, 2, none⟩ (.string x2)).setCell ⟨w.heap.size + 1, 3, none⟩ (.int .i64 x3)).setCell ⟨w.heap.size + 1, 4, none⟩ (.slice ao4 r4.length cp4)).setCell ⟨w.heap.size + 1, 5, none⟩ (.int .i64 x5))) := HA1.out.set 5 (.int .i64 x5)
  replace HBY : Hid (Below w.heap.size w ((((((Y7.setCell ⟨w.heap.size + 1, 0, none⟩ (.int .i64 x0)).setCell ⟨w.heap.size + 1, 1, none⟩ (.string x1)).setCell ⟨w.heap.size + 1, 2, none⟩ (.string x2)).setCell ⟨w.heap.size + 1, 3, none⟩ (.int .i64 x3)).setCell ⟨w.heap.size + 1, 4, none⟩ (.slice ao4 r4.length cp4)).setCell ⟨w.heap.size + 1, 5, none⟩ (.int .i64 x5))) := HBY.out.trans ((Only.setCell (c := w.heap.size + 1) (w := (((((Y7.setCell ⟨w.heap.size + 1, 0, none⟩ (.int .i64 x0)).setCell ⟨w.heap.size + 1, 1, none⟩ (.string x1)).setCell ⟨w.heap.size + 1, 2, none⟩ (.string x2)).setCell ⟨w.heap.size + 1, 3, none⟩ (.int .i64 x3)).setCell ⟨w.heap.size + 1, 4, none⟩ (.slice ao4 r4.length cp4))) 5 (.int .i64 x5)).below (B := w.heap.size) (by omega) HBY.out.size)
  replace O4 : Hid (layIntS.own ((((((Y7.setCell ⟨w.heap.size + 1, 0, none⟩ (.int .i64 x0)).setCell ⟨w.heap.size + 1, 1, none⟩ (.string x1)).setCell ⟨w.heap.size + 1, 2, none⟩ (.string x2)).setCell ⟨w.heap.size + 1, 3, none⟩ (.int .i64 x3)).setCell ⟨w.heap.size + 1, 4, none⟩ (.slice ao4 r4.length cp4)).setCell ⟨w.heap.size + 1, 5, none⟩ (.int .i64 x5)) w.heap.size f4 [.slice ao4 r4.length cp4] r4) := layIntS.chg O4.out (Chg.cell _ _ _ _) (fun a ha => by have := LB4.out a ha; simp; omega)
  go_wp2_with fail
  have j0 := HA1.out.cell 0
  have j1 := HA1.out.cell 1
  have j2 := HA1.out.cell 2
  have j3 := HA1.out.cell 3
  have j4 := HA1.out.cell 4
  have j5 := HA1.out.cell 5
  refine bodyPost_ret (v := .agg #[.int .i64 x0, .string x1, .string x2, .int .i64 x3, .slice ao4 r4.length cp4, .int .i64 x5]) (by simp [results, Tryz.results22, go_sem, j0, j1, j2, j3, j4, j5]) rfl ⟨[.int .i64 x0, .string x1, .string x2, .int .i64 x3, .slice ao4 r4.length cp4, .int .i64 x5], _, rfl, nd4, laySlot_own.2 ⟨_, _, rfl, rfl, O4.out⟩, HBY.out⟩

set_option maxRecDepth 100000 in
set_option maxHeartbeats 1600000 in
theorem eqSlot_same (x0 : Int) (x1 : ByteArray) (x2 : ByteArray) (x3 : Int) (v4 u4 : Value) (r4 : List Int) (x5 : Int) (w : World) (h4 : layIntS.rd w [v4] r4) (k4 : layIntS.rd w [u4] r4) (l4 : r4.length ≤ 100000000) :
    Calls Tryz.prog 29 #[.agg #[.int .i64 x0, .string x1, .string x2, .int .i64 x3, v4, .int .i64 x5], .agg #[.int .i64 x0, .string x1, .string x2, .int .i64 x3, u4, .int .i64 x5]] w fun e w' => e = .returned (.bool true) ∧ Below w.heap.size w w' := by
  have C_eqIntS_same := Lib.hid eqIntS_same
  have H4 := Lib.hid h4
  have K4 := Lib.hid k4
  clear h4 k4
  have A0 := (VarA.new w SlotT #[.int .i64 x0, .string x1, .string x2, .int .i64 x3, v4, .int .i64 x5]).alloc (.cells #[.int .i64 x0, .string x1, .string x2, .int .i64 x3, u4, .int .i64 x5] SlotT)
  have A1 := VarA.new (w.alloc (.cells #[.int .i64 x0, .string x1, .string x2, .int .i64 x3, v4, .int .i64 x5] SlotT)) SlotT #[.int .i64 x0, .string x1, .string x2, .int .i64 x3, u4, .int .i64 x5]
  have BY := ((Below.refl w.heap.size w).alloc (Nat.le_refl _) (.cells #[.int .i64 x0, .string x1, .string x2, .int .i64 x3, v4, .int .i64 x5] SlotT)).alloc (by simp) (.cells #[.int .i64 x0, .string x1, .string x2, .int .i64 x3, u4, .int .i64 x5] SlotT)
  have e1 : (w.alloc (.cells #[.int .i64 x0, .string x1, .string x2, .int .i64 x3, v4, .int .i64 x5] SlotT)).heap.size = w.heap.size + 1 := by simp
  rw [e1] at A1
  clear e1
  have HA0 := Lib.hid A0
  have HA1 := Lib.hid A1
  have HBY := Lib.hid BY
  clear A0 A1 BY
  go_enter Tryz.func29, Tryz.ntmps29
  go_upto_region 1 with fail
  generalize (w.alloc (.cells #[.int .i64 x0, .string x1, .string x2, .int .i64 x3, v4, .int .i64 x5] SlotT)).alloc (.cells #[.int .i64 x0, .string x1, .string x2, .int .i64 x3, u4, .int .i64 x5] SlotT) = Y0 at *
  have a0 : Y0.cell? ⟨w.heap.size, 0, none⟩ = some (.int .i64 x0) := HA0.out.cell 0
  have b0 : Y0.cell? ⟨w.heap.size + 1, 0, none⟩ = some (.int .i64 x0) := HA1.out.cell 0
  have a1 : Y0.cell? ⟨w.heap.size, 1, none⟩ = some (.string x1) := HA0.out.cell 1
  have b1 : Y0.cell? ⟨w.heap.size + 1, 1, none⟩ = some (.string x1) := HA1.out.cell 1
  have a2 : Y0.cell? ⟨w.heap.size, 2, none⟩ = some (.string x2) := HA0.out.cell 2
  have b2 : Y0.cell? ⟨w.heap.size + 1, 2, none⟩ = some (.string x2) := HA1.out.cell 2
  have a3 : Y0.cell? ⟨w.heap.size, 3, none⟩ = some (.int .i64 x3) := HA0.out.cell 3
  have b3 : Y0.cell? ⟨w.heap.size + 1, 3, none⟩ = some (.int .i64 x3) := HA1.out.cell 3
  have a4 : Y0.cell? ⟨w.heap.size, 4, none⟩ = some (v4) := HA0.out.cell 4
  have b4 : Y0.cell? ⟨w.heap.size + 1, 4, none⟩ = some (u4) := HA1.out.cell 4
  have a5 : Y0.cell? ⟨w.heap.size, 5, none⟩ = some (.int .i64 x5) := HA0.out.cell 5
  have b5 : Y0.cell? ⟨w.heap.size + 1, 5, none⟩ = some (.int .i64 x5) := HA1.out.cell 5
  go_wp2_with fail
  refine (C_eqIntS_same.out _ _ r4 l4 _ (layIntS.below H4.out HBY.out) (layIntS.below K4.out HBY.out)).mono ?_
  rintro e Y1 ⟨rfl, hb⟩
  replace HA0 := Lib.hid (HA0.out.next hb)
  replace HA1 := Lib.hid (HA1.out.next hb)
  replace HBY := Lib.hid (HBY.out.trans (hb.mono HBY.out.size))
  clear hb a0 b0 a1 b1 a2 b2 a3 b3 a4 b4 a5 b5
  have a0 : Y1.cell? ⟨w.heap.size, 0, none⟩ = some (.int .i64 x0) := HA0.out.cell 0
  have b0 : Y1.cell? ⟨w.heap.size + 1, 0, none⟩ = some (.int .i64 x0) := HA1.out.cell 0
  have a1 : Y1.cell? ⟨w.heap.size, 1, none⟩ = some (.string x1) := HA0.out.cell 1
  have b1 : Y1.cell? ⟨w.heap.size + 1, 1, none⟩ = some (.string x1) := HA1.out.cell 1
  have a2 : Y1.cell? ⟨w.heap.size, 2, none⟩ = some (.string x2) := HA0.out.cell 2
  have b2 : Y1.cell? ⟨w.heap.size + 1, 2, none⟩ = some (.string x2) := HA1.out.cell 2
  have a3 : Y1.cell? ⟨w.heap.size, 3, none⟩ = some (.int .i64 x3) := HA0.out.cell 3
  have b3 : Y1.cell? ⟨w.heap.size + 1, 3, none⟩ = some (.int .i64 x3) := HA1.out.cell 3
  have a4 : Y1.cell? ⟨w.heap.size, 4, none⟩ = some (v4) := HA0.out.cell 4
  have b4 : Y1.cell? ⟨w.heap.size + 1, 4, none⟩ = some (u4) := HA1.out.cell 4
  have a5 : Y1.cell? ⟨w.heap.size, 5, none⟩ = some (.int .i64 x5) := HA0.out.cell 5
  have b5 : Y1.cell? ⟨w.heap.size + 1, 5, none⟩ = some (.int .i64 x5) := HA1.out.cell 5
  go_wp2_with fail
  go_ret
  exact ⟨rfl, HBY.out⟩

set_option maxRecDepth 100000 in
set_option maxHeartbeats 3200000 in
theorem markSlot_any (x0 : Int) (x1 : ByteArray) (x2 : ByteArray) (x3 : Int) (v4 : Value) (r4 : List Int) (x5 : Int) (b : Nat) (f4 : List Nat) (l4 : r4.length ≤ 10000000) (k : Int) (hk0 : 1 ≤ k) (hk1 : k ≤ 100000000) (w : World) (hd : (f4).Nodup) (o4 : layIntS.own w b f4 [v4] r4) :
    Calls Tryz.prog 31 #[.agg #[.int .i64 x0, .string x1, .string x2, .int .i64 x3, v4, .int .i64 x5], .int .i64 k] w fun e w' => e = .returned (.int .i64 (k + 1 * (r4.length : Int))) ∧ (layIntS.own w' b f4 [v4] (layIntS.mark (k) r4).1) ∧ Chg (f4) w w' := by
  obtain ⟨a4, p4, rfl⟩ := rows_form (layIntS.read o4)
  have O4 := Lib.hid (layIntS.next o4 ((Below.refl _ _).alloc (Nat.le_refl _) (.cells #[.int .i64 x0, .string x1, .string x2, .int .i64 x3, .slice a4 r4.length p4, .int .i64 x5] SlotT)))
  have A0 := Lib.hid (VarA.new w SlotT #[.int .i64 x0, .string x1, .string x2, .int .i64 x3, .slice a4 r4.length p4, .int .i64 x5])
  have G0 := Lib.hid (Below.chg ((Below.refl w.heap.size w).alloc (Nat.le_refl _) (.cells #[.int .i64 x0, .string x1, .string x2, .int .i64 x3, .slice a4 r4.length p4, .int .i64 x5] SlotT)) (f4))
  have LW4 : Hid (∀ a ∈ f4, a < w.heap.size) := fun a ha => (layIntS.blocks o4 a ha).2
  have N4 := Lib.hid hd
  clear hd o4 
  go_enter Tryz.func31, Tryz.ntmps31
  go_upto_region 1 with fail
  generalize w.alloc (.cells #[.int .i64 x0, .string x1, .string x2, .int .i64 x3, .slice a4 r4.length p4, .int .i64 x5] SlotT) = Y0 at *
  have c4 : Y0.cell? ⟨w.heap.size, 4, none⟩ = some (.slice a4 r4.length p4) := A0.out.cell 4
  have K4 := Lib.hid (markIntL_any (.slice a4 r4.length p4) r4 b f4 k (by omega) (by omega) (by omega) Y0 N4.out O4.out)
  go_wp2_with fail
  refine (K4.out).mono ?_
  rintro e Y1 ⟨rfl, om4, hc⟩
  have M4 := Lib.hid om4
  replace A0 : Hid (VarA w.heap.size SlotT #[.int .i64 x0, .string x1, .string x2, .int .i64 x3, .slice a4 r4.length p4, .int .i64 x5] Y1) := ⟨by rw [hc.block _ A0.out.lt (fun e => by have := LW4.out _ e; omega)]; exact A0.out.row⟩
  replace G0 := Lib.hid (G0.out.trans (hc.sub (fun a ha => ha)))
  clear hc om4 c4 K4
  go_wp2_with fail
  go_ret
  have e9 : k + (r4.length : Int) = k + 1 * (r4.length : Int) := by omega
  exact ⟨ret_int e9, M4.out, G0.out⟩

set_option maxRecDepth 100000 in
set_option maxHeartbeats 3200000 in
theorem heldSlot_any (x0 : Int) (x1 : ByteArray) (x2 : ByteArray) (x3 : Int) (v4 : Value) (r4 : List Int) (x5 : Int) (l4 : r4.length ≤ 10000000) (k : Int) (hk0 : 1 ≤ k) (hk1 : k ≤ 100000000) (w : World) (h4 : layIntS.rd w [v4] (layIntS.mark (k) r4).1) :
    Calls Tryz.prog 33 #[.agg #[.int .i64 x0, .string x1, .string x2, .int .i64 x3, v4, .int .i64 x5], .int .i64 k] w fun e w' => e = .returned (.int .i64 (k + 1 * (r4.length : Int))) ∧ Below w.heap.size w w' := by
  have hm4 := mkAll_length Lay.int r4 (k)
  obtain ⟨a4, p4, hv4⟩ := rows_form h4
  rw [show (layIntS.mark (k) r4).1.length = r4.length from hm4] at hv4
  subst hv4
  have H4 := Lib.hid (layIntS.below h4 ((Below.refl _ _).alloc (Nat.le_refl _) (.cells #[.int .i64 x0, .string x1, .string x2, .int .i64 x3, .slice a4 r4.length p4, .int .i64 x5] SlotT)))
  have A0 := Lib.hid (VarA.new w SlotT #[.int .i64 x0, .string x1, .string x2, .int .i64 x3, .slice a4 r4.length p4, .int .i64 x5])
  have BY := Lib.hid ((Below.refl w.heap.size w).alloc (Nat.le_refl _) (.cells #[.int .i64 x0, .string x1, .string x2, .int .i64 x3, .slice a4 r4.length p4, .int .i64 x5] SlotT))
  clear h4 hm4
  go_enter Tryz.func33, Tryz.ntmps33
  go_upto_region 1 with fail
  generalize w.alloc (.cells #[.int .i64 x0, .string x1, .string x2, .int .i64 x3, .slice a4 r4.length p4, .int .i64 x5] SlotT) = Y0 at *
  have c4 : Y0.cell? ⟨w.heap.size, 4, none⟩ = some (.slice a4 r4.length p4) := A0.out.cell 4
  have P4 : ¬ (k + 1 * (r4.length : Int) < 0) := by omega
  have K4 := Lib.hid (heldIntL_any (.slice a4 r4.length p4) r4 k (by omega) (by omega) (by omega) Y0 H4.out)
  go_wp2_with fail
  refine (K4.out).mono ?_
  rintro e Y1 ⟨rfl, hb⟩
  replace A0 := Lib.hid (A0.out.next hb)
  replace BY := Lib.hid (BY.out.trans (hb.mono BY.out.size))
  clear hb c4 K4
  go_wp2_with fail
  go_ret
  have e9 : k + (r4.length : Int) = k + 1 * (r4.length : Int) := by omega
  exact ⟨ret_int e9, BY.out⟩

def FitsSlot (x1 x2 : ByteArray) (r4 : List Int) : Prop := x1.size ≤ 1048576 ∧ x2.size ≤ 1048576 ∧ FitsInt r4
set_option maxRecDepth 100000 in
set_option maxHeartbeats 1600000 in
theorem szSlot_any (x0 : Int) (x1 : ByteArray) (x2 : ByteArray) (x3 : Int) (v4 : Value) (r4 : List Int) (x5 : Int) (left : Int) (hk0 : 0 ≤ left) (hk1 : left ≤ 1048576) (m1 : x1.size ≤ 9223372036854775807) (m2 : x2.size ≤ 9223372036854775807) (m4 : RoomInt r4) (w : World) (h4 : layIntS.rd w [v4] r4) :
    Calls Tryz.prog 15 #[.agg #[.int .i64 x0, .string x1, .string x2, .int .i64 x3, v4, .int .i64 x5], .int .i64 left] w fun e w' => SzEnd (FitsSlot x1 x2 r4) left e ∧ Below w.heap.size w w' := by
  obtain ⟨a4, p4, rfl⟩ := rows_form h4
  have H4 := Lib.hid (layIntS.below h4 ((Below.refl _ _).alloc (Nat.le_refl _) (.cells #[.int .i64 x0, .string x1, .string x2, .int .i64 x3, .slice a4 r4.length p4, .int .i64 x5] 24)))
  have M4 := Lib.hid m4
  have A0 := Lib.hid (VarA.new w 24 #[.int .i64 x0, .string x1, .string x2, .int .i64 x3, .slice a4 r4.length p4, .int .i64 x5])
  have BY := Lib.hid ((Below.refl w.heap.size w).alloc (Nat.le_refl _) (.cells #[.int .i64 x0, .string x1, .string x2, .int .i64 x3, .slice a4 r4.length p4, .int .i64 x5] 24))
  clear h4 m4
  go_enter Tryz.func15, Tryz.ntmps15
  go_upto_region 1 with fail
  generalize w.alloc (.cells #[.int .i64 x0, .string x1, .string x2, .int .i64 x3, .slice a4 r4.length p4, .int .i64 x5] 24) = Y0 at *
  have c1 : Y0.cell? ⟨w.heap.size, 1, none⟩ = some (.string x1) := A0.out.cell 1
  have c2 : Y0.cell? ⟨w.heap.size, 2, none⟩ = some (.string x2) := A0.out.cell 2
  have c4 : Y0.cell? ⟨w.heap.size, 4, none⟩ = some (.slice a4 r4.length p4) := A0.out.cell 4
  have q1 : IntKind.i64.wrap (left - (x1.size : Int)) = left - (x1.size : Int) := by rw [IntKind.wrap_i64]; omega
  by_cases h1 : left < (x1.size : Int)
  · have h1' : left - (x1.size : Int) < 0 := by omega
    go_wp2_with fail
    go_ret
    exact ⟨⟨_, rfl, .inl rfl⟩, BY.out⟩
  have h1' : ¬ (left - (x1.size : Int) < 0) := by omega
  have q2 : IntKind.i64.wrap (left - (x1.size : Int) - (x2.size : Int)) = left - (x1.size : Int) - (x2.size : Int) := by rw [IntKind.wrap_i64]; omega
  by_cases h2 : left - (x1.size : Int) < (x2.size : Int)
  · have h2' : left - (x1.size : Int) - (x2.size : Int) < 0 := by omega
    go_wp2_with fail
    go_ret
    exact ⟨⟨_, rfl, .inl rfl⟩, BY.out⟩
  have h2' : ¬ (left - (x1.size : Int) - (x2.size : Int) < 0) := by omega
  have K4 := Lib.hid (szIntL_any (.slice a4 r4.length p4) r4 (left - (x1.size : Int) - (x2.size : Int)) (by omega) (by omega) M4.out Y0 H4.out)
  go_wp2_with fail
  refine (K4.out).mono ?_
  rintro e Y1 ⟨⟨t4, rfl, rfl | ⟨u4, w4, F4⟩⟩, hb⟩
  · replace BY := Lib.hid (BY.out.trans (hb.mono BY.out.size))
    clear hb
    go_wp2_with fail
    go_ret
    exact ⟨⟨_, rfl, .inl rfl⟩, BY.out⟩
  replace F4 := Lib.hid F4
  replace BY := Lib.hid (BY.out.trans (hb.mono BY.out.size))
  have g4 : ¬ (t4 < 0) := by omega
  clear hb c4 K4
  go_wp2_with fail
  go_ret
  exact ⟨⟨_, rfl, .inr ⟨by omega, by omega, by omega, by omega, F4.out⟩⟩, BY.out⟩

end Go.Proofs.YtoaifgblbfdncabGreatDoor
