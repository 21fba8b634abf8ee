/-
  Held as it lies; the laws' own functions over it and over rows of it.
-/
import Derived.Test.YtfhlpgngeiploabJ04
import Derived.Test.YtfhlpgngeiploabRows
import Derived.Test.YtfhlpgngeiploabJ06
import Derived.Test.YtfhlpgngeiploabJ08
import Derived.Deep.RegionHeld3
import Derived.BigQuiet
import Derived.Deep.QuietTactic
import Derived.Deep.DeepCutAuto
namespace Go.Proofs.Ytfhlpgngeiploab
open Go.RowKit

abbrev HeldD := Int × Int × Int × (List ByteArray) × (List Bool) × Int
abbrev HeldT : TypeId := 44
def layHeld : Lay HeldD := Lay.pair Lay.int (Lay.pair Lay.int (Lay.pair Lay.int (Lay.pair layStringS (Lay.pair layBoolS Lay.int))))
def layHeldS : Lay (List HeldD) := .rows HeldT layHeld

theorem layHeld_rd {w : World} {cs : List Value} {x : HeldD} : layHeld.rd w cs x ↔ ∃ v3 v4, cs = [.int .i64 x.1, .int .i64 x.2.1, .int .i64 x.2.2.1, v3, v4, .int .i64 x.2.2.2.2.2] ∧ layStringS.rd w [v3] x.2.2.2.1 ∧ layBoolS.rd w [v4] x.2.2.2.2.1 := by
  constructor
  · rintro ⟨c100, d100, rfl, rfl, ⟨c101, d101, rfl, rfl, ⟨c102, d102, rfl, rfl, ⟨c104, d104, rfl, ⟨v103, rfl, h103⟩, ⟨c106, d106, rfl, ⟨v105, rfl, h105⟩, rfl⟩⟩⟩⟩⟩
    exact ⟨v103, v105, rfl, ⟨v103, rfl, h103⟩, ⟨v105, rfl, h105⟩⟩
  · rintro ⟨v3, v4, rfl, H3, H4⟩
    exact ⟨[_], [_, _, _, _, _], rfl, rfl, ⟨[_], [_, _, _, _], rfl, rfl, ⟨[_], [_, _, _], rfl, rfl, ⟨[_], [_, _], rfl, H3, ⟨[_], [_], rfl, H4, rfl⟩⟩⟩⟩⟩

theorem layHeld_own {w : World} {b : Nat} {f : List Nat} {cs : List Value} {x : HeldD} : layHeld.own w b f cs x ↔ ∃ v3 v4 f3 f4, cs = [.int .i64 x.1, .int .i64 x.2.1, .int .i64 x.2.2.1, v3, v4, .int .i64 x.2.2.2.2.2] ∧ f = f3 ++ f4 ∧ layStringS.own w b f3 [v3] x.2.2.2.1 ∧ layBoolS.own w b f4 [v4] x.2.2.2.2.1 := by
  constructor
  · rintro ⟨f100, g100, c100, d100, rfl, rfl, ⟨rfl, rfl⟩, ⟨f101, g101, c101, d101, rfl, rfl, ⟨rfl, rfl⟩, ⟨f102, g102, c102, d102, rfl, rfl, ⟨rfl, rfl⟩, ⟨f104, g104, c104, d104, rfl, rfl, ⟨v103, rfl, h103⟩, ⟨f106, g106, c106, d106, rfl, rfl, ⟨v105, rfl, h105⟩, ⟨rfl, rfl⟩⟩⟩⟩⟩⟩
    exact ⟨v103, v105, _, _, rfl, by simp, ⟨v103, rfl, h103⟩, ⟨v105, rfl, h105⟩⟩
  · rintro ⟨v3, v4, f3, f4, rfl, hf, H3, H4⟩
    have hf2 : f = ([] ++ ([] ++ ([] ++ (f3 ++ (f4 ++ []))))) := by simp [hf]
    rw [hf2]
    exact ⟨[], ([] ++ ([] ++ (f3 ++ (f4 ++ [])))), [_], [_, _, _, _, _], rfl, rfl, ⟨rfl, rfl⟩, ⟨[], ([] ++ (f3 ++ (f4 ++ []))), [_], [_, _, _, _], rfl, rfl, ⟨rfl, rfl⟩, ⟨[], (f3 ++ (f4 ++ [])), [_], [_, _, _], rfl, rfl, ⟨rfl, rfl⟩, ⟨f3, (f4 ++ []), [_], [_, _], rfl, rfl, H3, ⟨f4, [], [_], [_], rfl, rfl, H4, ⟨rfl, rfl⟩⟩⟩⟩⟩⟩

set_option maxRecDepth 100000 in
set_option maxHeartbeats 1600000 in
theorem toHeld_any (x0 : Int) (x1 : Int) (x2 : Int) (v3 : Value) (r3 : List ByteArray) (v4 : Value) (r4 : List Bool) (x5 : Int) (w : World) (h3 : layStringS.rd w [v3] r3) (l3 : r3.length ≤ 1048576) (h4 : layBoolS.rd w [v4] r4) (l4 : r4.length ≤ 1048576) :
    Calls Try.prog 40 #[.agg #[.int .i64 x0, .int .i64 x1, .int .i64 x2, v3, v4, .int .i64 x5]] w fun e w' => OutT layHeld w (x0, x1, x2, r3, r4, x5) e w' := by
  obtain ⟨a3, p3, rfl⟩ := rows_form h3
  obtain ⟨a4, p4, rfl⟩ := rows_form h4
  have C_toStringS_any := Lib.hid toStringS_any
  have C_toBoolS_any := Lib.hid toBoolS_any
  have H3 := Lib.hid h3
  have H4 := Lib.hid h4
  clear h3 h4
  have A0 := ((VarA.new w 63 #[.int .i64 x0, .int .i64 x1, .int .i64 x2, .slice a3 r3.length p3, .slice a4 r4.length p4, .int .i64 x5]).alloc (.cells #[.int .i64 0, .int .i64 0, .int .i64 0, .slice none 0 0, .slice none 0 0, .int .i64 0] HeldT)).alloc (.cells #[.int .i64 0, .int .i64 0, .int .i64 0, .slice none 0 0, .slice none 0 0, .int .i64 0] HeldT)
  have A1 := (VarA.new (w.alloc (.cells #[.int .i64 x0, .int .i64 x1, .int .i64 x2, .slice a3 r3.length p3, .slice a4 r4.length p4, .int .i64 x5] 63)) HeldT #[.int .i64 0, .int .i64 0, .int .i64 0, .slice none 0 0, .slice none 0 0, .int .i64 0]).alloc (.cells #[.int .i64 0, .int .i64 0, .int .i64 0, .slice none 0 0, .slice none 0 0, .int .i64 0] HeldT)
  have A2 := VarA.new ((w.alloc (.cells #[.int .i64 x0, .int .i64 x1, .int .i64 x2, .slice a3 r3.length p3, .slice a4 r4.length p4, .int .i64 x5] 63)).alloc (.cells #[.int .i64 0, .int .i64 0, .int .i64 0, .slice none 0 0, .slice none 0 0, .int .i64 0] HeldT)) HeldT #[.int .i64 0, .int .i64 0, .int .i64 0, .slice none 0 0, .slice none 0 0, .int .i64 0]
  have BY := ((((Below.refl w.heap.size w).alloc (Nat.le_refl _) (.cells #[.int .i64 x0, .int .i64 x1, .int .i64 x2, .slice a3 r3.length p3, .slice a4 r4.length p4, .int .i64 x5] 63)).alloc (by simp) (.cells #[.int .i64 0, .int .i64 0, .int .i64 0, .slice none 0 0, .slice none 0 0, .int .i64 0] HeldT)).alloc (by simp; omega) (.cells #[.int .i64 0, .int .i64 0, .int .i64 0, .slice none 0 0, .slice none 0 0, .int .i64 0] HeldT))
  have e1 : (w.alloc (.cells #[.int .i64 x0, .int .i64 x1, .int .i64 x2, .slice a3 r3.length p3, .slice a4 r4.length p4, .int .i64 x5] 63)).heap.size = w.heap.size + 1 := by simp
  have e2 : ((w.alloc (.cells #[.int .i64 x0, .int .i64 x1, .int .i64 x2, .slice a3 r3.length p3, .slice a4 r4.length p4, .int .i64 x5] 63)).alloc (.cells #[.int .i64 0, .int .i64 0, .int .i64 0, .slice none 0 0, .slice none 0 0, .int .i64 0] HeldT)).heap.size = w.heap.size + 1 + 1 := by simp
  rw [e1] at A1
  rw [e2] at A2
  clear e1 e2
  have HA0 := Lib.hid A0
  have HA1 := Lib.hid A1
  have HA2 := Lib.hid A2
  have HBY := Lib.hid BY
  clear A0 A1 A2 BY
  go_enter Try.func40, Try.ntmps40
  go_upto_region 2 with fail
  generalize ((w.alloc (.cells #[.int .i64 x0, .int .i64 x1, .int .i64 x2, .slice a3 r3.length p3, .slice a4 r4.length p4, .int .i64 x5] 63)).alloc (.cells #[.int .i64 0, .int .i64 0, .int .i64 0, .slice none 0 0, .slice none 0 0, .int .i64 0] HeldT)).alloc (.cells #[.int .i64 0, .int .i64 0, .int .i64 0, .slice none 0 0, .slice none 0 0, .int .i64 0] HeldT) = Y0 at *
  have c0 : Y0.cell? ⟨w.heap.size, 0, none⟩ = some (.int .i64 x0) := HA0.out.cell 0
  have q0 : Y0.cell? ⟨w.heap.size + 1 + 1, 0, none⟩ = some (.int .i64 0) := HA2.out.cell 0
  have f_0 : Y0.frozen? ⟨w.heap.size + 1 + 1, 0, none⟩ = false := HA2.out.free 0
  replace HA0 : Hid (VarA w.heap.size 63 #[.int .i64 x0, .int .i64 x1, .int .i64 x2, .slice a3 r3.length p3, .slice a4 r4.length p4, .int .i64 x5] (Y0.setCell ⟨w.heap.size + 1 + 1, 0, none⟩ (.int .i64 x0))) := HA0.out.off 0 (.int .i64 x0) (by omega)
  replace HA1 : Hid (VarA (w.heap.size + 1) HeldT #[.int .i64 0, .int .i64 0, .int .i64 0, .slice none 0 0, .slice none 0 0, .int .i64 0] (Y0.setCell ⟨w.heap.size + 1 + 1, 0, none⟩ (.int .i64 x0))) := HA1.out.off 0 (.int .i64 x0) (by omega)
  replace HA2 : Hid (VarA (w.heap.size + 1 + 1) HeldT #[.int .i64 x0, .int .i64 0, .int .i64 0, .slice none 0 0, .slice none 0 0, .int .i64 0] (Y0.setCell ⟨w.heap.size + 1 + 1, 0, none⟩ (.int .i64 x0))) := HA2.out.set 0 (.int .i64 x0)
  replace HBY : Hid (Below w.heap.size w (Y0.setCell ⟨w.heap.size + 1 + 1, 0, none⟩ (.int .i64 x0))) := HBY.out.trans ((Only.setCell (c := w.heap.size + 1 + 1) (w := Y0) 0 (.int .i64 x0)).below (B := w.heap.size) (by omega) HBY.out.size)
  go_upto_region 3 with fail
  generalize (Y0.setCell ⟨w.heap.size + 1 + 1, 0, none⟩ (.int .i64 x0)) = Y1 at *
  clear c0 q0 f_0
  have c1 : Y1.cell? ⟨w.heap.size, 1, none⟩ = some (.int .i64 x1) := HA0.out.cell 1
  have q1 : Y1.cell? ⟨w.heap.size + 1 + 1, 1, none⟩ = some (.int .i64 0) := HA2.out.cell 1
  have f_1 : Y1.frozen? ⟨w.heap.size + 1 + 1, 1, none⟩ = false := HA2.out.free 1
  replace HA0 : Hid (VarA w.heap.size 63 #[.int .i64 x0, .int .i64 x1, .int .i64 x2, .slice a3 r3.length p3, .slice a4 r4.length p4, .int .i64 x5] (Y1.setCell ⟨w.heap.size + 1 + 1, 1, none⟩ (.int .i64 x1))) := HA0.out.off 1 (.int .i64 x1) (by omega)
  replace HA1 : Hid (VarA (w.heap.size + 1) HeldT #[.int .i64 0, .int .i64 0, .int .i64 0, .slice none 0 0, .slice none 0 0, .int .i64 0] (Y1.setCell ⟨w.heap.size + 1 + 1, 1, none⟩ (.int .i64 x1))) := HA1.out.off 1 (.int .i64 x1) (by omega)
  replace HA2 : Hid (VarA (w.heap.size + 1 + 1) HeldT #[.int .i64 x0, .int .i64 x1, .int .i64 0, .slice none 0 0, .slice none 0 0, .int .i64 0] (Y1.setCell ⟨w.heap.size + 1 + 1, 1, none⟩ (.int .i64 x1))) := HA2.out.set 1 (.int .i64 x1)
  replace HBY : Hid (Below w.heap.size w (Y1.setCell ⟨w.heap.size + 1 + 1, 1, none⟩ (.int .i64 x1))) := HBY.out.trans ((Only.setCell (c := w.heap.size + 1 + 1) (w := Y1) 1 (.int .i64 x1)).below (B := w.heap.size) (by omega) HBY.out.size)
  go_upto_region 4 with fail
  generalize (Y1.setCell ⟨w.heap.size + 1 + 1, 1, none⟩ (.int .i64 x1)) = Y2 at *
  clear c1 q1 f_1
  have c2 : Y2.cell? ⟨w.heap.size, 2, none⟩ = some (.int .i64 x2) := HA0.out.cell 2
  have q2 : Y2.cell? ⟨w.heap.size + 1 + 1, 2, none⟩ = some (.int .i64 0) := HA2.out.cell 2
  have f_2 : Y2.frozen? ⟨w.heap.size + 1 + 1, 2, none⟩ = false := HA2.out.free 2
  replace HA0 : Hid (VarA w.heap.size 63 #[.int .i64 x0, .int .i64 x1, .int .i64 x2, .slice a3 r3.length p3, .slice a4 r4.length p4, .int .i64 x5] (Y2.setCell ⟨w.heap.size + 1 + 1, 2, none⟩ (.int .i64 x2))) := HA0.out.off 2 (.int .i64 x2) (by omega)
  replace HA1 : Hid (VarA (w.heap.size + 1) HeldT #[.int .i64 0, .int .i64 0, .int .i64 0, .slice none 0 0, .slice none 0 0, .int .i64 0] (Y2.setCell ⟨w.heap.size + 1 + 1, 2, none⟩ (.int .i64 x2))) := HA1.out.off 2 (.int .i64 x2) (by omega)
  replace HA2 : Hid (VarA (w.heap.size + 1 + 1) HeldT #[.int .i64 x0, .int .i64 x1, .int .i64 x2, .slice none 0 0, .slice none 0 0, .int .i64 0] (Y2.setCell ⟨w.heap.size + 1 + 1, 2, none⟩ (.int .i64 x2))) := HA2.out.set 2 (.int .i64 x2)
  replace HBY : Hid (Below w.heap.size w (Y2.setCell ⟨w.heap.size + 1 + 1, 2, none⟩ (.int .i64 x2))) := HBY.out.trans ((Only.setCell (c := w.heap.size + 1 + 1) (w := Y2) 2 (.int .i64 x2)).below (B := w.heap.size) (by omega) HBY.out.size)
  go_upto_region 5 with fail
  generalize (Y2.setCell ⟨w.heap.size + 1 + 1, 2, none⟩ (.int .i64 x2)) = Y3 at *
  clear c2 q2 f_2
  have c3 : Y3.cell? ⟨w.heap.size, 3, none⟩ = some (.slice a3 r3.length p3) := HA0.out.cell 3
  go_wp2_with fail
  refine (C_toStringS_any.out _ _ l3 _ (layStringS.below H3.out HBY.out)).mono ?_
  rintro e Y4 ⟨n3, f3, rfl, nd3, hown, hb⟩
  obtain ⟨ao3, cp3, rfl⟩ := rows_form (layStringS.read hown)
  have LB3 : Hid (∀ a ∈ f3, w.heap.size + 1 + 1 < a) := fun a ha => Nat.lt_of_lt_of_le HA2.out.lt (layStringS.blocks hown a ha).1
  have O3 := Lib.hid (layStringS.lower hown HBY.out.size)
  replace HA0 := Lib.hid (HA0.out.next hb)
  replace HA1 := Lib.hid (HA1.out.next hb)
  replace HA2 := Lib.hid (HA2.out.next hb)
  replace HBY := Lib.hid (HBY.out.trans (hb.mono HBY.out.size))
  clear hb hown
  have q3 : Y4.cell? ⟨w.heap.size + 1 + 1, 3, none⟩ = some (.slice none 0 0) := HA2.out.cell 3
  have f_3 : Y4.frozen? ⟨w.heap.size + 1 + 1, 3, none⟩ = false := HA2.out.free 3
  replace HA0 : Hid (VarA w.heap.size 63 #[.int .i64 x0, .int .i64 x1, .int .i64 x2, .slice a3 r3.length p3, .slice a4 r4.length p4, .int .i64 x5] (Y4.setCell ⟨w.heap.size + 1 + 1, 3, none⟩ (.slice ao3 r3.length cp3))) := HA0.out.off 3 (.slice ao3 r3.length cp3) (by omega)
  replace HA1 : Hid (VarA (w.heap.size + 1) HeldT #[.int .i64 0, .int .i64 0, .int .i64 0, .slice none 0 0, .slice none 0 0, .int .i64 0] (Y4.setCell ⟨w.heap.size + 1 + 1, 3, none⟩ (.slice ao3 r3.length cp3))) := HA1.out.off 3 (.slice ao3 r3.length cp3) (by omega)
  replace HA2 : Hid (VarA (w.heap.size + 1 + 1) HeldT #[.int .i64 x0, .int .i64 x1, .int .i64 x2, .slice ao3 r3.length cp3, .slice none 0 0, .int .i64 0] (Y4.setCell ⟨w.heap.size + 1 + 1, 3, none⟩ (.slice ao3 r3.length cp3))) := HA2.out.set 3 (.slice ao3 r3.length cp3)
  replace HBY : Hid (Below w.heap.size w (Y4.setCell ⟨w.heap.size + 1 + 1, 3, none⟩ (.slice ao3 r3.length cp3))) := HBY.out.trans ((Only.setCell (c := w.heap.size + 1 + 1) (w := Y4) 3 (.slice ao3 r3.length cp3)).below (B := w.heap.size) (by omega) HBY.out.size)
  replace O3 : Hid (layStringS.own (Y4.setCell ⟨w.heap.size + 1 + 1, 3, none⟩ (.slice ao3 r3.length cp3)) w.heap.size f3 [.slice ao3 r3.length cp3] r3) := layStringS.chg O3.out (Chg.cell _ _ _ _) (fun a ha => by have := LB3.out a ha; simp; omega)
  go_upto_region 6 with fail
  generalize (Y4.setCell ⟨w.heap.size + 1 + 1, 3, none⟩ (.slice ao3 r3.length cp3)) = Y5 at *
  clear c3 q3 f_3
  have c4 : Y5.cell? ⟨w.heap.size, 4, none⟩ = some (.slice a4 r4.length p4) := HA0.out.cell 4
  go_wp2_with fail
  refine (C_toBoolS_any.out _ _ l4 _ (layBoolS.below H4.out HBY.out)).mono ?_
  rintro e Y6 ⟨n4, f4, rfl, nd4, hown, hb⟩
  obtain ⟨ao4, cp4, rfl⟩ := rows_form (layBoolS.read hown)
  have LT3_4 : Hid (∀ a ∈ f3, ∀ b ∈ f4, a < b) := fun a ha b hb' => Nat.lt_of_lt_of_le (layStringS.blocks O3.out a ha).2 (layBoolS.blocks hown b hb').1
  have LB4 : Hid (∀ a ∈ f4, w.heap.size + 1 + 1 < a) := fun a ha => Nat.lt_of_lt_of_le HA2.out.lt (layBoolS.blocks hown a ha).1
  have O4 := Lib.hid (layBoolS.lower hown HBY.out.size)
  replace O3 := Lib.hid (layStringS.next O3.out hb)
  replace HA0 := Lib.hid (HA0.out.next hb)
  replace HA1 := Lib.hid (HA1.out.next hb)
  replace HA2 := Lib.hid (HA2.out.next hb)
  replace HBY := Lib.hid (HBY.out.trans (hb.mono HBY.out.size))
  clear hb hown
  have q4 : Y6.cell? ⟨w.heap.size + 1 + 1, 4, none⟩ = some (.slice none 0 0) := HA2.out.cell 4
  have f_4 : Y6.frozen? ⟨w.heap.size + 1 + 1, 4, none⟩ = false := HA2.out.free 4
  replace HA0 : Hid (VarA w.heap.size 63 #[.int .i64 x0, .int .i64 x1, .int .i64 x2, .slice a3 r3.length p3, .slice a4 r4.length p4, .int .i64 x5] (Y6.setCell ⟨w.heap.size + 1 + 1, 4, none⟩ (.slice ao4 r4.length cp4))) := HA0.out.off 4 (.slice ao4 r4.length cp4) (by omega)
  replace HA1 : Hid (VarA (w.heap.size + 1) HeldT #[.int .i64 0, .int .i64 0, .int .i64 0, .slice none 0 0, .slice none 0 0, .int .i64 0] (Y6.setCell ⟨w.heap.size + 1 + 1, 4, none⟩ (.slice ao4 r4.length cp4))) := HA1.out.off 4 (.slice ao4 r4.length cp4) (by omega)
  replace HA2 : Hid (VarA (w.heap.size + 1 + 1) HeldT #[.int .i64 x0, .int .i64 x1, .int .i64 x2, .slice ao3 r3.length cp3, .slice ao4 r4.length cp4, .int .i64 0] (Y6.setCell ⟨w.heap.size + 1 + 1, 4, none⟩ (.slice ao4 r4.length cp4))) := HA2.out.set 4 (.slice ao4 r4.length cp4)
  replace HBY : Hid (Below w.heap.size w (Y6.setCell ⟨w.heap.size + 1 + 1, 4, none⟩ (.slice ao4 r4.length cp4))) := HBY.out.trans ((Only.setCell (c := w.heap.size + 1 + 1) (w := Y6) 4 (.slice ao4 r4.length cp4)).below (B := w.heap.size) (by omega) HBY.out.size)
  replace O3 : Hid (layStringS.own (Y6.setCell ⟨w.heap.size + 1 + 1, 4, none⟩ (.slice ao4 r4.length cp4)) w.heap.size f3 [.slice ao3 r3.length cp3] r3) := layStringS.chg O3.out (Chg.cell _ _ _ _) (fun a ha => by have := LB3.out a ha; simp; omega)
  replace O4 : Hid (layBoolS.own (Y6.setCell ⟨w.heap.size + 1 + 1, 4, none⟩ (.slice ao4 r4.length cp4)) w.heap.size f4 [.slice ao4 r4.length cp4] r4) := layBoolS.chg O4.out (Chg.cell _ _ _ _) (fun a ha => by have := LB4.out a ha; simp; omega)
  go_upto_region 7 with fail
  generalize (Y6.setCell ⟨w.heap.size + 1 + 1, 4, none⟩ (.slice ao4 r4.length cp4)) = Y7 at *
  clear c4 q4 f_4
  have c5 : Y7.cell? ⟨w.heap.size, 5, none⟩ = some (.int .i64 x5) := HA0.out.cell 5
  have q5 : Y7.cell? ⟨w.heap.size + 1 + 1, 5, none⟩ = some (.int .i64 0) := HA2.out.cell 5
  have f_5 : Y7.frozen? ⟨w.heap.size + 1 + 1, 5, none⟩ = false := HA2.out.free 5
  replace HA0 : Hid (VarA w.heap.size 63 #[.int .i64 x0, .int .i64 x1, .int .i64 x2, .slice a3 r3.length p3, .slice a4 r4.length p4, .int .i64 x5] (Y7.setCell ⟨w.heap.size + 1 + 1, 5, none⟩ (.int .i64 x5))) := HA0.out.off 5 (.int .i64 x5) (by omega)
  replace HA1 : Hid (VarA (w.heap.size + 1) HeldT #[.int .i64 0, .int .i64 0, .int .i64 0, .slice none 0 0, .slice none 0 0, .int .i64 0] (Y7.setCell ⟨w.heap.size + 1 + 1, 5, none⟩ (.int .i64 x5))) := HA1.out.off 5 (.int .i64 x5) (by omega)
  replace HA2 : Hid (VarA (w.heap.size + 1 + 1) HeldT #[.int .i64 x0, .int .i64 x1, .int .i64 x2, .slice ao3 r3.length cp3, .slice ao4 r4.length cp4, .int .i64 x5] (Y7.setCell ⟨w.heap.size + 1 + 1, 5, none⟩ (.int .i64 x5))) := HA2.out.set 5 (.int .i64 x5)
  replace HBY : Hid (Below w.heap.size w (Y7.setCell ⟨w.heap.size + 1 + 1, 5, none⟩ (.int .i64 x5))) := HBY.out.trans ((Only.setCell (c := w.heap.size + 1 + 1) (w := Y7) 5 (.int .i64 x5)).below (B := w.heap.size) (by omega) HBY.out.size)
  replace O3 : Hid (layStringS.own (Y7.setCell ⟨w.heap.size + 1 + 1, 5, none⟩ (.int .i64 x5)) w.heap.size f3 [.slice ao3 r3.length cp3] r3) := layStringS.chg O3.out (Chg.cell _ _ _ _) (fun a ha => by have := LB3.out a ha; simp; omega)
  replace O4 : Hid (layBoolS.own (Y7.setCell ⟨w.heap.size + 1 + 1, 5, none⟩ (.int .i64 x5)) w.heap.size f4 [.slice ao4 r4.length cp4] r4) := layBoolS.chg O4.out (Chg.cell _ _ _ _) (fun a ha => by have := LB4.out a ha; simp; omega)
  go_upto_region 8 with fail
  generalize (Y7.setCell ⟨w.heap.size + 1 + 1, 5, none⟩ (.int .i64 x5)) = Y8 at *
  clear c5 q5 f_5
  have c0 : Y8.cell? ⟨w.heap.size + 1 + 1, 0, none⟩ = some (.int .i64 x0) := HA2.out.cell 0
  have q0 : Y8.cell? ⟨w.heap.size + 1, 0, none⟩ = some (.int .i64 0) := HA1.out.cell 0
  have f_0 : Y8.frozen? ⟨w.heap.size + 1, 0, none⟩ = false := HA1.out.free 0
  have c1 : Y8.cell? ⟨w.heap.size + 1 + 1, 1, none⟩ = some (.int .i64 x1) := HA2.out.cell 1
  have q1 : Y8.cell? ⟨w.heap.size + 1, 1, none⟩ = some (.int .i64 0) := HA1.out.cell 1
  have f_1 : Y8.frozen? ⟨w.heap.size + 1, 1, none⟩ = false := HA1.out.free 1
  have c2 : Y8.cell? ⟨w.heap.size + 1 + 1, 2, none⟩ = some (.int .i64 x2) := HA2.out.cell 2
  have q2 : Y8.cell? ⟨w.heap.size + 1, 2, none⟩ = some (.int .i64 0) := HA1.out.cell 2
  have f_2 : Y8.frozen? ⟨w.heap.size + 1, 2, none⟩ = false := HA1.out.free 2
  have c3 : Y8.cell? ⟨w.heap.size + 1 + 1, 3, none⟩ = some (.slice ao3 r3.length cp3) := HA2.out.cell 3
  have q3 : Y8.cell? ⟨w.heap.size + 1, 3, none⟩ = some (.slice none 0 0) := HA1.out.cell 3
  have f_3 : Y8.frozen? ⟨w.heap.size + 1, 3, none⟩ = false := HA1.out.free 3
  have c4 : Y8.cell? ⟨w.heap.size + 1 + 1, 4, none⟩ = some (.slice ao4 r4.length cp4) := HA2.out.cell 4
  have q4 : Y8.cell? ⟨w.heap.size + 1, 4, none⟩ = some (.slice none 0 0) := HA1.out.cell 4
  have f_4 : Y8.frozen? ⟨w.heap.size + 1, 4, none⟩ = false := HA1.out.free 4
  have c5 : Y8.cell? ⟨w.heap.size + 1 + 1, 5, none⟩ = some (.int .i64 x5) := HA2.out.cell 5
  have q5 : Y8.cell? ⟨w.heap.size + 1, 5, none⟩ = some (.int .i64 0) := HA1.out.cell 5
  have f_5 : Y8.frozen? ⟨w.heap.size + 1, 5, none⟩ = false := HA1.out.free 5
  replace HA1 : Hid (VarA (w.heap.size + 1) HeldT #[.int .i64 x0, .int .i64 0, .int .i64 0, .slice none 0 0, .slice none 0 0, .int .i64 0] (Y8.setCell ⟨w.heap.size + 1, 0, none⟩ (.int .i64 x0))) := HA1.out.set 0 (.int .i64 x0)
  replace HBY : Hid (Below w.heap.size w (Y8.setCell ⟨w.heap.size + 1, 0, none⟩ (.int .i64 x0))) := HBY.out.trans ((Only.setCell (c := w.heap.size + 1) (w := Y8) 0 (.int .i64 x0)).below (B := w.heap.size) (by omega) HBY.out.size)
  replace O3 : Hid (layStringS.own (Y8.setCell ⟨w.heap.size + 1, 0, none⟩ (.int .i64 x0)) w.heap.size f3 [.slice ao3 r3.length cp3] r3) := layStringS.chg O3.out (Chg.cell _ _ _ _) (fun a ha => by have := LB3.out a ha; simp; omega)
  replace O4 : Hid (layBoolS.own (Y8.setCell ⟨w.heap.size + 1, 0, none⟩ (.int .i64 x0)) w.heap.size f4 [.slice ao4 r4.length cp4] r4) := layBoolS.chg O4.out (Chg.cell _ _ _ _) (fun a ha => by have := LB4.out a ha; simp; omega)
  replace HA1 : Hid (VarA (w.heap.size + 1) HeldT #[.int .i64 x0, .int .i64 x1, .int .i64 0, .slice none 0 0, .slice none 0 0, .int .i64 0] ((Y8.setCell ⟨w.heap.size + 1, 0, none⟩ (.int .i64 x0)).setCell ⟨w.heap.size + 1, 1, none⟩ (.int .i64 x1))) := HA1.out.set 1 (.int .i64 x1)
  replace HBY : Hid (Below w.heap.size w ((Y8.setCell ⟨w.heap.size + 1, 0, none⟩ (.int .i64 x0)).setCell ⟨w.heap.size + 1, 1, none⟩ (.int .i64 x1))) := HBY.out.trans ((Only.setCell (c := w.heap.size + 1) (w := (Y8.setCell ⟨w.heap.size + 1, 0, none⟩ (.int .i64 x0))) 1 (.int .i64 x1)).below (B := w.heap.size) (by omega) HBY.out.size)
  replace O3 : Hid (layStringS.own ((Y8.setCell ⟨w.heap.size + 1, 0, none⟩ (.int .i64 x0)).setCell ⟨w.heap.size + 1, 1, none⟩ (.int .i64 x1)) w.heap.size f3 [.slice ao3 r3.length cp3] r3) := layStringS.chg O3.out (Chg.cell _ _ _ _) (fun a ha => by have := LB3.out a ha; simp; omega)
  replace O4 : Hid (layBoolS.own ((Y8.setCell ⟨w.heap.size + 1, 0, none⟩ (.int .i64 x0)).setCell ⟨w.heap.size + 1, 1, none⟩ (.int .i64 x1)) w.heap.size f4 [.slice ao4 r4.length cp4] r4) := layBoolS.chg O4.out (Chg.cell _ _ _ _) (fun a ha => by have := LB4.out a ha; simp; omega)
  replace HA1 : Hid (VarA (w.heap.size + 1) HeldT #[.int .i64 x0, .int .i64 x1, .int .i64 x2, .slice none 0 0, .slice none 0 0, .int .i64 0] (((Y8.setCell ⟨w.heap.size + 1, 0, none⟩ (.int .i64 x0)).setCell ⟨w.heap.size + 1, 1, none⟩ (.int .i64 x1)).setCell ⟨w.heap.size + 1, 2, none⟩ (.int .i64 x2))) := HA1.out.set 2 (.int .i64 x2)
  replace HBY : Hid (Below w.heap.size w (((Y8.setCell ⟨w.heap.size + 1, 0, none⟩ (.int .i64 x0)).setCell ⟨w.heap.size + 1, 1, none⟩ (.int .i64 x1)).setCell ⟨w.heap.size + 1, 2, none⟩ (.int .i64 x2))) := HBY.out.trans ((Only.setCell (c := w.heap.size + 1) (w := ((Y8.setCell ⟨w.heap.size + 1, 0, none⟩ (.int .i64 x0)).setCell ⟨w.heap.size + 1, 1, none⟩ (.int .i64 x1))) 2 (.int .i64 x2)).below (B := w.heap.size) (by omega) HBY.out.size)
  replace O3 : Hid (layStringS.own (((Y8.setCell ⟨w.heap.size + 1, 0, none⟩ (.int .i64 x0)).setCell ⟨w.heap.size + 1, 1, none⟩ (.int .i64 x1)).setCell ⟨w.heap.size + 1, 2, none⟩ (.int .i64 x2)) w.heap.size f3 [.slice ao3 r3.length cp3] r3) := layStringS.chg O3.out (Chg.cell _ _ _ _) (fun a ha => by have := LB3.out a ha; simp; omega)
  replace O4 : Hid (layBoolS.own (((Y8.setCell ⟨w.heap.size + 1, 0, none⟩ (.int .i64 x0)).setCell ⟨w.heap.size + 1, 1, none⟩ (.int .i64 x1)).setCell ⟨w.heap.size + 1, 2, none⟩ (.int .i64 x2)) w.heap.size f4 [.slice ao4 r4.length cp4] r4) := layBoolS.chg O4.out (Chg.cell _ _ _ _) (fun a ha => by have := LB4.out a ha; simp; omega)
  replace HA1 : Hid (VarA (w.heap.size + 1) HeldT #[.int .i64 x0, .int .i64 x1, .int .i64 x2, .slice ao3 r3.length cp3, .slice none 0 0, .int .i64 0] ((((Y8.setCell ⟨w.heap.size + 1, 0, none⟩ (.int .i64 x0)).setCell ⟨w.heap.size + 1, 1, none⟩ (.int .i64 x1)).setCell ⟨w.heap.size + 1, 2, none⟩ (.int .i64 x2)).setCell ⟨w.heap.size + 1, 3, none⟩ (.slice ao3 r3.length cp3))) := HA1.out.set 3 (.slice ao3 r3.length cp3)
  replace HBY : Hid (Below w.heap.size w ((((Y8.setCell ⟨w.heap.size + 1, 0, none⟩ (.int .i64 x0)).setCell ⟨w.heap.size + 1, 1, none⟩ (.int .i64 x1)).setCell ⟨w.heap.size + 1, 2, none⟩ (.int .i64 x2)).setCell ⟨w.heap.size + 1, 3, none⟩ (.slice ao3 r3.length cp3))) := HBY.out.trans ((Only.setCell (c := w.heap.size + 1) (w := (((Y8.setCell ⟨w.heap.size + 1, 0, none⟩ (.int .i64 x0)).setCell ⟨w.heap.size + 1, 1, none⟩ (.int .i64 x1)).setCell ⟨w.heap.size + 1, 2, none⟩ (.int .i64 x2))) 3 (.slice ao3 r3.length cp3)).below (B := w.heap.size) (by omega) HBY.out.size)
  replace O3 : Hid (layStringS.own ((((Y8.setCell ⟨w.heap.size + 1, 0, none⟩ (.int .i64 x0)).setCell ⟨w.heap.size + 1, 1, none⟩ (.int .i64 x1)).setCell ⟨w.heap.size + 1, 2, none⟩ (.int .i64 x2)).setCell ⟨w.heap.size + 1, 3, none⟩ (.slice ao3 r3.length cp3)) w.heap.size f3 [.slice ao3 r3.length cp3] r3) := layStringS.chg O3.out (Chg.cell _ _ _ _) (fun a ha => by have := LB3.out a ha; simp; omega)
  replace O4 : Hid (layBoolS.own ((((Y8.setCell ⟨w.heap.size + 1, 0, none⟩ (.int .i64 x0)).setCell ⟨w.heap.size + 1, 1, none⟩ (.int .i64 x1)).setCell ⟨w.heap.size + 1, 2, none⟩ (.int .i64 x2)).setCell ⟨w.heap.size + 1, 3, none⟩ (.slice ao3 r3.length cp3)) w.heap.size f4 [.slice ao4 r4.length cp4] r4) := layBoolS.chg O4.out (Chg.cell _ _ _ _) (fun a ha => by have := LB4.out a ha; simp; omega)
  replace HA1 : Hid (VarA (w.heap.size + 1) HeldT #[.int .i64 x0, .int .i64 x1, .int .i64 x2, .slice ao3 r3.length cp3, .slice ao4 r4.length cp4, .int .i64 0] (((((Y8.setCell ⟨w.heap.size + 1, 0, none⟩ (.int .i64 x0)).setCell ⟨w.heap.size + 1, 1, none⟩ (.int .i64 x1)).setCell ⟨w.heap.size + 1, 2, none⟩ (.int .i64 x2)).setCell ⟨w.heap.size + 1, 3, none⟩ (.slice ao3 r3.length cp3)).setCell ⟨w.heap.size + 1, 4, none⟩ (.slice ao4 r4.length cp4))) := HA1.out.set 4 (.slice ao4 r4.length cp4)
  replace HBY : Hid (Below w.heap.size w (((((Y8.setCell ⟨w.heap.size + 1, 0, none⟩ (.int .i64 x0)).setCell ⟨w.heap.size + 1, 1, none⟩ (.int .i64 x1)).setCell ⟨w.heap.size + 1, 2, none⟩ (.int .i64 x2)).setCell ⟨w.heap.size + 1, 3, none⟩ (.slice ao3 r3.length cp3)).setCell ⟨w.heap.size + 1, 4, none⟩ (.slice ao4 r4.length cp4))) := HBY.out.trans ((Only.setCell (c := w.heap.size + 1) (w := ((((Y8.setCell ⟨w.heap.size + 1, 0, none⟩ (.int .i64 x0)).setCell ⟨w.heap.size + 1, 1, none⟩ (.int .i64 x1)).setCell ⟨w.heap.size + 1, 2, none⟩ (.int .i64 x2)).setCell ⟨w.heap.size + 1, 3, none⟩ (.slice ao3 r3.length cp3))) 4 (.slice ao4 r4.length cp4)).below (B := w.heap.size) (by omega) HBY.out.size)
  replace O3 : Hid (layStringS.own (((((Y8.setCell ⟨w.heap.size + 1, 0, none⟩ (.int .i64 x0)).setCell ⟨w.heap.size + 1, 1, none⟩ (.int .i64 x1)).setCell ⟨w.heap.size + 1, 2, none⟩ (.int .i64 x2)).setCell ⟨w.heap.size + 1, 3, none⟩ (.slice ao3 r3.length cp3)).setCell ⟨w.heap.size + 1, 4, none⟩ (.slice ao4 r4.length cp4)) w.heap.size f3 [.slice ao3 r3.length cp3] r3) := layStringS.chg O3.out (Chg.cell _ _ _ _) (fun a ha => by have := LB3.out a ha; simp; omega)
  replace O4 : Hid (layBoolS.own (((((Y8.setCell ⟨w.heap.size + 1, 0, none⟩ (.int .i64 x0)).setCell ⟨w.heap.size + 1, 1, none⟩ (.int .i64 x1)).setCell ⟨w.heap.size + 1, 2, none⟩ (.int .i64 x2)).setCell ⟨w.heap.size + 1, 3, none⟩ (.slice ao3 r3.length cp3)).setCell ⟨w.heap.size + 1, 4, none⟩ (.slice ao4 r4.length cp4)) w.heap.size f4 [.slice ao4 r4.length cp4] r4) := layBoolS.chg O4.out (Chg.cell _ _ _ _) (fun a ha => by have := LB4.out a ha; simp; omega)
  replace HA1 : Hid (VarA (w.heap.size + 1) HeldT #[.int .i64 x0, .int .i64 x1, .int .i64 x2, .slice ao3 r3.length cp3, .slice ao4 r4.length cp4, .int .i64 x5] ((((((Y8.setCell ⟨w.heap.size + 1, 0, none⟩ (.int .i64 x0)).setCell ⟨w.heap.size + 1, 1, none⟩ (.int .i64 x1)).setCell ⟨w.heap.size + 1, 2, none⟩ (.int .i64 x2)).setCell ⟨w.heap.size + 1, 3, none⟩ (.slice ao3 r3.length cp3)).setCell ⟨w.heap.size + 1, 4, none⟩ (.slice ao4 r4.length cp4)).setCell ⟨w.heap.size + 1, 5, none⟩ (.int .i64 x5))) := HA1.out.set 5 (.int .i64 x5)
  replace HBY : Hid (Below w.heap.size w ((((((Y8.setCell ⟨w.heap.size + 1, 0, none⟩ (.int .i64 x0)).setCell ⟨w.heap.size + 1, 1, none⟩ (.int .i64 x1)).setCell ⟨w.heap.size + 1, 2, none⟩ (.int .i64 x2)).setCell ⟨w.heap.size + 1, 3, none⟩ (.slice ao3 r3.length cp3)).setCell ⟨w.heap.size + 1, 4, none⟩ (.slice ao4 r4.length cp4)).setCell ⟨w.heap.size + 1, 5, none⟩ (.int .i64 x5))) := HBY.out.trans ((Only.setCell (c := w.heap.size + 1) (w := (((((Y8.setCell ⟨w.heap.size + 1, 0, none⟩ (.int .i64 x0)).setCell ⟨w.heap.size + 1, 1, none⟩ (.int .i64 x1)).setCell ⟨w.heap.size + 1, 2, none⟩ (.int .i64 x2)).setCell ⟨w.heap.size + 1, 3, none⟩ (.slice ao3 r3.length cp3)).setCell ⟨w.heap.size + 1, 4, none⟩ (.slice ao4 r4.length cp4))) 5 (.int .i64 x5)).below (B := w.heap.size) (by omega) HBY.out.size)
  replace O3 : Hid (layStringS.own ((((((Y8.setCell ⟨w.heap.size + 1, 0, none⟩ (.int .i64 x0)).setCell ⟨w.heap.size + 1, 1, none⟩ (.int .i64 x1)).setCell ⟨w.heap.size + 1, 2, none⟩ (.int .i64 x2)).setCell ⟨w.heap.size + 1, 3, none⟩ (.slice ao3 r3.length cp3)).setCell ⟨w.heap.size + 1, 4, none⟩ (.slice ao4 r4.length cp4)).setCell ⟨w.heap.size + 1, 5, none⟩ (.int .i64 x5)) w.heap.size f3 [.slice ao3 r3.length cp3] r3) := layStringS.chg O3.out (Chg.cell _ _ _ _) (fun a ha => by have := LB3.out a ha; simp; omega)
  replace O4 : Hid (layBoolS.own ((((((Y8.setCell ⟨w.heap.size + 1, 0, none⟩ (.int .i64 x0)).setCell ⟨w.heap.size + 1, 1, none⟩ (.int .i64 x1)).setCell ⟨w.heap.size + 1, 2, none⟩ (.int .i64 x2)).setCell ⟨w.heap.size + 1, 3, none⟩ (.slice ao3 r3.length cp3)).setCell ⟨w.heap.size + 1, 4, none⟩ (.slice ao4 r4.length cp4)).setCell ⟨w.heap.size + 1, 5, none⟩ (.int .i64 x5)) w.heap.size f4 [.slice ao4 r4.length cp4] r4) := layBoolS.chg O4.out (Chg.cell _ _ _ _) (fun a ha => by have := LB4.out a ha; simp; omega)
  go_wp2_with fail
  have j0 := HA1.out.cell 0
  have j1 := HA1.out.cell 1
  have j2 := HA1.out.cell 2
  have j3 := HA1.out.cell 3
  have j4 := HA1.out.cell 4
  have j5 := HA1.out.cell 5
  refine bodyPost_ret (v := .agg #[.int .i64 x0, .int .i64 x1, .int .i64 x2, .slice ao3 r3.length cp3, .slice ao4 r4.length cp4, .int .i64 x5]) (by simp [results, Try.results40, go_sem, j0, j1, j2, j3, j4, j5]) rfl ⟨[.int .i64 x0, .int .i64 x1, .int .i64 x2, .slice ao3 r3.length cp3, .slice ao4 r4.length cp4, .int .i64 x5], _, rfl, nodup_two nd3 (nd4) (LT3_4.out), layHeld_own.2 ⟨_, _, _, _, rfl, rfl, O3.out, O4.out⟩, HBY.out⟩

set_option maxRecDepth 100000 in
set_option maxHeartbeats 1600000 in
theorem eqHeld_same (x0 : Int) (x1 : Int) (x2 : Int) (v3 u3 : Value) (r3 : List ByteArray) (v4 u4 : Value) (r4 : List Bool) (x5 : Int) (w : World) (h3 : layStringS.rd w [v3] r3) (k3 : layStringS.rd w [u3] r3) (l3 : r3.length ≤ 100000000) (h4 : layBoolS.rd w [v4] r4) (k4 : layBoolS.rd w [u4] r4) (l4 : r4.length ≤ 100000000) :
    Calls Try.prog 46 #[.agg #[.int .i64 x0, .int .i64 x1, .int .i64 x2, v3, v4, .int .i64 x5], .agg #[.int .i64 x0, .int .i64 x1, .int .i64 x2, u3, u4, .int .i64 x5]] w fun e w' => e = .returned (.bool true) ∧ Below w.heap.size w w' := by
  have C_eqStringS_same := Lib.hid eqStringS_same
  have C_eqBoolS_same := Lib.hid eqBoolS_same
  have H3 := Lib.hid h3
  have K3 := Lib.hid k3
  have H4 := Lib.hid h4
  have K4 := Lib.hid k4
  clear h3 k3 h4 k4
  have A0 := (VarA.new w HeldT #[.int .i64 x0, .int .i64 x1, .int .i64 x2, v3, v4, .int .i64 x5]).alloc (.cells #[.int .i64 x0, .int .i64 x1, .int .i64 x2, u3, u4, .int .i64 x5] HeldT)
  have A1 := VarA.new (w.alloc (.cells #[.int .i64 x0, .int .i64 x1, .int .i64 x2, v3, v4, .int .i64 x5] HeldT)) HeldT #[.int .i64 x0, .int .i64 x1, .int .i64 x2, u3, u4, .int .i64 x5]
  have BY := ((Below.refl w.heap.size w).alloc (Nat.le_refl _) (.cells #[.int .i64 x0, .int .i64 x1, .int .i64 x2, v3, v4, .int .i64 x5] HeldT)).alloc (by simp) (.cells #[.int .i64 x0, .int .i64 x1, .int .i64 x2, u3, u4, .int .i64 x5] HeldT)
  have e1 : (w.alloc (.cells #[.int .i64 x0, .int .i64 x1, .int .i64 x2, v3, v4, .int .i64 x5] HeldT)).heap.size = w.heap.size + 1 := by simp
  rw [e1] at A1
  clear e1
  have HA0 := Lib.hid A0
  have HA1 := Lib.hid A1
  have HBY := Lib.hid BY
  clear A0 A1 BY
  go_enter Try.func46, Try.ntmps46
  go_upto_region 1 with fail
  generalize (w.alloc (.cells #[.int .i64 x0, .int .i64 x1, .int .i64 x2, v3, v4, .int .i64 x5] HeldT)).alloc (.cells #[.int .i64 x0, .int .i64 x1, .int .i64 x2, u3, u4, .int .i64 x5] HeldT) = Y0 at *
  have a0 : Y0.cell? ⟨w.heap.size, 0, none⟩ = some (.int .i64 x0) := HA0.out.cell 0
  have b0 : Y0.cell? ⟨w.heap.size + 1, 0, none⟩ = some (.int .i64 x0) := HA1.out.cell 0
  have a1 : Y0.cell? ⟨w.heap.size, 1, none⟩ = some (.int .i64 x1) := HA0.out.cell 1
  have b1 : Y0.cell? ⟨w.heap.size + 1, 1, none⟩ = some (.int .i64 x1) := HA1.out.cell 1
  have a2 : Y0.cell? ⟨w.heap.size, 2, none⟩ = some (.int .i64 x2) := HA0.out.cell 2
  have b2 : Y0.cell? ⟨w.heap.size + 1, 2, none⟩ = some (.int .i64 x2) := HA1.out.cell 2
  have a3 : Y0.cell? ⟨w.heap.size, 3, none⟩ = some (v3) := HA0.out.cell 3
  have b3 : Y0.cell? ⟨w.heap.size + 1, 3, none⟩ = some (u3) := HA1.out.cell 3
  have a4 : Y0.cell? ⟨w.heap.size, 4, none⟩ = some (v4) := HA0.out.cell 4
  have b4 : Y0.cell? ⟨w.heap.size + 1, 4, none⟩ = some (u4) := HA1.out.cell 4
  have a5 : Y0.cell? ⟨w.heap.size, 5, none⟩ = some (.int .i64 x5) := HA0.out.cell 5
  have b5 : Y0.cell? ⟨w.heap.size + 1, 5, none⟩ = some (.int .i64 x5) := HA1.out.cell 5
  go_wp2_with fail
  refine (C_eqStringS_same.out _ _ r3 l3 _ (layStringS.below H3.out HBY.out) (layStringS.below K3.out HBY.out)).mono ?_
  rintro e Y1 ⟨rfl, hb⟩
  replace HA0 := Lib.hid (HA0.out.next hb)
  replace HA1 := Lib.hid (HA1.out.next hb)
  replace HBY := Lib.hid (HBY.out.trans (hb.mono HBY.out.size))
  clear hb a0 b0 a1 b1 a2 b2 a3 b3 a4 b4 a5 b5
  have a0 : Y1.cell? ⟨w.heap.size, 0, none⟩ = some (.int .i64 x0) := HA0.out.cell 0
  have b0 : Y1.cell? ⟨w.heap.size + 1, 0, none⟩ = some (.int .i64 x0) := HA1.out.cell 0
  have a1 : Y1.cell? ⟨w.heap.size, 1, none⟩ = some (.int .i64 x1) := HA0.out.cell 1
  have b1 : Y1.cell? ⟨w.heap.size + 1, 1, none⟩ = some (.int .i64 x1) := HA1.out.cell 1
  have a2 : Y1.cell? ⟨w.heap.size, 2, none⟩ = some (.int .i64 x2) := HA0.out.cell 2
  have b2 : Y1.cell? ⟨w.heap.size + 1, 2, none⟩ = some (.int .i64 x2) := HA1.out.cell 2
  have a3 : Y1.cell? ⟨w.heap.size, 3, none⟩ = some (v3) := HA0.out.cell 3
  have b3 : Y1.cell? ⟨w.heap.size + 1, 3, none⟩ = some (u3) := HA1.out.cell 3
  have a4 : Y1.cell? ⟨w.heap.size, 4, none⟩ = some (v4) := HA0.out.cell 4
  have b4 : Y1.cell? ⟨w.heap.size + 1, 4, none⟩ = some (u4) := HA1.out.cell 4
  have a5 : Y1.cell? ⟨w.heap.size, 5, none⟩ = some (.int .i64 x5) := HA0.out.cell 5
  have b5 : Y1.cell? ⟨w.heap.size + 1, 5, none⟩ = some (.int .i64 x5) := HA1.out.cell 5
  go_wp2_with fail
  refine (C_eqBoolS_same.out _ _ r4 l4 _ (layBoolS.below H4.out HBY.out) (layBoolS.below K4.out HBY.out)).mono ?_
  rintro e Y2 ⟨rfl, hb⟩
  replace HA0 := Lib.hid (HA0.out.next hb)
  replace HA1 := Lib.hid (HA1.out.next hb)
  replace HBY := Lib.hid (HBY.out.trans (hb.mono HBY.out.size))
  clear hb a0 b0 a1 b1 a2 b2 a3 b3 a4 b4 a5 b5
  have a0 : Y2.cell? ⟨w.heap.size, 0, none⟩ = some (.int .i64 x0) := HA0.out.cell 0
  have b0 : Y2.cell? ⟨w.heap.size + 1, 0, none⟩ = some (.int .i64 x0) := HA1.out.cell 0
  have a1 : Y2.cell? ⟨w.heap.size, 1, none⟩ = some (.int .i64 x1) := HA0.out.cell 1
  have b1 : Y2.cell? ⟨w.heap.size + 1, 1, none⟩ = some (.int .i64 x1) := HA1.out.cell 1
  have a2 : Y2.cell? ⟨w.heap.size, 2, none⟩ = some (.int .i64 x2) := HA0.out.cell 2
  have b2 : Y2.cell? ⟨w.heap.size + 1, 2, none⟩ = some (.int .i64 x2) := HA1.out.cell 2
  have a3 : Y2.cell? ⟨w.heap.size, 3, none⟩ = some (v3) := HA0.out.cell 3
  have b3 : Y2.cell? ⟨w.heap.size + 1, 3, none⟩ = some (u3) := HA1.out.cell 3
  have a4 : Y2.cell? ⟨w.heap.size, 4, none⟩ = some (v4) := HA0.out.cell 4
  have b4 : Y2.cell? ⟨w.heap.size + 1, 4, none⟩ = some (u4) := HA1.out.cell 4
  have a5 : Y2.cell? ⟨w.heap.size, 5, none⟩ = some (.int .i64 x5) := HA0.out.cell 5
  have b5 : Y2.cell? ⟨w.heap.size + 1, 5, none⟩ = some (.int .i64 x5) := HA1.out.cell 5
  go_wp2_with fail
  go_ret
  exact ⟨rfl, HBY.out⟩

end Go.Proofs.Ytfhlpgngeiploab
