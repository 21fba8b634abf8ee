/-
  Options as it lies; the laws' own functions over it and over rows of it.
  The given test of a range, by what it answers.
-/
import Derived.Test.YtmgdhlodifkemasDoorJ09
import Derived.Test.YtmgdhlodifkemasDoorRows
import Derived.Test.YtmgdhlodifkemasDoorJ10
import Derived.Deep.RegionHeld3
import Derived.BigQuiet
import Derived.Deep.QuietTactic
import Derived.Deep.DeepCutAuto
import Derived.Test.YtmgdhlodifkemasDoorJ01
namespace Go.Proofs.YtmgdhlodifkemasDoor
open Go.RowKit

abbrev OptionsD := Int × (List ByteArray) × Bool
abbrev OptionsT : TypeId := 28
def layOptions : Lay OptionsD := Lay.pair Lay.int (Lay.pair layStringS Lay.bool)
def layOptionsS : Lay (List OptionsD) := .rows OptionsT layOptions

theorem layOptions_rd {w : World} {cs : List Value} {x : OptionsD} : layOptions.rd w cs x ↔ ∃ v1, cs = [.int .i64 x.1, v1, .bool x.2.2] ∧ layStringS.rd w [v1] x.2.1 := by
  constructor
  · rintro ⟨c100, d100, rfl, rfl, ⟨c102, d102, rfl, ⟨v101, rfl, h101⟩, rfl⟩⟩
    exact ⟨v101, rfl, ⟨v101, rfl, h101⟩⟩
  · rintro ⟨v1, rfl, H1⟩
    exact ⟨[_], [_, _], rfl, rfl, ⟨[_], [_], rfl, H1, rfl⟩⟩

theorem layOptions_own {w : World} {b : Nat} {f : List Nat} {cs : List Value} {x : OptionsD} : layOptions.own w b f cs x ↔ ∃ v1 f1, cs = [.int .i64 x.1, v1, .bool x.2.2] ∧ f = f1 ∧ layStringS.own w b f1 [v1] x.2.1 := by
  constructor
  · rintro ⟨f100, g100, c100, d100, rfl, rfl, ⟨rfl, rfl⟩, ⟨f102, g102, c102, d102, rfl, rfl, ⟨v101, rfl, h101⟩, ⟨rfl, rfl⟩⟩⟩
    exact ⟨v101, _, rfl, by simp, ⟨v101, rfl, h101⟩⟩
  · rintro ⟨v1, f1, rfl, hf, H1⟩
    have hf2 : f = ([] ++ (f1 ++ [])) := by simp [hf]
    rw [hf2]
    exact ⟨[], (f1 ++ []), [_], [_, _], rfl, rfl, ⟨rfl, rfl⟩, ⟨f1, [], [_], [_], rfl, rfl, H1, ⟨rfl, rfl⟩⟩⟩

set_option maxRecDepth 100000 in
set_option maxHeartbeats 1600000 in
theorem toOptions_any (x0 : Int) (v1 : Value) (r1 : List ByteArray) (x2 : Bool) (w : World) (h1 : layStringS.rd w [v1] r1) (l1 : r1.length ≤ 1048576) :
    Calls Tryd.prog 6 #[.agg #[.int .i64 x0, v1, .bool x2]] w fun e w' => OutT layOptions w (x0, r1, x2) e w' := by
  obtain ⟨a1, p1, rfl⟩ := rows_form h1
  have C_toStringS_any := Lib.hid toStringS_any
  have H1 := Lib.hid h1
  clear h1
  have A0 := ((VarA.new w 24 #[.int .i64 x0, .slice a1 r1.length p1, .bool x2]).alloc (.cells #[.int .i64 0, .slice none 0 0, .bool false] OptionsT)).alloc (.cells #[.int .i64 0, .slice none 0 0, .bool false] OptionsT)
  have A1 := (VarA.new (w.alloc (.cells #[.int .i64 x0, .slice a1 r1.length p1, .bool x2] 24)) OptionsT #[.int .i64 0, .slice none 0 0, .bool false]).alloc (.cells #[.int .i64 0, .slice none 0 0, .bool false] OptionsT)
  have A2 := VarA.new ((w.alloc (.cells #[.int .i64 x0, .slice a1 r1.length p1, .bool x2] 24)).alloc (.cells #[.int .i64 0, .slice none 0 0, .bool false] OptionsT)) OptionsT #[.int .i64 0, .slice none 0 0, .bool false]
  have BY := ((((Below.refl w.heap.size w).alloc (Nat.le_refl _) (.cells #[.int .i64 x0, .slice a1 r1.length p1, .bool x2] 24)).alloc (by simp) (.cells #[.int .i64 0, .slice none 0 0, .bool false] OptionsT)).alloc (by simp; omega) (.cells #[.int .i64 0, .slice none 0 0, .bool false] OptionsT))
  have e1 : (w.alloc (.cells #[.int .i64 x0, .slice a1 r1.length p1, .bool x2] 24)).heap.size = w.heap.size + 1 := by simp
  have e2 : ((w.alloc (.cells #[.int .i64 x0, .slice a1 r1.length p1, .bool x2] 24)).alloc (.cells #[.int .i64 0, .slice none 0 0, .bool false] OptionsT)).heap.size = w.heap.size + 1 + 1 := by simp
  rw [e1] at A1
  rw [e2] at A2
  clear e1 e2
  have HA0 := Lib.hid A0
  have HA1 := Lib.hid A1
  have HA2 := Lib.hid A2
  have HBY := Lib.hid BY
  clear A0 A1 A2 BY
  go_enter Tryd.func6, Tryd.ntmps6
  go_upto_region 2 with fail
  generalize ((w.alloc (.cells #[.int .i64 x0, .slice a1 r1.length p1, .bool x2] 24)).alloc (.cells #[.int .i64 0, .slice none 0 0, .bool false] OptionsT)).alloc (.cells #[.int .i64 0, .slice none 0 0, .bool false] OptionsT) = Y0 at *
  have c0 : Y0.cell? ⟨w.heap.size, 0, none⟩ = some (.int .i64 x0) := HA0.out.cell 0
  have q0 : Y0.cell? ⟨w.heap.size + 1 + 1, 0, none⟩ = some (.int .i64 0) := HA2.out.cell 0
  have f_0 : Y0.frozen? ⟨w.heap.size + 1 + 1, 0, none⟩ = false := HA2.out.free 0
  replace HA0 : Hid (VarA w.heap.size 24 #[.int .i64 x0, .slice a1 r1.length p1, .bool x2] (Y0.setCell ⟨w.heap.size + 1 + 1, 0, none⟩ (.int .i64 x0))) := HA0.out.off 0 (.int .i64 x0) (by omega)
  replace HA1 : Hid (VarA (w.heap.size + 1) OptionsT #[.int .i64 0, .slice none 0 0, .bool false] (Y0.setCell ⟨w.heap.size + 1 + 1, 0, none⟩ (.int .i64 x0))) := HA1.out.off 0 (.int .i64 x0) (by omega)
  replace HA2 : Hid (VarA (w.heap.size + 1 + 1) OptionsT #[.int .i64 x0, .slice none 0 0, .bool false] (Y0.setCell ⟨w.heap.size + 1 + 1, 0, none⟩ (.int .i64 x0))) := HA2.out.set 0 (.int .i64 x0)
  replace HBY : Hid (Below w.heap.size w (Y0.setCell ⟨w.heap.size + 1 + 1, 0, none⟩ (.int .i64 x0))) := HBY.out.trans ((Only.setCell (c := w.heap.size + 1 + 1) (w := Y0) 0 (.int .i64 x0)).below (B := w.heap.size) (by omega) HBY.out.size)
  go_upto_region 3 with fail
  generalize (Y0.setCell ⟨w.heap.size + 1 + 1, 0, none⟩ (.int .i64 x0)) = Y1 at *
  clear c0 q0 f_0
  have c1 : Y1.cell? ⟨w.heap.size, 1, none⟩ = some (.slice a1 r1.length p1) := HA0.out.cell 1
  go_wp2_with fail
  refine (C_toStringS_any.out _ _ l1 _ (layStringS.below H1.out HBY.out)).mono ?_
  rintro e Y2 ⟨n1, f1, rfl, nd1, hown, hb⟩
  obtain ⟨ao1, cp1, rfl⟩ := rows_form (layStringS.read hown)
  have LB1 : Hid (∀ a ∈ f1, w.heap.size + 1 + 1 < a) := fun a ha => Nat.lt_of_lt_of_le HA2.out.lt (layStringS.blocks hown a ha).1
  have O1 := Lib.hid (layStringS.lower hown HBY.out.size)
  replace HA0 := Lib.hid (HA0.out.next hb)
  replace HA1 := Lib.hid (HA1.out.next hb)
  replace HA2 := Lib.hid (HA2.out.next hb)
  replace HBY := Lib.hid (HBY.out.trans (hb.mono HBY.out.size))
  clear hb hown
  have q1 : Y2.cell? ⟨w.heap.size + 1 + 1, 1, none⟩ = some (.slice none 0 0) := HA2.out.cell 1
  have f_1 : Y2.frozen? ⟨w.heap.size + 1 + 1, 1, none⟩ = false := HA2.out.free 1
  replace HA0 : Hid (VarA w.heap.size 24 #[.int .i64 x0, .slice a1 r1.length p1, .bool x2] (Y2.setCell ⟨w.heap.size + 1 + 1, 1, none⟩ (.slice ao1 r1.length cp1))) := HA0.out.off 1 (.slice ao1 r1.length cp1) (by omega)
  replace HA1 : Hid (VarA (w.heap.size + 1) OptionsT #[.int .i64 0, .slice none 0 0, .bool false] (Y2.setCell ⟨w.heap.size + 1 + 1, 1, none⟩ (.slice ao1 r1.length cp1))) := HA1.out.off 1 (.slice ao1 r1.length cp1) (by omega)
  replace HA2 : Hid (VarA (w.heap.size + 1 + 1) OptionsT #[.int .i64 x0, .slice ao1 r1.length cp1, .bool false] (Y2.setCell ⟨w.heap.size + 1 + 1, 1, none⟩ (.slice ao1 r1.length cp1))) := HA2.out.set 1 (.slice ao1 r1.length cp1)
  replace HBY : Hid (Below w.heap.size w (Y2.setCell ⟨w.heap.size + 1 + 1, 1, none⟩ (.slice ao1 r1.length cp1))) := HBY.out.trans ((Only.setCell (c := w.heap.size + 1 + 1) (w := Y2) 1 (.slice ao1 r1.length cp1)).below (B := w.heap.size) (by omega) HBY.out.size)
  replace O1 : Hid (layStringS.own (Y2.setCell ⟨w.heap.size + 1 + 1, 1, none⟩ (.slice ao1 r1.length cp1)) w.heap.size f1 [.slice ao1 r1.length cp1] r1) := layStringS.chg O1.out (Chg.cell _ _ _ _) (fun a ha => by have := LB1.out a ha; simp; omega)
  go_upto_region 4 with fail
  generalize (Y2.setCell ⟨w.heap.size + 1 + 1, 1, none⟩ (.slice ao1 r1.length cp1)) = Y3 at *
  clear c1 q1 f_1
  have c2 : Y3.cell? ⟨w.heap.size, 2, none⟩ = some (.bool x2) := HA0.out.cell 2
  have q2 : Y3.cell? ⟨w.heap.size + 1 + 1, 2, none⟩ = some (.bool false) := HA2.out.cell 2
  have f_2 : Y3.frozen? ⟨w.heap.size + 1 + 1, 2, none⟩ = false := HA2.out.free 2
  replace HA0 : Hid (VarA w.heap.size 24 #[.int .i64 x0, .slice a1 r1.length p1, .bool x2] (Y3.setCell ⟨w.heap.size + 1 + 1, 2, none⟩ (.bool x2))) := HA0.out.off 2 (.bool x2) (by omega)
  replace HA1 : Hid (VarA (w.heap.size + 1) OptionsT #[.int .i64 0, .slice none 0 0, .bool false] (Y3.setCell ⟨w.heap.size + 1 + 1, 2, none⟩ (.bool x2))) := HA1.out.off 2 (.bool x2) (by omega)
  replace HA2 : Hid (VarA (w.heap.size + 1 + 1) OptionsT #[.int .i64 x0, .slice ao1 r1.length cp1, .bool x2] (Y3.setCell ⟨w.heap.size + 1 + 1, 2, none⟩ (.bool x2))) := HA2.out.set 2 (.bool x2)
  replace HBY : Hid (Below w.heap.size w (Y3.setCell ⟨w.heap.size + 1 + 1, 2, none⟩ (.bool x2))) := HBY.out.trans ((Only.setCell (c := w.heap.size + 1 + 1) (w := Y3) 2 (.bool x2)).below (B := w.heap.size) (by omega) HBY.out.size)
  replace O1 : Hid (layStringS.own (Y3.setCell ⟨w.heap.size + 1 + 1, 2, none⟩ (.bool x2)) w.heap.size f1 [.slice ao1 r1.length cp1] r1) := layStringS.chg O1.out (Chg.cell _ _ _ _) (fun a ha => by have := LB1.out a ha; simp; omega)
  go_upto_region 5 with fail
  generalize (Y3.setCell ⟨w.heap.size + 1 + 1, 2, none⟩ (.bool x2)) = Y4 at *
  clear c2 q2 f_2
  have c0 : Y4.cell? ⟨w.heap.size + 1 + 1, 0, none⟩ = some (.int .i64 x0) := HA2.out.cell 0
  have q0 : Y4.cell? ⟨w.heap.size + 1, 0, none⟩ = some (.int .i64 0) := HA1.out.cell 0
  have f_0 : Y4.frozen? ⟨w.heap.size + 1, 0, none⟩ = false := HA1.out.free 0
  have c1 : Y4.cell? ⟨w.heap.size + 1 + 1, 1, none⟩ = some (.slice ao1 r1.length cp1) := HA2.out.cell 1
  have q1 : Y4.cell? ⟨w.heap.size + 1, 1, none⟩ = some (.slice none 0 0) := HA1.out.cell 1
  have f_1 : Y4.frozen? ⟨w.heap.size + 1, 1, none⟩ = false := HA1.out.free 1
  have c2 : Y4.cell? ⟨w.heap.size + 1 + 1, 2, none⟩ = some (.bool x2) := HA2.out.cell 2
  have q2 : Y4.cell? ⟨w.heap.size + 1, 2, none⟩ = some (.bool false) := HA1.out.cell 2
  have f_2 : Y4.frozen? ⟨w.heap.size + 1, 2, none⟩ = false := HA1.out.free 2
  replace HA1 : Hid (VarA (w.heap.size + 1) OptionsT #[.int .i64 x0, .slice none 0 0, .bool false] (Y4.setCell ⟨w.heap.size + 1, 0, none⟩ (.int .i64 x0))) := HA1.out.set 0 (.int .i64 x0)
  replace HBY : Hid (Below w.heap.size w (Y4.setCell ⟨w.heap.size + 1, 0, none⟩ (.int .i64 x0))) := HBY.out.trans ((Only.setCell (c := w.heap.size + 1) (w := Y4) 0 (.int .i64 x0)).below (B := w.heap.size) (by omega) HBY.out.size)
  replace O1 : Hid (layStringS.own (Y4.setCell ⟨w.heap.size + 1, 0, none⟩ (.int .i64 x0)) w.heap.size f1 [.slice ao1 r1.length cp1] r1) := layStringS.chg O1.out (Chg.cell _ _ _ _) (fun a ha => by have := LB1.out a ha; simp; omega)
  replace HA1 : Hid (VarA (w.heap.size + 1) OptionsT #[.int .i64 x0, .slice ao1 r1.length cp1, .bool false] ((Y4.setCell ⟨w.heap.size + 1, 0, none⟩ (.int .i64 x0)).setCell ⟨w.heap.size + 1, 1, none⟩ (.slice ao1 r1.length cp1))) := HA1.out.set 1 (.slice ao1 r1.length cp1)
  replace HBY : Hid (Below w.heap.size w ((Y4.setCell ⟨w.heap.size + 1, 0, none⟩ (.int .i64 x0)).setCell ⟨w.heap.size + 1, 1, none⟩ (.slice ao1 r1.length cp1))) := HBY.out.trans ((Only.setCell (c := w.heap.size + 1) (w := (Y4.setCell ⟨w.heap.size + 1, 0, none⟩ (.int .i64 x0))) 1 (.slice ao1 r1.length cp1)).below (B := w.heap.size) (by omega) HBY.out.size)
  replace O1 : Hid (layStringS.own ((Y4.setCell ⟨w.heap.size + 1, 0, none⟩ (.int .i64 x0)).setCell ⟨w.heap.size + 1, 1, none⟩ (.slice ao1 r1.length cp1)) w.heap.size f1 [.slice ao1 r1.length cp1] r1) := layStringS.chg O1.out (Chg.cell _ _ _ _) (fun a ha => by have := LB1.out a ha; simp; omega)
  replace HA1 : Hid (VarA (w.heap.size + 1) OptionsT #[.int .i64 x0, .slice ao1 r1.length cp1, .bool x2] (((Y4.setCell ⟨w.heap.size + 1, 0, none⟩ (.int .i64 x0)).setCell ⟨w.heap.size + 1, 1, none⟩ (.slice ao1 r1.length cp1)).setCell ⟨w.heap.size + 1, 2, none⟩ (.bool x2))) := HA1.out.set 2 (.bool x2)
  replace HBY : Hid (Below w.heap.size w (((Y4.setCell ⟨w.heap.size + 1, 0, none⟩ (.int .i64 x0)).setCell ⟨w.heap.size + 1, 1, none⟩ (.slice ao1 r1.length cp1)).setCell ⟨w.heap.size + 1, 2, none⟩ (.bool x2))) := HBY.out.trans ((Only.setCell (c := w.heap.size + 1) (w := ((Y4.setCell ⟨w.heap.size + 1, 0, none⟩ (.int .i64 x0)).setCell ⟨w.heap.size + 1, 1, none⟩ (.slice ao1 r1.length cp1))) 2 (.bool x2)).below (B := w.heap.size) (by omega) HBY.out.size)
  replace O1 : Hid (layStringS.own (((Y4.setCell ⟨w.heap.size + 1, 0, none⟩ (.int .i64 x0)).setCell ⟨w.heap.size + 1, 1, none⟩ (.slice ao1 r1.length cp1)).setCell ⟨w.heap.size + 1, 2, none⟩ (.bool x2)) w.heap.size f1 [.slice ao1 r1.length cp1] r1) := layStringS.chg O1.out (Chg.cell _ _ _ _) (fun a ha => by have := LB1.out a ha; simp; omega)
  go_wp2_with fail
  have j0 := HA1.out.cell 0
  have j1 := HA1.out.cell 1
  have j2 := HA1.out.cell 2
  refine bodyPost_ret (v := .agg #[.int .i64 x0, .slice ao1 r1.length cp1, .bool x2]) (by simp [results, Tryd.results6, go_sem, j0, j1, j2]) rfl ⟨[.int .i64 x0, .slice ao1 r1.length cp1, .bool x2], _, rfl, nd1, layOptions_own.2 ⟨_, _, rfl, rfl, O1.out⟩, HBY.out⟩

set_option maxRecDepth 100000 in
set_option maxHeartbeats 1600000 in
theorem eqOptions_same (x0 : Int) (v1 u1 : Value) (r1 : List ByteArray) (x2 : Bool) (w : World) (h1 : layStringS.rd w [v1] r1) (k1 : layStringS.rd w [u1] r1) (l1 : r1.length ≤ 100000000) :
    Calls Tryd.prog 8 #[.agg #[.int .i64 x0, v1, .bool x2], .agg #[.int .i64 x0, u1, .bool x2]] w fun e w' => e = .returned (.bool true) ∧ Below w.heap.size w w' := by
  have C_eqStringS_same := Lib.hid eqStringS_same
  have H1 := Lib.hid h1
  have K1 := Lib.hid k1
  clear h1 k1
  have A0 := (VarA.new w OptionsT #[.int .i64 x0, v1, .bool x2]).alloc (.cells #[.int .i64 x0, u1, .bool x2] OptionsT)
  have A1 := VarA.new (w.alloc (.cells #[.int .i64 x0, v1, .bool x2] OptionsT)) OptionsT #[.int .i64 x0, u1, .bool x2]
  have BY := ((Below.refl w.heap.size w).alloc (Nat.le_refl _) (.cells #[.int .i64 x0, v1, .bool x2] OptionsT)).alloc (by simp) (.cells #[.int .i64 x0, u1, .bool x2] OptionsT)
  have e1 : (w.alloc (.cells #[.int .i64 x0, v1, .bool x2] OptionsT)).heap.size = w.heap.size + 1 := by simp
  rw [e1] at A1
  clear e1
  have HA0 := Lib.hid A0
  have HA1 := Lib.hid A1
  have HBY := Lib.hid BY
  clear A0 A1 BY
  go_enter Tryd.func8, Tryd.ntmps8
  go_upto_region 1 with fail
  generalize (w.alloc (.cells #[.int .i64 x0, v1, .bool x2] OptionsT)).alloc (.cells #[.int .i64 x0, u1, .bool x2] OptionsT) = Y0 at *
  have a0 : Y0.cell? ⟨w.heap.size, 0, none⟩ = some (.int .i64 x0) := HA0.out.cell 0
  have b0 : Y0.cell? ⟨w.heap.size + 1, 0, none⟩ = some (.int .i64 x0) := HA1.out.cell 0
  have a1 : Y0.cell? ⟨w.heap.size, 1, none⟩ = some (v1) := HA0.out.cell 1
  have b1 : Y0.cell? ⟨w.heap.size + 1, 1, none⟩ = some (u1) := HA1.out.cell 1
  have a2 : Y0.cell? ⟨w.heap.size, 2, none⟩ = some (.bool x2) := HA0.out.cell 2
  have b2 : Y0.cell? ⟨w.heap.size + 1, 2, none⟩ = some (.bool x2) := HA1.out.cell 2
  go_wp2_with fail
  refine (C_eqStringS_same.out _ _ r1 l1 _ (layStringS.below H1.out HBY.out) (layStringS.below K1.out HBY.out)).mono ?_
  rintro e Y1 ⟨rfl, hb⟩
  replace HA0 := Lib.hid (HA0.out.next hb)
  replace HA1 := Lib.hid (HA1.out.next hb)
  replace HBY := Lib.hid (HBY.out.trans (hb.mono HBY.out.size))
  clear hb a0 b0 a1 b1 a2 b2
  have a0 : Y1.cell? ⟨w.heap.size, 0, none⟩ = some (.int .i64 x0) := HA0.out.cell 0
  have b0 : Y1.cell? ⟨w.heap.size + 1, 0, none⟩ = some (.int .i64 x0) := HA1.out.cell 0
  have a1 : Y1.cell? ⟨w.heap.size, 1, none⟩ = some (v1) := HA0.out.cell 1
  have b1 : Y1.cell? ⟨w.heap.size + 1, 1, none⟩ = some (u1) := HA1.out.cell 1
  have a2 : Y1.cell? ⟨w.heap.size, 2, none⟩ = some (.bool x2) := HA0.out.cell 2
  have b2 : Y1.cell? ⟨w.heap.size + 1, 2, none⟩ = some (.bool x2) := HA1.out.cell 2
  go_wp2_with fail
  go_ret
  exact ⟨rfl, HBY.out⟩

def FitsOptions (r1 : List ByteArray) : Prop := FitsString r1
set_option maxRecDepth 100000 in
set_option maxHeartbeats 1600000 in
theorem szOptions_any (x0 : Int) (v1 : Value) (r1 : List ByteArray) (x2 : Bool) (left : Int) (hk0 : 0 ≤ left) (hk1 : left ≤ 1048576) (m1 : RoomString r1) (w : World) (h1 : layStringS.rd w [v1] r1) :
    Calls Tryd.prog 4 #[.agg #[.int .i64 x0, v1, .bool x2], .int .i64 left] w fun e w' => SzEnd (FitsOptions r1) left e ∧ Below w.heap.size w w' := by
  obtain ⟨a1, p1, rfl⟩ := rows_form h1
  have H1 := Lib.hid (layStringS.below h1 ((Below.refl _ _).alloc (Nat.le_refl _) (.cells #[.int .i64 x0, .slice a1 r1.length p1, .bool x2] 24)))
  have M1 := Lib.hid m1
  have A0 := Lib.hid (VarA.new w 24 #[.int .i64 x0, .slice a1 r1.length p1, .bool x2])
  have BY := Lib.hid ((Below.refl w.heap.size w).alloc (Nat.le_refl _) (.cells #[.int .i64 x0, .slice a1 r1.length p1, .bool x2] 24))
  clear h1 m1
  go_enter Tryd.func4, Tryd.ntmps4
  go_upto_region 1 with fail
  generalize w.alloc (.cells #[.int .i64 x0, .slice a1 r1.length p1, .bool x2] 24) = Y0 at *
  have c1 : Y0.cell? ⟨w.heap.size, 1, none⟩ = some (.slice a1 r1.length p1) := A0.out.cell 1
  have K1 := Lib.hid (szStringS_any (.slice a1 r1.length p1) r1 left (by omega) (by omega) M1.out Y0 H1.out)
  go_wp2_with fail
  refine (K1.out).mono ?_
  rintro e Y1 ⟨⟨t1, rfl, rfl | ⟨u1, w1, F1⟩⟩, hb⟩
  · replace BY := Lib.hid (BY.out.trans (hb.mono BY.out.size))
    clear hb
    go_wp2_with fail
    go_ret
    exact ⟨⟨_, rfl, .inl rfl⟩, BY.out⟩
  replace F1 := Lib.hid F1
  replace A0 := Lib.hid (A0.out.next hb)
  replace BY := Lib.hid (BY.out.trans (hb.mono BY.out.size))
  have g1 : ¬ (t1 < 0) := by omega
  clear hb c1 K1
  go_wp2_with fail
  go_ret
  exact ⟨⟨_, rfl, .inr ⟨by omega, by omega, F1.out⟩⟩, BY.out⟩

end Go.Proofs.YtmgdhlodifkemasDoor
namespace Go.Proofs.YtmgdhlodifkemasDoor
open Go.RowKit

theorem inRange_yes (x a b : Int) (h0 : a ≤ x) (h1 : x ≤ b) (w : World) :
    Calls Tryd.prog 19 #[.int .i64 x, .int .i64 a, .int .i64 b] w fun e w' => e = .returned (.bool true) ∧ w' = w := by
  go_enter Tryd.func19, Tryd.ntmps19
  go_wp2
  go_ret
  exact ⟨rfl, rfl⟩

theorem inRange_no (x a b : Int) (h : x < a ∨ b < x) (w : World) :
    Calls Tryd.prog 19 #[.int .i64 x, .int .i64 a, .int .i64 b] w fun e w' => e = .returned (.bool false) ∧ w' = w := by
  by_cases hx : x < a
  · go_enter Tryd.func19, Tryd.ntmps19
    go_wp2
    go_ret
    exact ⟨rfl, rfl⟩
  · have h0 : a ≤ x := by omega
    have h1 : decide (x ≤ b) = false := decide_eq_false (by omega)
    clear h hx
    go_enter Tryd.func19, Tryd.ntmps19
    go_wp2
    go_ret
    exact ⟨rfl, rfl⟩

end Go.Proofs.YtmgdhlodifkemasDoor
