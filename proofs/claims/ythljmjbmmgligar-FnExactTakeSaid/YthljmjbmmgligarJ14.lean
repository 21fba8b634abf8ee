/-
  Chan as it lies; the laws' own functions over it and over rows of it.
-/
import Derived.Test.YthljmjbmmgligarJ05
import Derived.Test.YthljmjbmmgligarRows
import Derived.Test.YthljmjbmmgligarJ07
import Derived.Test.YthljmjbmmgligarJ08
import Derived.Test.YthljmjbmmgligarJ09
import Derived.Test.YthljmjbmmgligarJ13
import Derived.Deep.RegionHeld3
import Derived.BigQuiet
import Derived.Deep.QuietTactic
import Derived.Deep.DeepCutAuto
namespace Go.Proofs.Ythljmjbmmgligar
open Go.RowKit

abbrev ChanD := Int × Int × Int × (List ByteArray) × (List PendingD) × Int × (List EarlyD) × (List Int) × (List ByteArray)
abbrev ChanT : TypeId := 27
def layChan : Lay ChanD := Lay.pair Lay.int (Lay.pair Lay.int (Lay.pair Lay.int (Lay.pair layStringS (Lay.pair layPendingS (Lay.pair Lay.int (Lay.pair layEarlyS (Lay.pair layIntS layStringS)))))))
def layChanS : Lay (List ChanD) := .rows ChanT layChan

theorem layChan_rd {w : World} {cs : List Value} {x : ChanD} : layChan.rd w cs x ↔ ∃ v3 v4 v6 v7 v8, cs = [.int .i64 x.1, .int .i64 x.2.1, .int .i64 x.2.2.1, v3, v4, .int .i64 x.2.2.2.2.2.1, v6, v7, v8] ∧ layStringS.rd w [v3] x.2.2.2.1 ∧ layPendingS.rd w [v4] x.2.2.2.2.1 ∧ layEarlyS.rd w [v6] x.2.2.2.2.2.2.1 ∧ layIntS.rd w [v7] x.2.2.2.2.2.2.2.1 ∧ layStringS.rd w [v8] x.2.2.2.2.2.2.2.2 := by
  constructor
  · rintro ⟨c100, d100, rfl, rfl, ⟨c101, d101, rfl, rfl, ⟨c102, d102, rfl, rfl, ⟨c104, d104, rfl, ⟨v103, rfl, h103⟩, ⟨c106, d106, rfl, ⟨v105, rfl, h105⟩, ⟨c107, d107, rfl, rfl, ⟨c109, d109, rfl, ⟨v108, rfl, h108⟩, ⟨c111, d111, rfl, ⟨v110, rfl, h110⟩, ⟨v112, rfl, h112⟩⟩⟩⟩⟩⟩⟩⟩⟩
    exact ⟨v103, v105, v108, v110, v112, rfl, ⟨v103, rfl, h103⟩, ⟨v105, rfl, h105⟩, ⟨v108, rfl, h108⟩, ⟨v110, rfl, h110⟩, ⟨v112, rfl, h112⟩⟩
  · rintro ⟨v3, v4, v6, v7, v8, rfl, H3, H4, H6, H7, H8⟩
    exact ⟨[_], [_, _, _, _, _, _, _, _], rfl, rfl, ⟨[_], [_, _, _, _, _, _, _], rfl, rfl, ⟨[_], [_, _, _, _, _, _], rfl, rfl, ⟨[_], [_, _, _, _, _], rfl, H3, ⟨[_], [_, _, _, _], rfl, H4, ⟨[_], [_, _, _], rfl, rfl, ⟨[_], [_, _], rfl, H6, ⟨[_], [_], rfl, H7, H8⟩⟩⟩⟩⟩⟩⟩⟩

theorem layChan_own {w : World} {b : Nat} {f : List Nat} {cs : List Value} {x : ChanD} : layChan.own w b f cs x ↔ ∃ v3 v4 v6 v7 v8 f3 f4 f6 f7 f8, cs = [.int .i64 x.1, .int .i64 x.2.1, .int .i64 x.2.2.1, v3, v4, .int .i64 x.2.2.2.2.2.1, v6, v7, v8] ∧ f = f3 ++ (f4 ++ (f6 ++ (f7 ++ f8))) ∧ layStringS.own w b f3 [v3] x.2.2.2.1 ∧ layPendingS.own w b f4 [v4] x.2.2.2.2.1 ∧ layEarlyS.own w b f6 [v6] x.2.2.2.2.2.2.1 ∧ layIntS.own w b f7 [v7] x.2.2.2.2.2.2.2.1 ∧ layStringS.own w b f8 [v8] x.2.2.2.2.2.2.2.2 := by
  constructor
  · rintro ⟨f100, g100, c100, d100, rfl, rfl, ⟨rfl, rfl⟩, ⟨f101, g101, c101, d101, rfl, rfl, ⟨rfl, rfl⟩, ⟨f102, g102, c102, d102, rfl, rfl, ⟨rfl, rfl⟩, ⟨f104, g104, c104, d104, rfl, rfl, ⟨v103, rfl, h103⟩, ⟨f106, g106, c106, d106, rfl, rfl, ⟨v105, rfl, h105⟩, ⟨f107, g107, c107, d107, rfl, rfl, ⟨rfl, rfl⟩, ⟨f109, g109, c109, d109, rfl, rfl, ⟨v108, rfl, h108⟩, ⟨f111, g111, c111, d111, rfl, rfl, ⟨v110, rfl, h110⟩, ⟨v112, rfl, h112⟩⟩⟩⟩⟩⟩⟩⟩⟩
    exact ⟨v103, v105, v108, v110, v112, _, _, _, _, _, rfl, by simp, ⟨v103, rfl, h103⟩, ⟨v105, rfl, h105⟩, ⟨v108, rfl, h108⟩, ⟨v110, rfl, h110⟩, ⟨v112, rfl, h112⟩⟩
  · rintro ⟨v3, v4, v6, v7, v8, f3, f4, f6, f7, f8, rfl, hf, H3, H4, H6, H7, H8⟩
    have hf2 : f = ([] ++ ([] ++ ([] ++ (f3 ++ (f4 ++ ([] ++ (f6 ++ (f7 ++ f8)))))))) := by simp [hf]
    rw [hf2]
    exact ⟨[], ([] ++ ([] ++ (f3 ++ (f4 ++ ([] ++ (f6 ++ (f7 ++ f8))))))), [_], [_, _, _, _, _, _, _, _], rfl, rfl, ⟨rfl, rfl⟩, ⟨[], ([] ++ (f3 ++ (f4 ++ ([] ++ (f6 ++ (f7 ++ f8)))))), [_], [_, _, _, _, _, _, _], rfl, rfl, ⟨rfl, rfl⟩, ⟨[], (f3 ++ (f4 ++ ([] ++ (f6 ++ (f7 ++ f8))))), [_], [_, _, _, _, _, _], rfl, rfl, ⟨rfl, rfl⟩, ⟨f3, (f4 ++ ([] ++ (f6 ++ (f7 ++ f8)))), [_], [_, _, _, _, _], rfl, rfl, H3, ⟨f4, ([] ++ (f6 ++ (f7 ++ f8))), [_], [_, _, _, _], rfl, rfl, H4, ⟨[], (f6 ++ (f7 ++ f8)), [_], [_, _, _], rfl, rfl, ⟨rfl, rfl⟩, ⟨f6, (f7 ++ f8), [_], [_, _], rfl, rfl, H6, ⟨f7, f8, [_], [_], rfl, rfl, H7, H8⟩⟩⟩⟩⟩⟩⟩⟩

set_option maxRecDepth 100000 in
set_option maxHeartbeats 1600000 in
theorem toChan_any (x0 : Int) (x1 : Int) (x2 : Int) (v3 : Value) (r3 : List ByteArray) (v4 : Value) (r4 : List PendingD) (x5 : Int) (v6 : Value) (r6 : List EarlyD) (v7 : Value) (r7 : List Int) (v8 : Value) (r8 : List ByteArray) (w : World) (h3 : layStringS.rd w [v3] r3) (l3 : r3.length ≤ 1048576) (h4 : layPendingS.rd w [v4] r4) (l4 : r4.length ≤ 1048576) (h6 : layEarlyS.rd w [v6] r6) (l6 : r6.length ≤ 1048576) (h7 : layIntS.rd w [v7] r7) (l7 : r7.length ≤ 1048576) (h8 : layStringS.rd w [v8] r8) (l8 : r8.length ≤ 1048576) :
    Calls Try.prog 15 #[.agg #[.int .i64 x0, .int .i64 x1, .int .i64 x2, v3, v4, .int .i64 x5, v6, v7, v8]] w fun e w' => OutT layChan w (x0, x1, x2, r3, r4, x5, r6, r7, r8) e w' := by
  obtain ⟨a3, p3, rfl⟩ := rows_form h3
  obtain ⟨a4, p4, rfl⟩ := rows_form h4
  obtain ⟨a6, p6, rfl⟩ := rows_form h6
  obtain ⟨a7, p7, rfl⟩ := rows_form h7
  obtain ⟨a8, p8, rfl⟩ := rows_form h8
  have C_toStringS_any := Lib.hid toStringS_any
  have C_toPendingS_any := Lib.hid toPendingS_any
  have C_toEarlyS_any := Lib.hid toEarlyS_any
  have C_toIntS_any := Lib.hid toIntS_any
  have H3 := Lib.hid h3
  have H4 := Lib.hid h4
  have H6 := Lib.hid h6
  have H7 := Lib.hid h7
  have H8 := Lib.hid h8
  clear h3 h4 h6 h7 h8
  have A0 := ((VarA.new w 36 #[.int .i64 x0, .int .i64 x1, .int .i64 x2, .slice a3 r3.length p3, .slice a4 r4.length p4, .int .i64 x5, .slice a6 r6.length p6, .slice a7 r7.length p7, .slice a8 r8.length p8]).alloc (.cells #[.int .i64 0, .int .i64 0, .int .i64 0, .slice none 0 0, .slice none 0 0, .int .i64 0, .slice none 0 0, .slice none 0 0, .slice none 0 0] ChanT)).alloc (.cells #[.int .i64 0, .int .i64 0, .int .i64 0, .slice none 0 0, .slice none 0 0, .int .i64 0, .slice none 0 0, .slice none 0 0, .slice none 0 0] ChanT)
  have A1 := (VarA.new (w.alloc (.cells #[.int .i64 x0, .int .i64 x1, .int .i64 x2, .slice a3 r3.length p3, .slice a4 r4.length p4, .int .i64 x5, .slice a6 r6.length p6, .slice a7 r7.length p7, .slice a8 r8.length p8] 36)) ChanT #[.int .i64 0, .int .i64 0, .int .i64 0, .slice none 0 0, .slice none 0 0, .int .i64 0, .slice none 0 0, .slice none 0 0, .slice none 0 0]).alloc (.cells #[.int .i64 0, .int .i64 0, .int .i64 0, .slice none 0 0, .slice none 0 0, .int .i64 0, .slice none 0 0, .slice none 0 0, .slice none 0 0] ChanT)
  have A2 := VarA.new ((w.alloc (.cells #[.int .i64 x0, .int .i64 x1, .int .i64 x2, .slice a3 r3.length p3, .slice a4 r4.length p4, .int .i64 x5, .slice a6 r6.length p6, .slice a7 r7.length p7, .slice a8 r8.length p8] 36)).alloc (.cells #[.int .i64 0, .int .i64 0, .int .i64 0, .slice none 0 0, .slice none 0 0, .int .i64 0, .slice none 0 0, .slice none 0 0, .slice none 0 0] ChanT)) ChanT #[.int .i64 0, .int .i64 0, .int .i64 0, .slice none 0 0, .slice none 0 0, .int .i64 0, .slice none 0 0, .slice none 0 0, .slice none 0 0]
  have BY := ((((Below.refl w.heap.size w).alloc (Nat.le_refl _) (.cells #[.int .i64 x0, .int .i64 x1, .int .i64 x2, .slice a3 r3.length p3, .slice a4 r4.length p4, .int .i64 x5, .slice a6 r6.length p6, .slice a7 r7.length p7, .slice a8 r8.length p8] 36)).alloc (by simp) (.cells #[.int .i64 0, .int .i64 0, .int .i64 0, .slice none 0 0, .slice none 0 0, .int .i64 0, .slice none 0 0, .slice none 0 0, .slice none 0 0] ChanT)).alloc (by simp; omega) (.cells #[.int .i64 0, .int .i64 0, .int .i64 0, .slice none 0 0, .slice none 0 0, .int .i64 0, .slice none 0 0, .slice none 0 0, .slice none 0 0] ChanT))
  have e1 : (w.alloc (.cells #[.int .i64 x0, .int .i64 x1, .int .i64 x2, .slice a3 r3.length p3, .slice a4 r4.length p4, .int .i64 x5, .slice a6 r6.length p6, .slice a7 r7.length p7, .slice a8 r8.length p8] 36)).heap.size = w.heap.size + 1 := by simp
  have e2 : ((w.alloc (.cells #[.int .i64 x0, .int .i64 x1, .int .i64 x2, .slice a3 r3.length p3, .slice a4 r4.length p4, .int .i64 x5, .slice a6 r6.length p6, .slice a7 r7.length p7, .slice a8 r8.length p8] 36)).alloc (.cells #[.int .i64 0, .int .i64 0, .int .i64 0, .slice none 0 0, .slice none 0 0, .int .i64 0, .slice none 0 0, .slice none 0 0, .slice none 0 0] ChanT)).heap.size = w.heap.size + 1 + 1 := by simp
  rw [e1] at A1
  rw [e2] at A2
  clear e1 e2
  have HA0 := Lib.hid A0
  have HA1 := Lib.hid A1
  have HA2 := Lib.hid A2
  have HBY := Lib.hid BY
  clear A0 A1 A2 BY
  go_enter Try.func15, Try.ntmps15
  go_upto_region 2 with fail
  generalize ((w.alloc (.cells #[.int .i64 x0, .int .i64 x1, .int .i64 x2, .slice a3 r3.length p3, .slice a4 r4.length p4, .int .i64 x5, .slice a6 r6.length p6, .slice a7 r7.length p7, .slice a8 r8.length p8] 36)).alloc (.cells #[.int .i64 0, .int .i64 0, .int .i64 0, .slice none 0 0, .slice none 0 0, .int .i64 0, .slice none 0 0, .slice none 0 0, .slice none 0 0] ChanT)).alloc (.cells #[.int .i64 0, .int .i64 0, .int .i64 0, .slice none 0 0, .slice none 0 0, .int .i64 0, .slice none 0 0, .slice none 0 0, .slice none 0 0] ChanT) = Y0 at *
  have c0 : Y0.cell? ⟨w.heap.size, 0, none⟩ = some (.int .i64 x0) := HA0.out.cell 0
  have q0 : Y0.cell? ⟨w.heap.size + 1 + 1, 0, none⟩ = some (.int .i64 0) := HA2.out.cell 0
  have f_0 : Y0.frozen? ⟨w.heap.size + 1 + 1, 0, none⟩ = false := HA2.out.free 0
  replace HA0 : Hid (VarA w.heap.size 36 #[.int .i64 x0, .int .i64 x1, .int .i64 x2, .slice a3 r3.length p3, .slice a4 r4.length p4, .int .i64 x5, .slice a6 r6.length p6, .slice a7 r7.length p7, .slice a8 r8.length p8] (Y0.setCell ⟨w.heap.size + 1 + 1, 0, none⟩ (.int .i64 x0))) := HA0.out.off 0 (.int .i64 x0) (by omega)
  replace HA1 : Hid (VarA (w.heap.size + 1) ChanT #[.int .i64 0, .int .i64 0, .int .i64 0, .slice none 0 0, .slice none 0 0, .int .i64 0, .slice none 0 0, .slice none 0 0, .slice none 0 0] (Y0.setCell ⟨w.heap.size + 1 + 1, 0, none⟩ (.int .i64 x0))) := HA1.out.off 0 (.int .i64 x0) (by omega)
  replace HA2 : Hid (VarA (w.heap.size + 1 + 1) ChanT #[.int .i64 x0, .int .i64 0, .int .i64 0, .slice none 0 0, .slice none 0 0, .int .i64 0, .slice none 0 0, .slice none 0 0, .slice none 0 0] (Y0.setCell ⟨w.heap.size + 1 + 1, 0, none⟩ (.int .i64 x0))) := HA2.out.set 0 (.int .i64 x0)
  replace HBY : Hid (Below w.heap.size w (Y0.setCell ⟨w.heap.size + 1 + 1, 0, none⟩ (.int .i64 x0))) := HBY.out.trans ((Only.setCell (c := w.heap.size + 1 + 1) (w := Y0) 0 (.int .i64 x0)).below (B := w.heap.size) (by omega) HBY.out.size)
  go_upto_region 3 with fail
  generalize (Y0.setCell ⟨w.heap.size + 1 + 1, 0, none⟩ (.int .i64 x0)) = Y1 at *
  clear c0 q0 f_0
  have c1 : Y1.cell? ⟨w.heap.size, 1, none⟩ = some (.int .i64 x1) := HA0.out.cell 1
  have q1 : Y1.cell? ⟨w.heap.size + 1 + 1, 1, none⟩ = some (.int .i64 0) := HA2.out.cell 1
  have f_1 : Y1.frozen? ⟨w.heap.size + 1 + 1, 1, none⟩ = false := HA2.out.free 1
  replace HA0 : Hid (VarA w.heap.size 36 #[.int .i64 x0, .int .i64 x1, .int .i64 x2, .slice a3 r3.length p3, .slice a4 r4.length p4, .int .i64 x5, .slice a6 r6.length p6, .slice a7 r7.length p7, .slice a8 r8.length p8] (Y1.setCell ⟨w.heap.size + 1 + 1, 1, none⟩ (.int .i64 x1))) := HA0.out.off 1 (.int .i64 x1) (by omega)
  replace HA1 : Hid (VarA (w.heap.size + 1) ChanT #[.int .i64 0, .int .i64 0, .int .i64 0, .slice none 0 0, .slice none 0 0, .int .i64 0, .slice none 0 0, .slice none 0 0, .slice none 0 0] (Y1.setCell ⟨w.heap.size + 1 + 1, 1, none⟩ (.int .i64 x1))) := HA1.out.off 1 (.int .i64 x1) (by omega)
  replace HA2 : Hid (VarA (w.heap.size + 1 + 1) ChanT #[.int .i64 x0, .int .i64 x1, .int .i64 0, .slice none 0 0, .slice none 0 0, .int .i64 0, .slice none 0 0, .slice none 0 0, .slice none 0 0] (Y1.setCell ⟨w.heap.size + 1 + 1, 1, none⟩ (.int .i64 x1))) := HA2.out.set 1 (.int .i64 x1)
  replace HBY : Hid (Below w.heap.size w (Y1.setCell ⟨w.heap.size + 1 + 1, 1, none⟩ (.int .i64 x1))) := HBY.out.trans ((Only.setCell (c := w.heap.size + 1 + 1) (w := Y1) 1 (.int .i64 x1)).below (B := w.heap.size) (by omega) HBY.out.size)
  go_upto_region 4 with fail
  generalize (Y1.setCell ⟨w.heap.size + 1 + 1, 1, none⟩ (.int .i64 x1)) = Y2 at *
  clear c1 q1 f_1
  have c2 : Y2.cell? ⟨w.heap.size, 2, none⟩ = some (.int .i64 x2) := HA0.out.cell 2
  have q2 : Y2.cell? ⟨w.heap.size + 1 + 1, 2, none⟩ = some (.int .i64 0) := HA2.out.cell 2
  have f_2 : Y2.frozen? ⟨w.heap.size + 1 + 1, 2, none⟩ = false := HA2.out.free 2
  replace HA0 : Hid (VarA w.heap.size 36 #[.int .i64 x0, .int .i64 x1, .int .i64 x2, .slice a3 r3.length p3, .slice a4 r4.length p4, .int .i64 x5, .slice a6 r6.length p6, .slice a7 r7.length p7, .slice a8 r8.length p8] (Y2.setCell ⟨w.heap.size + 1 + 1, 2, none⟩ (.int .i64 x2))) := HA0.out.off 2 (.int .i64 x2) (by omega)
  replace HA1 : Hid (VarA (w.heap.size + 1) ChanT #[.int .i64 0, .int .i64 0, .int .i64 0, .slice none 0 0, .slice none 0 0, .int .i64 0, .slice none 0 0, .slice none 0 0, .slice none 0 0] (Y2.setCell ⟨w.heap.size + 1 + 1, 2, none⟩ (.int .i64 x2))) := HA1.out.off 2 (.int .i64 x2) (by omega)
  replace HA2 : Hid (VarA (w.heap.size + 1 + 1) ChanT #[.int .i64 x0, .int .i64 x1, .int .i64 x2, .slice none 0 0, .slice none 0 0, .int .i64 0, .slice none 0 0, .slice none 0 0, .slice none 0 0] (Y2.setCell ⟨w.heap.size + 1 + 1, 2, none⟩ (.int .i64 x2))) := HA2.out.set 2 (.int .i64 x2)
  replace HBY : Hid (Below w.heap.size w (Y2.setCell ⟨w.heap.size + 1 + 1, 2, none⟩ (.int .i64 x2))) := HBY.out.trans ((Only.setCell (c := w.heap.size + 1 + 1) (w := Y2) 2 (.int .i64 x2)).below (B := w.heap.size) (by omega) HBY.out.size)
  go_upto_region 5 with fail
  generalize (Y2.setCell ⟨w.heap.size + 1 + 1, 2, none⟩ (.int .i64 x2)) = Y3 at *
  clear c2 q2 f_2
  have c3 : Y3.cell? ⟨w.heap.size, 3, none⟩ = some (.slice a3 r3.length p3) := HA0.out.cell 3
  go_wp2_with fail
  refine (C_toStringS_any.out _ _ l3 _ (layStringS.below H3.out HBY.out)).mono ?_
  rintro e Y4 ⟨n3, f3, rfl, nd3, hown, hb⟩
  obtain ⟨ao3, cp3, rfl⟩ := rows_form (layStringS.read hown)
  have LB3 : Hid (∀ a ∈ f3, w.heap.size + 1 + 1 < a) := fun a ha => Nat.lt_of_lt_of_le HA2.out.lt (layStringS.blocks hown a ha).1
  have O3 := Lib.hid (layStringS.lower hown HBY.out.size)
  replace HA0 := Lib.hid (HA0.out.next hb)
  replace HA1 := Lib.hid (HA1.out.next hb)
  replace HA2 := Lib.hid (HA2.out.next hb)
  replace HBY := Lib.hid (HBY.out.trans (hb.mono HBY.out.size))
  clear hb hown
  have q3 : Y4.cell? ⟨w.heap.size + 1 + 1, 3, none⟩ = some (.slice none 0 0) := HA2.out.cell 3
  have f_3 : Y4.frozen? ⟨w.heap.size + 1 + 1, 3, none⟩ = false := HA2.out.free 3
  replace HA0 : Hid (VarA w.heap.size 36 #[.int .i64 x0, .int .i64 x1, .int .i64 x2, .slice a3 r3.length p3, .slice a4 r4.length p4, .int .i64 x5, .slice a6 r6.length p6, .slice a7 r7.length p7, .slice a8 r8.length p8] (Y4.setCell ⟨w.heap.size + 1 + 1, 3, none⟩ (.slice ao3 r3.length cp3))) := HA0.out.off 3 (.slice ao3 r3.length cp3) (by omega)
  replace HA1 : Hid (VarA (w.heap.size + 1) ChanT #[.int .i64 0, .int .i64 0, .int .i64 0, .slice none 0 0, .slice none 0 0, .int .i64 0, .slice none 0 0, .slice none 0 0, .slice none 0 0] (Y4.setCell ⟨w.heap.size + 1 + 1, 3, none⟩ (.slice ao3 r3.length cp3))) := HA1.out.off 3 (.slice ao3 r3.length cp3) (by omega)
  replace HA2 : Hid (VarA (w.heap.size + 1 + 1) ChanT #[.int .i64 x0, .int .i64 x1, .int .i64 x2, .slice ao3 r3.length cp3, .slice none 0 0, .int .i64 0, .slice none 0 0, .slice none 0 0, .slice none 0 0] (Y4.setCell ⟨w.heap.size + 1 + 1, 3, none⟩ (.slice ao3 r3.length cp3))) := HA2.out.set 3 (.slice ao3 r3.length cp3)
  replace HBY : Hid (Below w.heap.size w (Y4.setCell ⟨w.heap.size + 1 + 1, 3, none⟩ (.slice ao3 r3.length cp3))) := HBY.out.trans ((Only.setCell (c := w.heap.size + 1 + 1) (w := Y4) 3 (.slice ao3 r3.length cp3)).below (B := w.heap.size) (by omega) HBY.out.size)
  replace O3 : Hid (layStringS.own (Y4.setCell ⟨w.heap.size + 1 + 1, 3, none⟩ (.slice ao3 r3.length cp3)) w.heap.size f3 [.slice ao3 r3.length cp3] r3) := layStringS.chg O3.out (Chg.cell _ _ _ _) (fun a ha => by have := LB3.out a ha; simp; omega)
  go_upto_region 6 with fail
  generalize (Y4.setCell ⟨w.heap.size + 1 + 1, 3, none⟩ (.slice ao3 r3.length cp3)) = Y5 at *
  clear c3 q3 f_3
  have c4 : Y5.cell? ⟨w.heap.size, 4, none⟩ = some (.slice a4 r4.length p4) := HA0.out.cell 4
  go_wp2_with fail
  refine (C_toPendingS_any.out _ _ l4 _ (layPendingS.below H4.out HBY.out)).mono ?_
  rintro e Y6 ⟨n4, f4, rfl, nd4, hown, hb⟩
  obtain ⟨ao4, cp4, rfl⟩ := rows_form (layPendingS.read hown)
  have LT3_4 : Hid (∀ a ∈ f3, ∀ b ∈ f4, a < b) := fun a ha b hb' => Nat.lt_of_lt_of_le (layStringS.blocks O3.out a ha).2 (layPendingS.blocks hown b hb').1
  have LB4 : Hid (∀ a ∈ f4, w.heap.size + 1 + 1 < a) := fun a ha => Nat.lt_of_lt_of_le HA2.out.lt (layPendingS.blocks hown a ha).1
  have O4 := Lib.hid (layPendingS.lower hown HBY.out.size)
  replace O3 := Lib.hid (layStringS.next O3.out hb)
  replace HA0 := Lib.hid (HA0.out.next hb)
  replace HA1 := Lib.hid (HA1.out.next hb)
  replace HA2 := Lib.hid (HA2.out.next hb)
  replace HBY := Lib.hid (HBY.out.trans (hb.mono HBY.out.size))
  clear hb hown
  have q4 : Y6.cell? ⟨w.heap.size + 1 + 1, 4, none⟩ = some (.slice none 0 0) := HA2.out.cell 4
  have f_4 : Y6.frozen? ⟨w.heap.size + 1 + 1, 4, none⟩ = false := HA2.out.free 4
  replace HA0 : Hid (VarA w.heap.size 36 #[.int .i64 x0, .int .i64 x1, .int .i64 x2, .slice a3 r3.length p3, .slice a4 r4.length p4, .int .i64 x5, .slice a6 r6.length p6, .slice a7 r7.length p7, .slice a8 r8.length p8] (Y6.setCell ⟨w.heap.size + 1 + 1, 4, none⟩ (.slice ao4 r4.length cp4))) := HA0.out.off 4 (.slice ao4 r4.length cp4) (by omega)
  replace HA1 : Hid (VarA (w.heap.size + 1) ChanT #[.int .i64 0, .int .i64 0, .int .i64 0, .slice none 0 0, .slice none 0 0, .int .i64 0, .slice none 0 0, .slice none 0 0, .slice none 0 0] (Y6.setCell ⟨w.heap.size + 1 + 1, 4, none⟩ (.slice ao4 r4.length cp4))) := HA1.out.off 4 (.slice ao4 r4.length cp4) (by omega)
  replace HA2 : Hid (VarA (w.heap.size + 1 + 1) ChanT #[.int .i64 x0, .int .i64 x1, .int .i64 x2, .slice ao3 r3.length cp3, .slice ao4 r4.length cp4, .int .i64 0, .slice none 0 0, .slice none 0 0, .slice none 0 0] (Y6.setCell ⟨w.heap.size + 1 + 1, 4, none⟩ (.slice ao4 r4.length cp4))) := HA2.out.set 4 (.slice ao4 r4.length cp4)
  replace HBY : Hid (Below w.heap.size w (Y6.setCell ⟨w.heap.size + 1 + 1, 4, none⟩ (.slice ao4 r4.length cp4))) := HBY.out.trans ((Only.setCell (c := w.heap.size + 1 + 1) (w := Y6) 4 (.slice ao4 r4.length cp4)).below (B := w.heap.size) (by omega) HBY.out.size)
  replace O3 : Hid (layStringS.own (Y6.setCell ⟨w.heap.size + 1 + 1, 4, none⟩ (.slice ao4 r4.length cp4)) w.heap.size f3 [.slice ao3 r3.length cp3] r3) := layStringS.chg O3.out (Chg.cell _ _ _ _) (fun a ha => by have := LB3.out a ha; simp; omega)
  replace O4 : Hid (layPendingS.own (Y6.setCell ⟨w.heap.size + 1 + 1, 4, none⟩ (.slice ao4 r4.length cp4)) w.heap.size f4 [.slice ao4 r4.length cp4] r4) := layPendingS.chg O4.out (Chg.cell _ _ _ _) (fun a ha => by have := LB4.out a ha; simp; omega)
  go_upto_region 7 with fail
  generalize (Y6.setCell ⟨w.heap.size + 1 + 1, 4, none⟩ (.slice ao4 r4.length cp4)) = Y7 at *
  clear c4 q4 f_4
  have c5 : Y7.cell? ⟨w.heap.size, 5, none⟩ = some (.int .i64 x5) := HA0.out.cell 5
  have q5 : Y7.cell? ⟨w.heap.size + 1 + 1, 5, none⟩ = some (.int .i64 0) := HA2.out.cell 5
  have f_5 : Y7.frozen? ⟨w.heap.size + 1 + 1, 5, none⟩ = false := HA2.out.free 5
  replace HA0 : Hid (VarA w.heap.size 36 #[.int .i64 x0, .int .i64 x1, .int .i64 x2, .slice a3 r3.length p3, .slice a4 r4.length p4, .int .i64 x5, .slice a6 r6.length p6, .slice a7 r7.length p7, .slice a8 r8.length p8] (Y7.setCell ⟨w.heap.size + 1 + 1, 5, none⟩ (.int .i64 x5))) := HA0.out.off 5 (.int .i64 x5) (by omega)
  replace HA1 : Hid (VarA (w.heap.size + 1) ChanT #[.int .i64 0, .int .i64 0, .int .i64 0, .slice none 0 0, .slice none 0 0, .int .i64 0, .slice none 0 0, .slice none 0 0, .slice none 0 0] (Y7.setCell ⟨w.heap.size + 1 + 1, 5, none⟩ (.int .i64 x5))) := HA1.out.off 5 (.int .i64 x5) (by omega)
  replace HA2 : Hid (VarA (w.heap.size + 1 + 1) ChanT #[.int .i64 x0, .int .i64 x1, .int .i64 x2, .slice ao3 r3.length cp3, .slice ao4 r4.length cp4, .int .i64 x5, .slice none 0 0, .slice none 0 0, .slice none 0 0] (Y7.setCell ⟨w.heap.size + 1 + 1, 5, none⟩ (.int .i64 x5))) := HA2.out.set 5 (.int .i64 x5)
  replace HBY : Hid (Below w.heap.size w (Y7.setCell ⟨w.heap.size + 1 + 1, 5, none⟩ (.int .i64 x5))) := HBY.out.trans ((Only.setCell (c := w.heap.size + 1 + 1) (w := Y7) 5 (.int .i64 x5)).below (B := w.heap.size) (by omega) HBY.out.size)
  replace O3 : Hid (layStringS.own (Y7.setCell ⟨w.heap.size + 1 + 1, 5, none⟩ (.int .i64 x5)) w.heap.size f3 [.slice ao3 r3.length cp3] r3) := layStringS.chg O3.out (Chg.cell _ _ _ _) (fun a ha => by have := LB3.out a ha; simp; omega)
  replace O4 : Hid (layPendingS.own (Y7.setCell ⟨w.heap.size + 1 + 1, 5, none⟩ (.int .i64 x5)) w.heap.size f4 [.slice ao4 r4.length cp4] r4) := layPendingS.chg O4.out (Chg.cell _ _ _ _) (fun a ha => by have := LB4.out a ha; simp; omega)
  go_upto_region 8 with fail
  generalize (Y7.setCell ⟨w.heap.size + 1 + 1, 5, none⟩ (.int .i64 x5)) = Y8 at *
  clear c5 q5 f_5
  have c6 : Y8.cell? ⟨w.heap.size, 6, none⟩ = some (.slice a6 r6.length p6) := HA0.out.cell 6
  go_wp2_with fail
  refine (C_toEarlyS_any.out _ _ l6 _ (layEarlyS.below H6.out HBY.out)).mono ?_
  rintro e Y9 ⟨n6, f6, rfl, nd6, hown, hb⟩
  obtain ⟨ao6, cp6, rfl⟩ := rows_form (layEarlyS.read hown)
  have LT3_6 : Hid (∀ a ∈ f3, ∀ b ∈ f6, a < b) := fun a ha b hb' => Nat.lt_of_lt_of_le (layStringS.blocks O3.out a ha).2 (layEarlyS.blocks hown b hb').1
  have LT4_6 : Hid (∀ a ∈ f4, ∀ b ∈ f6, a < b) := fun a ha b hb' => Nat.lt_of_lt_of_le (layPendingS.blocks O4.out a ha).2 (layEarlyS.blocks hown b hb').1
  have LB6 : Hid (∀ a ∈ f6, w.heap.size + 1 + 1 < a) := fun a ha => Nat.lt_of_lt_of_le HA2.out.lt (layEarlyS.blocks hown a ha).1
  have O6 := Lib.hid (layEarlyS.lower hown HBY.out.size)
  replace O3 := Lib.hid (layStringS.next O3.out hb)
  replace O4 := Lib.hid (layPendingS.next O4.out hb)
  replace HA0 := Lib.hid (HA0.out.next hb)
  replace HA1 := Lib.hid (HA1.out.next hb)
  replace HA2 := Lib.hid (HA2.out.next hb)
  replace HBY := Lib.hid (HBY.out.trans (hb.mono HBY.out.size))
  clear hb hown
  have q6 : Y9.cell? ⟨w.heap.size + 1 + 1, 6, none⟩ = some (.slice none 0 0) := HA2.out.cell 6
  have f_6 : Y9.frozen? ⟨w.heap.size + 1 + 1, 6, none⟩ = false := HA2.out.free 6
  replace HA0 : Hid (VarA w.heap.size 36 #[.int .i64 x0, .int .i64 x1, .int .i64 x2, .slice a3 r3.length p3, .slice a4 r4.length p4, .int .i64 x5, .slice a6 r6.length p6, .slice a7 r7.length p7, .slice a8 r8.length p8] (Y9.setCell ⟨w.heap.size + 1 + 1, 6, none⟩ (.slice ao6 r6.length cp6))) := HA0.out.off 6 (.slice ao6 r6.length cp6) (by omega)
  replace HA1 : Hid (VarA (w.heap.size + 1) ChanT #[.int .i64 0, .int .i64 0, .int .i64 0, .slice none 0 0, .slice none 0 0, .int .i64 0, .slice none 0 0, .slice none 0 0, .slice none 0 0] (Y9.setCell ⟨w.heap.size + 1 + 1, 6, none⟩ (.slice ao6 r6.length cp6))) := HA1.out.off 6 (.slice ao6 r6.length cp6) (by omega)
  replace HA2 : Hid (VarA (w.heap.size + 1 + 1) ChanT #[.int .i64 x0, .int .i64 x1, .int .i64 x2, .slice ao3 r3.length cp3, .slice ao4 r4.length cp4, .int .i64 x5, .slice ao6 r6.length cp6, .slice none 0 0, .slice none 0 0] (Y9.setCell ⟨w.heap.size + 1 + 1, 6, none⟩ (.slice ao6 r6.length cp6))) := HA2.out.set 6 (.slice ao6 r6.length cp6)
  replace HBY : Hid (Below w.heap.size w (Y9.setCell ⟨w.heap.size + 1 + 1, 6, none⟩ (.slice ao6 r6.length cp6))) := HBY.out.trans ((Only.setCell (c := w.heap.size + 1 + 1) (w := Y9) 6 (.slice ao6 r6.length cp6)).below (B := w.heap.size) (by omega) HBY.out.size)
  replace O3 : Hid (layStringS.own (Y9.setCell ⟨w.heap.size + 1 + 1, 6, none⟩ (.slice ao6 r6.length cp6)) w.heap.size f3 [.slice ao3 r3.length cp3] r3) := layStringS.chg O3.out (Chg.cell _ _ _ _) (fun a ha => by have := LB3.out a ha; simp; omega)
  replace O4 : Hid (layPendingS.own (Y9.setCell ⟨w.heap.size + 1 + 1, 6, none⟩ (.slice ao6 r6.length cp6)) w.heap.size f4 [.slice ao4 r4.length cp4] r4) := layPendingS.chg O4.out (Chg.cell _ _ _ _) (fun a ha => by have := LB4.out a ha; simp; omega)
  replace O6 : Hid (layEarlyS.own (Y9.setCell ⟨w.heap.size + 1 + 1, 6, none⟩ (.slice ao6 r6.length cp6)) w.heap.size f6 [.slice ao6 r6.length cp6] r6) := layEarlyS.chg O6.out (Chg.cell _ _ _ _) (fun a ha => by have := LB6.out a ha; simp; omega)
  go_upto_region 9 with fail
  generalize (Y9.setCell ⟨w.heap.size + 1 + 1, 6, none⟩ (.slice ao6 r6.length cp6)) = Y10 at *
  clear c6 q6 f_6
  have c7 : Y10.cell? ⟨w.heap.size, 7, none⟩ = some (.slice a7 r7.length p7) := HA0.out.cell 7
  go_wp2_with fail
  refine (C_toIntS_any.out _ _ l7 _ (layIntS.below H7.out HBY.out)).mono ?_
  rintro e Y11 ⟨n7, f7, rfl, nd7, hown, hb⟩
  obtain ⟨ao7, cp7, rfl⟩ := rows_form (layIntS.read hown)
  have LT3_7 : Hid (∀ a ∈ f3, ∀ b ∈ f7, a < b) := fun a ha b hb' => Nat.lt_of_lt_of_le (layStringS.blocks O3.out a ha).2 (layIntS.blocks hown b hb').1
  have LT4_7 : Hid (∀ a ∈ f4, ∀ b ∈ f7, a < b) := fun a ha b hb' => Nat.lt_of_lt_of_le (layPendingS.blocks O4.out a ha).2 (layIntS.blocks hown b hb').1
  have LT6_7 : Hid (∀ a ∈ f6, ∀ b ∈ f7, a < b) := fun a ha b hb' => Nat.lt_of_lt_of_le (layEarlyS.blocks O6.out a ha).2 (layIntS.blocks hown b hb').1
  have LB7 : Hid (∀ a ∈ f7, w.heap.size + 1 + 1 < a) := fun a ha => Nat.lt_of_lt_of_le HA2.out.lt (layIntS.blocks hown a ha).1
  have O7 := Lib.hid (layIntS.lower hown HBY.out.size)
  replace O3 := Lib.hid (layStringS.next O3.out hb)
  replace O4 := Lib.hid (layPendingS.next O4.out hb)
  replace O6 := Lib.hid (layEarlyS.next O6.out hb)
  replace HA0 := Lib.hid (HA0.out.next hb)
  replace HA1 := Lib.hid (HA1.out.next hb)
  replace HA2 := Lib.hid (HA2.out.next hb)
  replace HBY := Lib.hid (HBY.out.trans (hb.mono HBY.out.size))
  clear hb hown
  have q7 : Y11.cell? ⟨w.heap.size + 1 + 1, 7, none⟩ = some (.slice none 0 0) := HA2.out.cell 7
  have f_7 : Y11.frozen? ⟨w.heap.size + 1 + 1, 7, none⟩ = false := HA2.out.free 7
  replace HA0 : Hid (VarA w.heap.size 36 #[.int .i64 x0, .int .i64 x1, .int .i64 x2, .slice a3 r3.length p3, .slice a4 r4.length p4, .int .i64 x5, .slice a6 r6.length p6, .slice a7 r7.length p7, .slice a8 r8.length p8] (Y11.setCell ⟨w.heap.size + 1 + 1, 7, none⟩ (.slice ao7 r7.length cp7))) := HA0.out.off 7 (.slice ao7 r7.length cp7) (by omega)
  replace HA1 : Hid (VarA (w.heap.size + 1) ChanT #[.int .i64 0, .int .i64 0, .int .i64 0, .slice none 0 0, .slice none 0 0, .int .i64 0, .slice none 0 0, .slice none 0 0, .slice none 0 0] (Y11.setCell ⟨w.heap.size + 1 + 1, 7, none⟩ (.slice ao7 r7.length cp7))) := HA1.out.off 7 (.slice ao7 r7.length cp7) (by omega)
  replace HA2 : Hid (VarA (w.heap.size + 1 + 1) ChanT #[.int .i64 x0, .int .i64 x1, .int .i64 x2, .slice ao3 r3.length cp3, .slice ao4 r4.length cp4, .int .i64 x5, .slice ao6 r6.length cp6, .slice ao7 r7.length cp7, .slice none 0 0] (Y11.setCell ⟨w.heap.size + 1 + 1, 7, none⟩ (.slice ao7 r7.length cp7))) := HA2.out.set 7 (.slice ao7 r7.length cp7)
  replace HBY : Hid (Below w.heap.size w (Y11.setCell ⟨w.heap.size + 1 + 1, 7, none⟩ (.slice ao7 r7.length cp7))) := HBY.out.trans ((Only.setCell (c := w.heap.size + 1 + 1) (w := Y11) 7 (.slice ao7 r7.length cp7)).below (B := w.heap.size) (by omega) HBY.out.size)
  replace O3 : Hid (layStringS.own (Y11.setCell ⟨w.heap.size + 1 + 1, 7, none⟩ (.slice ao7 r7.length cp7)) w.heap.size f3 [.slice ao3 r3.length cp3] r3) := layStringS.chg O3.out (Chg.cell _ _ _ _) (fun a ha => by have := LB3.out a ha; simp; omega)
  replace O4 : Hid (layPendingS.own (Y11.setCell ⟨w.heap.size + 1 + 1, 7, none⟩ (.slice ao7 r7.length cp7)) w.heap.size f4 [.slice ao4 r4.length cp4] r4) := layPendingS.chg O4.out (Chg.cell _ _ _ _) (fun a ha => by have := LB4.out a ha; simp; omega)
  replace O6 : Hid (layEarlyS.own (Y11.setCell ⟨w.heap.size + 1 + 1, 7, none⟩ (.slice ao7 r7.length cp7)) w.heap.size f6 [.slice ao6 r6.length cp6] r6) := layEarlyS.chg O6.out (Chg.cell _ _ _ _) (fun a ha => by have := LB6.out a ha; simp; omega)
  replace O7 : Hid (layIntS.own (Y11.setCell ⟨w.heap.size + 1 + 1, 7, none⟩ (.slice ao7 r7.length cp7)) w.heap.size f7 [.slice ao7 r7.length cp7] r7) := layIntS.chg O7.out (Chg.cell _ _ _ _) (fun a ha => by have := LB7.out a ha; simp; omega)
  go_upto_region 10 with fail
  generalize (Y11.setCell ⟨w.heap.size + 1 + 1, 7, none⟩ (.slice ao7 r7.length cp7)) = Y12 at *
  clear c7 q7 f_7
  have c8 : Y12.cell? ⟨w.heap.size, 8, none⟩ = some (.slice a8 r8.length p8) := HA0.out.cell 8
  go_wp2_with fail
  refine (C_toStringS_any.out _ _ l8 _ (layStringS.below H8.out HBY.out)).mono ?_
  rintro e Y13 ⟨n8, f8, rfl, nd8, hown, hb⟩
  obtain ⟨ao8, cp8, rfl⟩ := rows_form (layStringS.read hown)
  have LT3_8 : Hid (∀ a ∈ f3, ∀ b ∈ f8, a < b) := fun a ha b hb' => Nat.lt_of_lt_of_le (layStringS.blocks O3.out a ha).2 (layStringS.blocks hown b hb').1
  have LT4_8 : Hid (∀ a ∈ f4, ∀ b ∈ f8, a < b) := fun a ha b hb' => Nat.lt_of_lt_of_le (layPendingS.blocks O4.out a ha).2 (layStringS.blocks hown b hb').1
  have LT6_8 : Hid (∀ a ∈ f6, ∀ b ∈ f8, a < b) := fun a ha b hb' => Nat.lt_of_lt_of_le (layEarlyS.blocks O6.out a ha).2 (layStringS.blocks hown b hb').1
  have LT7_8 : Hid (∀ a ∈ f7, ∀ b ∈ f8, a < b) := fun a ha b hb' => Nat.lt_of_lt_of_le (layIntS.blocks O7.out a ha).2 (layStringS.blocks hown b hb').1
  have LB8 : Hid (∀ a ∈ f8, w.heap.size + 1 + 1 < a) := fun a ha => Nat.lt_of_lt_of_le HA2.out.lt (layStringS.blocks hown a ha).1
  have O8 := Lib.hid (layStringS.lower hown HBY.out.size)
  replace O3 := Lib.hid (layStringS.next O3.out hb)
  replace O4 := Lib.hid (layPendingS.next O4.out hb)
  replace O6 := Lib.hid (layEarlyS.next O6.out hb)
  replace O7 := Lib.hid (layIntS.next O7.out hb)
  replace HA0 := Lib.hid (HA0.out.next hb)
  replace HA1 := Lib.hid (HA1.out.next hb)
  replace HA2 := Lib.hid (HA2.out.next hb)
  replace HBY := Lib.hid (HBY.out.trans (hb.mono HBY.out.size))
  clear hb hown
  have q8 : Y13.cell? ⟨w.heap.size + 1 + 1, 8, none⟩ = some (.slice none 0 0) := HA2.out.cell 8
  have f_8 : Y13.frozen? ⟨w.heap.size + 1 + 1, 8, none⟩ = false := HA2.out.free 8
  replace HA0 : Hid (VarA w.heap.size 36 #[.int .i64 x0, .int .i64 x1, .int .i64 x2, .slice a3 r3.length p3, .slice a4 r4.length p4, .int .i64 x5, .slice a6 r6.length p6, .slice a7 r7.length p7, .slice a8 r8.length p8] (Y13.setCell ⟨w.heap.size + 1 + 1, 8, none⟩ (.slice ao8 r8.length cp8))) := HA0.out.off 8 (.slice ao8 r8.length cp8) (by omega)
  replace HA1 : Hid (VarA (w.heap.size + 1) ChanT #[.int .i64 0, .int .i64 0, .int .i64 0, .slice none 0 0, .slice none 0 0, .int .i64 0, .slice none 0 0, .slice none 0 0, .slice none 0 0] (Y13.setCell ⟨w.heap.size + 1 + 1, 8, none⟩ (.slice ao8 r8.length cp8))) := HA1.out.off 8 (.slice ao8 r8.length cp8) (by omega)
  replace HA2 : Hid (VarA (w.heap.size + 1 + 1) ChanT #[.int .i64 x0, .int .i64 x1, .int .i64 x2, .slice ao3 r3.length cp3, .slice ao4 r4.length cp4, .int .i64 x5, .slice ao6 r6.length cp6, .slice ao7 r7.length cp7, .slice ao8 r8.length cp8] (Y13.setCell ⟨w.heap.size + 1 + 1, 8, none⟩ (.slice ao8 r8.length cp8))) := HA2.out.set 8 (.slice ao8 r8.length cp8)
  replace HBY : Hid (Below w.heap.size w (Y13.setCell ⟨w.heap.size + 1 + 1, 8, none⟩ (.slice ao8 r8.length cp8))) := HBY.out.trans ((Only.setCell (c := w.heap.size + 1 + 1) (w := Y13) 8 (.slice ao8 r8.length cp8)).below (B := w.heap.size) (by omega) HBY.out.size)
  replace O3 : Hid (layStringS.own (Y13.setCell ⟨w.heap.size + 1 + 1, 8, none⟩ (.slice ao8 r8.length cp8)) w.heap.size f3 [.slice ao3 r3.length cp3] r3) := layStringS.chg O3.out (Chg.cell _ _ _ _) (fun a ha => by have := LB3.out a ha; simp; omega)
  replace O4 : Hid (layPendingS.own (Y13.setCell ⟨w.heap.size + 1 + 1, 8, none⟩ (.slice ao8 r8.length cp8)) w.heap.size f4 [.slice ao4 r4.length cp4] r4) := layPendingS.chg O4.out (Chg.cell _ _ _ _) (fun a ha => by have := LB4.out a ha; simp; omega)
  replace O6 : Hid (layEarlyS.own (Y13.setCell ⟨w.heap.size + 1 + 1, 8, none⟩ (.slice ao8 r8.length cp8)) w.heap.size f6 [.slice ao6 r6.length cp6] r6) := layEarlyS.chg O6.out (Chg.cell _ _ _ _) (fun a ha => by have := LB6.out a ha; simp; omega)
  replace O7 : Hid (layIntS.own (Y13.setCell ⟨w.heap.size + 1 + 1, 8, none⟩ (.slice ao8 r8.length cp8)) w.heap.size f7 [.slice ao7 r7.length cp7] r7) := layIntS.chg O7.out (Chg.cell _ _ _ _) (fun a ha => by have := LB7.out a ha; simp; omega)
  replace O8 : Hid (layStringS.own (Y13.setCell ⟨w.heap.size + 1 + 1, 8, none⟩ (.slice ao8 r8.length cp8)) w.heap.size f8 [.slice ao8 r8.length cp8] r8) := layStringS.chg O8.out (Chg.cell _ _ _ _) (fun a ha => by have := LB8.out a ha; simp; omega)
  go_upto_region 11 with fail
  generalize (Y13.setCell ⟨w.heap.size + 1 + 1, 8, none⟩ (.slice ao8 r8.length cp8)) = Y14 at *
  clear c8 q8 f_8
  have c0 : Y14.cell? ⟨w.heap.size + 1 + 1, 0, none⟩ = some (.int .i64 x0) := HA2.out.cell 0
  have q0 : Y14.cell? ⟨w.heap.size + 1, 0, none⟩ = some (.int .i64 0) := HA1.out.cell 0
  have f_0 : Y14.frozen? ⟨w.heap.size + 1, 0, none⟩ = false := HA1.out.free 0
  have c1 : Y14.cell? ⟨w.heap.size + 1 + 1, 1, none⟩ = some (.int .i64 x1) := HA2.out.cell 1
  have q1 : Y14.cell? ⟨w.heap.size + 1, 1, none⟩ = some (.int .i64 0) := HA1.out.cell 1
  have f_1 : Y14.frozen? ⟨w.heap.size + 1, 1, none⟩ = false := HA1.out.free 1
  have c2 : Y14.cell? ⟨w.heap.size + 1 + 1, 2, none⟩ = some (.int .i64 x2) := HA2.out.cell 2
  have q2 : Y14.cell? ⟨w.heap.size + 1, 2, none⟩ = some (.int .i64 0) := HA1.out.cell 2
  have f_2 : Y14.frozen? ⟨w.heap.size + 1, 2, none⟩ = false := HA1.out.free 2
  have c3 : Y14.cell? ⟨w.heap.size + 1 + 1, 3, none⟩ = some (.slice ao3 r3.length cp3) := HA2.out.cell 3
  have q3 : Y14.cell? ⟨w.heap.size + 1, 3, none⟩ = some (.slice none 0 0) := HA1.out.cell 3
  have f_3 : Y14.frozen? ⟨w.heap.size + 1, 3, none⟩ = false := HA1.out.free 3
  have c4 : Y14.cell? ⟨w.heap.size + 1 + 1, 4, none⟩ = some (.slice ao4 r4.length cp4) := HA2.out.cell 4
  have q4 : Y14.cell? ⟨w.heap.size + 1, 4, none⟩ = some (.slice none 0 0) := HA1.out.cell 4
  have f_4 : Y14.frozen? ⟨w.heap.size + 1, 4, none⟩ = false := HA1.out.free 4
  have c5 : Y14.cell? ⟨w.heap.size + 1 + 1, 5, none⟩ = some (.int .i64 x5) := HA2.out.cell 5
  have q5 : Y14.cell? ⟨w.heap.size + 1, 5, none⟩ = some (.int .i64 0) := HA1.out.cell 5
  have f_5 : Y14.frozen? ⟨w.heap.size + 1, 5, none⟩ = false := HA1.out.free 5
  have c6 : Y14.cell? ⟨w.heap.size + 1 + 1, 6, none⟩ = some (.slice ao6 r6.length cp6) := HA2.out.cell 6
  have q6 : Y14.cell? ⟨w.heap.size + 1, 6, none⟩ = some (.slice none 0 0) := HA1.out.cell 6
  have f_6 : Y14.frozen? ⟨w.heap.size + 1, 6, none⟩ = false := HA1.out.free 6
  have c7 : Y14.cell? ⟨w.heap.size + 1 + 1, 7, none⟩ = some (.slice ao7 r7.length cp7) := HA2.out.cell 7
  have q7 : Y14.cell? ⟨w.heap.size + 1, 7, none⟩ = some (.slice none 0 0) := HA1.out.cell 7
  have f_7 : Y14.frozen? ⟨w.heap.size + 1, 7, none⟩ = false := HA1.out.free 7
  have c8 : Y14.cell? ⟨w.heap.size + 1 + 1, 8, none⟩ = some (.slice ao8 r8.length cp8) := HA2.out.cell 8
  have q8 : Y14.cell? ⟨w.heap.size + 1, 8, none⟩ = some (.slice none 0 0) := HA1.out.cell 8
  have f_8 : Y14.frozen? ⟨w.heap.size + 1, 8, none⟩ = false := HA1.out.free 8
  replace HA1 : Hid (VarA (w.heap.size + 1) ChanT #[.int .i64 x0, .int .i64 0, .int .i64 0, .slice none 0 0, .slice none 0 0, .int .i64 0, .slice none 0 0, .slice none 0 0, .slice none 0 0] (Y14.setCell ⟨w.heap.size + 1, 0, none⟩ (.int .i64 x0))) := HA1.out.set 0 (.int .i64 x0)
  replace HBY : Hid (Below w.heap.size w (Y14.setCell ⟨w.heap.size + 1, 0, none⟩ (.int .i64 x0))) := HBY.out.trans ((Only.setCell (c := w.heap.size + 1) (w := Y14) 0 (.int .i64 x0)).below (B := w.heap.size) (by omega) HBY.out.size)
  replace O3 : Hid (layStringS.own (Y14.setCell ⟨w.heap.size + 1, 0, none⟩ (.int .i64 x0)) w.heap.size f3 [.slice ao3 r3.length cp3] r3) := layStringS.chg O3.out (Chg.cell _ _ _ _) (fun a ha => by have := LB3.out a ha; simp; omega)
  replace O4 : Hid (layPendingS.own (Y14.setCell ⟨w.heap.size + 1, 0, none⟩ (.int .i64 x0)) w.heap.size f4 [.slice ao4 r4.length cp4] r4) := layPendingS.chg O4.out (Chg.cell _ _ _ _) (fun a ha => by have := LB4.out a ha; simp; omega)
  replace O6 : Hid (layEarlyS.own (Y14.setCell ⟨w.heap.size + 1, 0, none⟩ (.int .i64 x0)) w.heap.size f6 [.slice ao6 r6.length cp6] r6) := layEarlyS.chg O6.out (Chg.cell _ _ _ _) (fun a ha => by have := LB6.out a ha; simp; omega)
  replace O7 : Hid (layIntS.own (Y14.setCell ⟨w.heap.size + 1, 0, none⟩ (.int .i64 x0)) w.heap.size f7 [.slice ao7 r7.length cp7] r7) := layIntS.chg O7.out (Chg.cell _ _ _ _) (fun a ha => by have := LB7.out a ha; simp; omega)
  replace O8 : Hid (layStringS.own (Y14.setCell ⟨w.heap.size + 1, 0, none⟩ (.int .i64 x0)) w.heap.size f8 [.slice ao8 r8.length cp8] r8) := layStringS.chg O8.out (Chg.cell _ _ _ _) (fun a ha => by have := LB8.out a ha; simp; omega)
  replace HA1 : Hid (VarA (w.heap.size + 1) ChanT #[.int .i64 x0, .int .i64 x1, .int .i64 0, .slice none 0 0, .slice none 0 0, .int .i64 0, .slice none 0 0, .slice none 0 0, .slice none 0 0] ((Y14.setCell ⟨w.heap.size + 1, 0, none⟩ (.int .i64 x0)).setCell ⟨w.heap.size + 1, 1, none⟩ (.int .i64 x1))) := HA1.out.set 1 (.int .i64 x1)
  replace HBY : Hid (Below w.heap.size w ((Y14.setCell ⟨w.heap.size + 1, 0, none⟩ (.int .i64 x0)).setCell ⟨w.heap.size + 1, 1, none⟩ (.int .i64 x1))) := HBY.out.trans ((Only.setCell (c := w.heap.size + 1) (w := (Y14.setCell ⟨w.heap.size + 1, 0, none⟩ (.int .i64 x0))) 1 (.int .i64 x1)).below (B := w.heap.size) (by omega) HBY.out.size)
  replace O3 : Hid (layStringS.own ((Y14.setCell ⟨w.heap.size + 1, 0, none⟩ (.int .i64 x0)).setCell ⟨w.heap.size + 1, 1, none⟩ (.int .i64 x1)) w.heap.size f3 [.slice ao3 r3.length cp3] r3) := layStringS.chg O3.out (Chg.cell _ _ _ _) (fun a ha => by have := LB3.out a ha; simp; omega)
  replace O4 : Hid (layPendingS.own ((Y14.setCell ⟨w.heap.size + 1, 0, none⟩ (.int .i64 x0)).setCell ⟨w.heap.size + 1, 1, none⟩ (.int .i64 x1)) w.heap.size f4 [.slice ao4 r4.length cp4] r4) := layPendingS.chg O4.out (Chg.cell _ _ _ _) (fun a ha => by have := LB4.out a ha; simp; omega)
  replace O6 : Hid (layEarlyS.own ((Y14.setCell ⟨w.heap.size + 1, 0, none⟩ (.int .i64 x0)).setCell ⟨w.heap.size + 1, 1, none⟩ (.int .i64 x1)) w.heap.size f6 [.slice ao6 r6.length cp6] r6) := layEarlyS.chg O6.out (Chg.cell _ _ _ _) (fun a ha => by have := LB6.out a ha; simp; omega)
  replace O7 : Hid (layIntS.own ((Y14.setCell ⟨w.heap.size + 1, 0, none⟩ (.int .i64 x0)).setCell ⟨w.heap.size + 1, 1, none⟩ (.int .i64 x1)) w.heap.size f7 [.slice ao7 r7.length cp7] r7) := layIntS.chg O7.out (Chg.cell _ _ _ _) (fun a ha => by have := LB7.out a ha; simp; omega)
  replace O8 : Hid (layStringS.own ((Y14.setCell ⟨w.heap.size + 1, 0, none⟩ (.int .i64 x0)).setCell ⟨w.heap.size + 1, 1, none⟩ (.int .i64 x1)) w.heap.size f8 [.slice ao8 r8.length cp8] r8) := layStringS.chg O8.out (Chg.cell _ _ _ _) (fun a ha => by have := LB8.out a ha; simp; omega)
  replace HA1 : Hid (VarA (w.heap.size + 1) ChanT #[.int .i64 x0, .int .i64 x1, .int .i64 x2, .slice none 0 0, .slice none 0 0, .int .i64 0, .slice none 0 0, .slice none 0 0, .slice none 0 0] (((Y14.setCell ⟨w.heap.size + 1, 0, none⟩ (.int .i64 x0)).setCell ⟨w.heap.size + 1, 1, none⟩ (.int .i64 x1)).setCell ⟨w.heap.size + 1, 2, none⟩ (.int .i64 x2))) := HA1.out.set 2 (.int .i64 x2)
  replace HBY : Hid (Below w.heap.size w (((Y14.setCell ⟨w.heap.size + 1, 0, none⟩ (.int .i64 x0)).setCell ⟨w.heap.size + 1, 1, none⟩ (.int .i64 x1)).setCell ⟨w.heap.size + 1, 2, none⟩ (.int .i64 x2))) := HBY.out.trans ((Only.setCell (c := w.heap.size + 1) (w := ((Y14.setCell ⟨w.heap.size + 1, 0, none⟩ (.int .i64 x0)).setCell ⟨w.heap.size + 1, 1, none⟩ (.int .i64 x1))) 2 (.int .i64 x2)).below (B := w.heap.size) (by omega) HBY.out.size)
  replace O3 : Hid (layStringS.own (((Y14.setCell ⟨w.heap.size + 1, 0, none⟩ (.int .i64 x0)).setCell ⟨w.heap.size + 1, 1, none⟩ (.int .i64 x1)).setCell ⟨w.heap.size + 1, 2, none⟩ (.int .i64 x2)) w.heap.size f3 [.slice ao3 r3.length cp3] r3) := layStringS.chg O3.out (Chg.cell _ _ _ _) (fun a ha => by have := LB3.out a ha; simp; omega)
  replace O4 : Hid (layPendingS.own (((Y14.setCell ⟨w.heap.size + 1, 0, none⟩ (.int .i64 x0)).setCell ⟨w.heap.size + 1, 1, none⟩ (.int .i64 x1)).setCell ⟨w.heap.size + 1, 2, none⟩ (.int .i64 x2)) w.heap.size f4 [.slice ao4 r4.length cp4] r4) := layPendingS.chg O4.out (Chg.cell _ _ _ _) (fun a ha => by have := LB4.out a ha; simp; omega)
  replace O6 : Hid (layEarlyS.own (((Y14.setCell ⟨w.heap.size + 1, 0, none⟩ (.int .i64 x0)).setCell ⟨w.heap.size + 1, 1, none⟩ (.int .i64 x1)).setCell ⟨w.heap.size + 1, 2, none⟩ (.int .i64 x2)) w.heap.size f6 [.slice ao6 r6.length cp6] r6) := layEarlyS.chg O6.out (Chg.cell _ _ _ _) (fun a ha => by have := LB6.out a ha; simp; omega)
  replace O7 : Hid (layIntS.own (((Y14.setCell ⟨w.heap.size + 1, 0, none⟩ (.int .i64 x0)).setCell ⟨w.heap.size + 1, 1, none⟩ (.int .i64 x1)).setCell ⟨w.heap.size + 1, 2, none⟩ (.int .i64 x2)) w.heap.size f7 [.slice ao7 r7.length cp7] r7) := layIntS.chg O7.out (Chg.cell _ _ _ _) (fun a ha => by have := LB7.out a ha; simp; omega)
  replace O8 : Hid (layStringS.own (((Y14.setCell ⟨w.heap.size + 1, 0, none⟩ (.int .i64 x0)).setCell ⟨w.heap.size + 1, 1, none⟩ (.int .i64 x1)).setCell ⟨w.heap.size + 1, 2, none⟩ (.int .i64 x2)) w.heap.size f8 [.slice ao8 r8.length cp8] r8) := layStringS.chg O8.out (Chg.cell _ _ _ _) (fun a ha => by have := LB8.out a ha; simp; omega)
  replace HA1 : Hid (VarA (w.heap.size + 1) ChanT #[.int .i64 x0, .int .i64 x1, .int .i64 x2, .slice ao3 r3.length cp3, .slice none 0 0, .int .i64 0, .slice none 0 0, .slice none 0 0, .slice none 0 0] ((((Y14.setCell ⟨w.heap.size + 1, 0, none⟩ (.int .i64 x0)).setCell ⟨w.heap.size + 1, 1, none⟩ (.int .i64 x1)).setCell ⟨w.heap.size + 1, 2, none⟩ (.int .i64 x2)).setCell ⟨w.heap.size + 1, 3, none⟩ (.slice ao3 r3.length cp3))) := HA1.out.set 3 (.slice ao3 r3.length cp3)
  replace HBY : Hid (Below w.heap.size w ((((Y14.setCell ⟨w.heap.size + 1, 0, none⟩ (.int .i64 x0)).setCell ⟨w.heap.size + 1, 1, none⟩ (.int .i64 x1)).setCell ⟨w.heap.size + 1, 2, none⟩ (.int .i64 x2)).setCell ⟨w.heap.size + 1, 3, none⟩ (.slice ao3 r3.length cp3))) := HBY.out.trans ((Only.setCell (c := w.heap.size + 1) (w := (((Y14.setCell ⟨w.heap.size + 1, 0, none⟩ (.int .i64 x0)).setCell ⟨w.heap.size + 1, 1, none⟩ (.int .i64 x1)).setCell ⟨w.heap.size + 1, 2, none⟩ (.int .i64 x2))) 3 (.slice ao3 r3.length cp3)).below (B := w.heap.size) (by omega) HBY.out.size)
  replace O3 : Hid (layStringS.own ((((Y14.setCell ⟨w.heap.size + 1, 0, none⟩ (.int .i64 x0)).setCell ⟨w.heap.size + 1, 1, none⟩ (.int .i64 x1)).setCell ⟨w.heap.size + 1, 2, none⟩ (.int .i64 x2)).setCell ⟨w.heap.size + 1, 3, none⟩ (.slice ao3 r3.length cp3)) w.heap.size f3 [.slice ao3 r3.length cp3] r3) := layStringS.chg O3.out (Chg.cell _ _ _ _) (fun a ha => by have := LB3.out a ha; simp; omega)
  replace O4 : Hid (layPendingS.own ((((Y14.setCell ⟨w.heap.size + 1, 0, none⟩ (.int .i64 x0)).setCell ⟨w.heap.size + 1, 1, none⟩ (.int .i64 x1)).setCell ⟨w.heap.size + 1, 2, none⟩ (.int .i64 x2)).setCell ⟨w.heap.size + 1, 3, none⟩ (.slice ao3 r3.length cp3)) w.heap.size f4 [.slice ao4 r4.length cp4] r4) := layPendingS.chg O4.out (Chg.cell _ _ _ _) (fun a ha => by have := LB4.out a ha; simp; omega)
  replace O6 : Hid (layEarlyS.own ((((Y14.setCell ⟨w.heap.size + 1, 0, none⟩ (.int .i64 x0)).setCell ⟨w.heap.size + 1, 1, none⟩ (.int .i64 x1)).setCell ⟨w.heap.size + 1, 2, none⟩ (.int .i64 x2)).setCell ⟨w.heap.size + 1, 3, none⟩ (.slice ao3 r3.length cp3)) w.heap.size f6 [.slice ao6 r6.length cp6] r6) := layEarlyS.chg O6.out (Chg.cell _ _ _ _) (fun a ha => by have := LB6.out a ha; simp; omega)
  replace O7 : Hid (layIntS.own ((((Y14.setCell ⟨w.heap.size + 1, 0, none⟩ (.int .i64 x0)).setCell ⟨w.heap.size + 1, 1, none⟩ (.int .i64 x1)).setCell ⟨w.heap.size + 1, 2, none⟩ (.int .i64 x2)).setCell ⟨w.heap.size + 1, 3, none⟩ (.slice ao3 r3.length cp3)) w.heap.size f7 [.slice ao7 r7.length cp7] r7) := layIntS.chg O7.out (Chg.cell _ _ _ _) (fun a ha => by have := LB7.out a ha; simp; omega)
  replace O8 : Hid (layStringS.own ((((Y14.setCell ⟨w.heap.size + 1, 0, none⟩ (.int .i64 x0)).setCell ⟨w.heap.size + 1, 1, none⟩ (.int .i64 x1)).setCell ⟨w.heap.size + 1, 2, none⟩ (.int .i64 x2)).setCell ⟨w.heap.size + 1, 3, none⟩ (.slice ao3 r3.length cp3)) w.heap.size f8 [.slice ao8 r8.length cp8] r8) := layStringS.chg O8.out (Chg.cell _ _ _ _) (fun a ha => by have := LB8.out a ha; simp; omega)
  replace HA1 : Hid (VarA (w.heap.size + 1) ChanT #[.int .i64 x0, .int .i64 x1, .int .i64 x2, .slice ao3 r3.length cp3, .slice ao4 r4.length cp4, .int .i64 0, .slice none 0 0, .slice none 0 0, .slice none 0 0] (((((Y14.setCell ⟨w.heap.size + 1, 0, none⟩ (.int .i64 x0)).setCell ⟨w.heap.size + 1, 1, none⟩ (.int .i64 x1)).setCell ⟨w.heap.size + 1, 2, none⟩ (.int .i64 x2)).setCell ⟨w.heap.size + 1, 3, none⟩ (.slice ao3 r3.length cp3)).setCell ⟨w.heap.size + 1, 4, none⟩ (.slice ao4 r4.length cp4))) := HA1.out.set 4 (.slice ao4 r4.length cp4)
  replace HBY : Hid (Below w.heap.size w (((((Y14.setCell ⟨w.heap.size + 1, 0, none⟩ (.int .i64 x0)).setCell ⟨w.heap.size + 1, 1, none⟩ (.int .i64 x1)).setCell ⟨w.heap.size + 1, 2, none⟩ (.int .i64 x2)).setCell ⟨w.heap.size + 1, 3, none⟩ (.slice ao3 r3.length cp3)).setCell ⟨w.heap.size + 1, 4, none⟩ (.slice ao4 r4.length cp4))) := HBY.out.trans ((Only.setCell (c := w.heap.size + 1) (w := ((((Y14.setCell ⟨w.heap.size + 1, 0, none⟩ (.int .i64 x0)).setCell ⟨w.heap.size + 1, 1, none⟩ (.int .i64 x1)).setCell ⟨w.heap.size + 1, 2, none⟩ (.int .i64 x2)).setCell ⟨w.heap.size + 1, 3, none⟩ (.slice ao3 r3.length cp3))) 4 (.slice ao4 r4.length cp4)).below (B := w.heap.size) (by omega) HBY.out.size)
  replace O3 : Hid (layStringS.own (((((Y14.setCell ⟨w.heap.size + 1, 0, none⟩ (.int .i64 x0)).setCell ⟨w.heap.size + 1, 1, none⟩ (.int .i64 x1)).setCell ⟨w.heap.size + 1, 2, none⟩ (.int .i64 x2)).setCell ⟨w.heap.size + 1, 3, none⟩ (.slice ao3 r3.length cp3)).setCell ⟨w.heap.size + 1, 4, none⟩ (.slice ao4 r4.length cp4)) w.heap.size f3 [.slice ao3 r3.length cp3] r3) := layStringS.chg O3.out (Chg.cell _ _ _ _) (fun a ha => by have := LB3.out a ha; simp; omega)
  replace O4 : Hid (layPendingS.own (((((Y14.setCell ⟨w.heap.size + 1, 0, none⟩ (.int .i64 x0)).setCell ⟨w.heap.size + 1, 1, none⟩ (.int .i64 x1)).setCell ⟨w.heap.size + 1, 2, none⟩ (.int .i64 x2)).setCell ⟨w.heap.size + 1, 3, none⟩ (.slice ao3 r3.length cp3)).setCell ⟨w.heap.size + 1, 4, none⟩ (.slice ao4 r4.length cp4)) w.heap.size f4 [.slice ao4 r4.length cp4] r4) := layPendingS.chg O4.out (Chg.cell _ _ _ _) (fun a ha => by have := LB4.out a ha; simp; omega)
  replace O6 : Hid (layEarlyS.own (((((Y14.setCell ⟨w.heap.size + 1, 0, none⟩ (.int .i64 x0)).setCell ⟨w.heap.size + 1, 1, none⟩ (.int .i64 x1)).setCell ⟨w.heap.size + 1, 2, none⟩ (.int .i64 x2)).setCell ⟨w.heap.size + 1, 3, none⟩ (.slice ao3 r3.length cp3)).setCell ⟨w.heap.size + 1, 4, none⟩ (.slice ao4 r4.length cp4)) w.heap.size f6 [.slice ao6 r6.length cp6] r6) := layEarlyS.chg O6.out (Chg.cell _ _ _ _) (fun a ha => by have := LB6.out a ha; simp; omega)
  replace O7 : Hid (layIntS.own (((((Y14.setCell ⟨w.heap.size + 1, 0, none⟩ (.int .i64 x0)).setCell ⟨w.heap.size + 1, 1, none⟩ (.int .i64 x1)).setCell ⟨w.heap.size + 1, 2, none⟩ (.int .i64 x2)).setCell ⟨w.heap.size + 1, 3, none⟩ (.slice ao3 r3.length cp3)).setCell ⟨w.heap.size + 1, 4, none⟩ (.slice ao4 r4.length cp4)) w.heap.size f7 [.slice ao7 r7.length cp7] r7) := layIntS.chg O7.out (Chg.cell _ _ _ _) (fun a ha => by have := LB7.out a ha; simp; omega)
  replace O8 : Hid (layStringS.own (((((Y14.setCell ⟨w.heap.size + 1, 0, none⟩ (.int .i64 x0)).setCell ⟨w.heap.size + 1, 1, none⟩ (.int .i64 x1)).setCell ⟨w.heap.size + 1, 2, none⟩ (.int .i64 x2)).setCell ⟨w.heap.size + 1, 3, none⟩ (.slice ao3 r3.length cp3)).setCell ⟨w.heap.size + 1, 4, none⟩ (.slice ao4 r4.length cp4)) w.heap.size f8 [.slice ao8 r8.length cp8] r8) := layStringS.chg O8.out (Chg.cell _ _ _ _) (fun a ha => by have := LB8.out a ha; simp; omega)
  replace HA1 : Hid (VarA (w.heap.size + 1) ChanT #[.int .i64 x0, .int .i64 x1, .int .i64 x2, .slice ao3 r3.length cp3, .slice ao4 r4.length cp4, .int .i64 x5, .slice none 0 0, .slice none 0 0, .slice none 0 0] ((((((Y14.setCell ⟨w.heap.size + 1, 0, none⟩ (.int .i64 x0)).setCell ⟨w.heap.size + 1, 1, none⟩ (.int .i64 x1)).setCell ⟨w.heap.size + 1, 2, none⟩ (.int .i64 x2)).setCell ⟨w.heap.size + 1, 3, none⟩ (.slice ao3 r3.length cp3)).setCell ⟨w.heap.size + 1, 4, none⟩ (.slice ao4 r4.length cp4)).setCell ⟨w.heap.size + 1, 5, none⟩ (.int .i64 x5))) := HA1.out.set 5 (.int .i64 x5)
  replace HBY : Hid (Below w.heap.size w ((((((Y14.setCell ⟨w.heap.size + 1, 0, none⟩ (.int .i64 x0)).setCell ⟨w.heap.size + 1, 1, none⟩ (.int .i64 x1)).setCell ⟨w.heap.size + 1, 2, none⟩ (.int .i64 x2)).setCell ⟨w.heap.size + 1, 3, none⟩ (.slice ao3 r3.length cp3)).setCell ⟨w.heap.size + 1, 4, none⟩ (.slice ao4 r4.length cp4)).setCell ⟨w.heap.size + 1, 5, none⟩ (.int .i64 x5))) := HBY.out.trans ((Only.setCell (c := w.heap.size + 1) (w := (((((Y14.setCell ⟨w.heap.size + 1, 0, none⟩ (.int .i64 x0)).setCell ⟨w.heap.size + 1, 1, none⟩ (.int .i64 x1)).setCell ⟨w.heap.size + 1, 2, none⟩ (.int .i64 x2)).setCell ⟨w.heap.size + 1, 3, none⟩ (.slice ao3 r3.length cp3)).setCell ⟨w.heap.size + 1, 4, none⟩ (.slice ao4 r4.length cp4))) 5 (.int .i64 x5)).below (B := w.heap.size) (by omega) HBY.out.size)
  replace O3 : Hid (layStringS.own ((((((Y14.setCell ⟨w.heap.size + 1, 0, none⟩ (.int .i64 x0)).setCell ⟨w.heap.size + 1, 1, none⟩ (.int .i64 x1)).setCell ⟨w.heap.size + 1, 2, none⟩ (.int .i64 x2)).setCell ⟨w.heap.size + 1, 3, none⟩ (.slice ao3 r3.length cp3)).setCell ⟨w.heap.size + 1, 4, none⟩ (.slice ao4 r4.length cp4)).setCell ⟨w.heap.size + 1, 5, none⟩ (.int .i64 x5)) w.heap.size f3 [.slice ao3 r3.length cp3] r3) := layStringS.chg O3.out (Chg.cell _ _ _ _) (fun a ha => by have := LB3.out a ha; simp; omega)
  replace O4 : Hid (layPendingS.own ((((((Y14.setCell ⟨w.heap.size + 1, 0, none⟩ (.int .i64 x0)).setCell ⟨w.heap.size + 1, 1, none⟩ (.int .i64 x1)).setCell ⟨w.heap.size + 1, 2, none⟩ (.int .i64 x2)).setCell ⟨w.heap.size + 1, 3, none⟩ (.slice ao3 r3.length cp3)).setCell ⟨w.heap.size + 1, 4, none⟩ (.slice ao4 r4.length cp4)).setCell ⟨w.heap.size + 1, 5, none⟩ (.int .i64 x5)) w.heap.size f4 [.slice ao4 r4.length cp4] r4) := layPendingS.chg O4.out (Chg.cell _ _ _ _) (fun a ha => by have := LB4.out a ha; simp; omega)
  replace O6 : Hid (layEarlyS.own ((((((Y14.setCell ⟨w.heap.size + 1, 0, none⟩ (.int .i64 x0)).setCell ⟨w.heap.size + 1, 1, none⟩ (.int .i64 x1)).setCell ⟨w.heap.size + 1, 2, none⟩ (.int .i64 x2)).setCell ⟨w.heap.size + 1, 3, none⟩ (.slice ao3 r3.length cp3)).setCell ⟨w.heap.size + 1, 4, none⟩ (.slice ao4 r4.length cp4)).setCell ⟨w.heap.size + 1, 5, none⟩ (.int .i64 x5)) w.heap.size f6 [.slice ao6 r6.length cp6] r6) := layEarlyS.chg O6.out (Chg.cell _ _ _ _) (fun a ha => by have := LB6.out a ha; simp; omega)
  replace O7 : Hid (layIntS.own ((((((Y14.setCell ⟨w.heap.size + 1, 0, none⟩ (.int .i64 x0)).setCell ⟨w.heap.size + 1, 1, none⟩ (.int .i64 x1)).setCell ⟨w.heap.size + 1, 2, none⟩ (.int .i64 x2)).setCell ⟨w.heap.size + 1, 3, none⟩ (.slice ao3 r3.length cp3)).setCell ⟨w.heap.size + 1, 4, none⟩ (.slice ao4 r4.length cp4)).setCell ⟨w.heap.size + 1, 5, none⟩ (.int .i64 x5)) w.heap.size f7 [.slice ao7 r7.length cp7] r7) := layIntS.chg O7.out (Chg.cell _ _ _ _) (fun a ha => by have := LB7.out a ha; simp; omega)
  replace O8 : Hid (layStringS.own ((((((Y14.setCell ⟨w.heap.size + 1, 0, none⟩ (.int .i64 x0)).setCell ⟨w.heap.size + 1, 1, none⟩ (.int .i64 x1)).setCell ⟨w.heap.size + 1, 2, none⟩ (.int .i64 x2)).setCell ⟨w.heap.size + 1, 3, none⟩ (.slice ao3 r3.length cp3)).setCell ⟨w.heap.size + 1, 4, none⟩ (.slice ao4 r4.length cp4)).setCell ⟨w.heap.size + 1, 5, none⟩ (.int .i64 x5)) w.heap.size f8 [.slice ao8 r8.length cp8] r8) := layStringS.chg O8.out (Chg.cell _ _ _ _) (fun a ha => by have := LB8.out a ha; simp; omega)
  replace HA1 : Hid (VarA (w.heap.size + 1) ChanT #[.int .i64 x0, .int .i64 x1, .int .i64 x2, .slice ao3 r3.length cp3, .slice ao4 r4.length cp4, .int .i64 x5, .slice ao6 r6.length cp6, .slice none 0 0, .slice none 0 0] (((((((Y14.setCell ⟨w.heap.size + 1, 0, none⟩ (.int .i64 x0)).setCell ⟨w.heap.size + 1, 1, none⟩ (.int .i64 x1)).setCell ⟨w.heap.size + 1, 2, none⟩ (.int .i64 x2)).setCell ⟨w.heap.size + 1, 3, none⟩ (.slice ao3 r3.length cp3)).setCell ⟨w.heap.size + 1, 4, none⟩ (.slice ao4 r4.length cp4)).setCell ⟨w.heap.size + 1, 5, none⟩ (.int .i64 x5)).setCell ⟨w.heap.size + 1, 6, none⟩ (.slice ao6 r6.length cp6))) := HA1.out.set 6 (.slice ao6 r6.length cp6)
  replace HBY : Hid (Below w.heap.size w (((((((Y14.setCell ⟨w.heap.size + 1, 0, none⟩ (.int .i64 x0)).setCell ⟨w.heap.size + 1, 1, none⟩ (.int .i64 x1)).setCell ⟨w.heap.size + 1, 2, none⟩ (.int .i64 x2)).setCell ⟨w.heap.size + 1, 3, none⟩ (.slice ao3 r3.length cp3)).setCell ⟨w.heap.size + 1, 4, none⟩ (.slice ao4 r4.length cp4)).setCell ⟨w.heap.size + 1, 5, none⟩ (.int .i64 x5)).setCell ⟨w.heap.size + 1, 6, none⟩ (.slice ao6 r6.length cp6))) := HBY.out.trans ((Only.setCell (c := w.heap.size + 1) (w := ((((((Y14.setCell ⟨w.heap.size + 1, 0, none⟩ (.int .i64 x0)).setCell ⟨w.heap.size + 1, 1, none⟩ (.int .i64 x1)).setCell ⟨w.heap.size + 1, 2, none⟩ (.int .i64 x2)).setCell ⟨w.heap.size + 1, 3, none⟩ (.slice ao3 r3.length cp3)).setCell ⟨w.heap.size + 1, 4, none⟩ (.slice ao4 r4.length cp4)).setCell ⟨w.heap.size + 1, 5, none⟩ (.int .i64 x5))) 6 (.slice ao6 r6.length cp6)).below (B := w.heap.size) (by omega) HBY.out.size)
  replace O3 : Hid (layStringS.own (((((((Y14.setCell ⟨w.heap.size + 1, 0, none⟩ (.int .i64 x0)).setCell ⟨w.heap.size + 1, 1, none⟩ (.int .i64 x1)).setCell ⟨w.heap.size + 1, 2, none⟩ (.int .i64 x2)).setCell ⟨w.heap.size + 1, 3, none⟩ (.slice ao3 r3.length cp3)).setCell ⟨w.heap.size + 1, 4, none⟩ (.slice ao4 r4.length cp4)).setCell ⟨w.heap.size + 1, 5, none⟩ (.int .i64 x5)).setCell ⟨w.heap.size + 1, 6, none⟩ (.slice ao6 r6.length cp6)) w.heap.size f3 [.slice ao3 r3.length cp3] r3) := layStringS.chg O3.out (Chg.cell _ _ _ _) (fun a ha => by have := LB3.out a ha; simp; omega)
  replace O4 : Hid (layPendingS.own (((((((Y14.setCell ⟨w.heap.size + 1, 0, none⟩ (.int .i64 x0)).setCell ⟨w.heap.size + 1, 1, none⟩ (.int .i64 x1)).setCell ⟨w.heap.size + 1, 2, none⟩ (.int .i64 x2)).setCell ⟨w.heap.size + 1, 3, none⟩ (.slice ao3 r3.length cp3)).setCell ⟨w.heap.size + 1, 4, none⟩ (.slice ao4 r4.length cp4)).setCell ⟨w.heap.size + 1, 5, none⟩ (.int .i64 x5)).setCell ⟨w.heap.size + 1, 6, none⟩ (.slice ao6 r6.length cp6)) w.heap.size f4 [.slice ao4 r4.length cp4] r4) := layPendingS.chg O4.out (Chg.cell _ _ _ _) (fun a ha => by have := LB4.out a ha; simp; omega)
  replace O6 : Hid (layEarlyS.own (((((((Y14.setCell ⟨w.heap.size + 1, 0, none⟩ (.int .i64 x0)).setCell ⟨w.heap.size + 1, 1, none⟩ (.int .i64 x1)).setCell ⟨w.heap.size + 1, 2, none⟩ (.int .i64 x2)).setCell ⟨w.heap.size + 1, 3, none⟩ (.slice ao3 r3.length cp3)).setCell ⟨w.heap.size + 1, 4, none⟩ (.slice ao4 r4.length cp4)).setCell ⟨w.heap.size + 1, 5, none⟩ (.int .i64 x5)).setCell ⟨w.heap.size + 1, 6, none⟩ (.slice ao6 r6.length cp6)) w.heap.size f6 [.slice ao6 r6.length cp6] r6) := layEarlyS.chg O6.out (Chg.cell _ _ _ _) (fun a ha => by have := LB6.out a ha; simp; omega)
  replace O7 : Hid (layIntS.own (((((((Y14.setCell ⟨w.heap.size + 1, 0, none⟩ (.int .i64 x0)).setCell ⟨w.heap.size + 1, 1, none⟩ (.int .i64 x1)).setCell ⟨w.heap.size + 1, 2, none⟩ (.int .i64 x2)).setCell ⟨w.heap.size + 1, 3, none⟩ (.slice ao3 r3.length cp3)).setCell ⟨w.heap.size + 1, 4, none⟩ (.slice ao4 r4.length cp4)).setCell ⟨w.heap.size + 1, 5, none⟩ (.int .i64 x5)).setCell ⟨w.heap.size + 1, 6, none⟩ (.slice ao6 r6.length cp6)) w.heap.size f7 [.slice ao7 r7.length cp7] r7) := layIntS.chg O7.out (Chg.cell _ _ _ _) (fun a ha => by have := LB7.out a ha; simp; omega)
  replace O8 : Hid (layStringS.own (((((((Y14.setCell ⟨w.heap.size + 1, 0, none⟩ (.int .i64 x0)).setCell ⟨w.heap.size + 1, 1, none⟩ (.int .i64 x1)).setCell ⟨w.heap.size + 1, 2, none⟩ (.int .i64 x2)).setCell ⟨w.heap.size + 1, 3, none⟩ (.slice ao3 r3.length cp3)).setCell ⟨w.heap.size + 1, 4, none⟩ (.slice ao4 r4.length cp4)).setCell ⟨w.heap.size + 1, 5, none⟩ (.int .i64 x5)).setCell ⟨w.heap.size + 1, 6, none⟩ (.slice ao6 r6.length cp6)) w.heap.size f8 [.slice ao8 r8.length cp8] r8) := layStringS.chg O8.out (Chg.cell _ _ _ _) (fun a ha => by have := LB8.out a ha; simp; omega)
  replace HA1 : Hid (VarA (w.heap.size + 1) ChanT #[.int .i64 x0, .int .i64 x1, .int .i64 x2, .slice ao3 r3.length cp3, .slice ao4 r4.length cp4, .int .i64 x5, .slice ao6 r6.length cp6, .slice ao7 r7.length cp7, .slice none 0 0] ((((((((Y14.setCell ⟨w.heap.size + 1, 0, none⟩ (.int .i64 x0)).setCell ⟨w.heap.size + 1, 1, none⟩ (.int .i64 x1)).setCell ⟨w.heap.size + 1, 2, none⟩ (.int .i64 x2)).setCell ⟨w.heap.size + 1, 3, none⟩ (.slice ao3 r3.length cp3)).setCell ⟨w.heap.size + 1, 4, none⟩ (.slice ao4 r4.length cp4)).setCell ⟨w.heap.size + 1, 5, none⟩ (.int .i64 x5)).setCell ⟨w.heap.size + 1, 6, none⟩ (.slice ao6 r6.length cp6)).setCell ⟨w.heap.size + 1, 7, none⟩ (.slice ao7 r7.length cp7))) := HA1.out.set 7 (.slice ao7 r7.length cp7)
  replace HBY : Hid (Below w.heap.size w ((((((((Y14.setCell ⟨w.heap.size + 1, 0, none⟩ (.int .i64 x0)).setCell ⟨w.heap.size + 1, 1, none⟩ (.int .i64 x1)).setCell ⟨w.heap.size + 1, 2, none⟩ (.int .i64 x2)).setCell ⟨w.heap.size + 1, 3, none⟩ (.slice ao3 r3.length cp3)).setCell ⟨w.heap.size + 1, 4, none⟩ (.slice ao4 r4.length cp4)).setCell ⟨w.heap.size + 1, 5, none⟩ (.int .i64 x5)).setCell ⟨w.heap.size + 1, 6, none⟩ (.slice ao6 r6.length cp6)).setCell ⟨w.heap.size + 1, 7, none⟩ (.slice ao7 r7.length cp7))) := HBY.out.trans ((Only.setCell (c := w.heap.size + 1) (w := (((((((Y14.setCell ⟨w.heap.size + 1, 0, none⟩ (.int .i64 x0)).setCell ⟨w.heap.size + 1, 1, none⟩ (.int .i64 x1)).setCell ⟨w.heap.size + 1, 2, none⟩ (.int .i64 x2)).setCell ⟨w.heap.size + 1, 3, none⟩ (.slice ao3 r3.length cp3)).setCell ⟨w.heap.size + 1, 4, none⟩ (.slice ao4 r4.length cp4)).setCell ⟨w.heap.size + 1, 5, none⟩ (.int .i64 x5)).setCell ⟨w.heap.size + 1, 6, none⟩ (.slice ao6 r6.length cp6))) 7 (.slice ao7 r7.length cp7)).below (B := w.heap.size) (by omega) HBY.out.size)
  replace O3 : Hid (layStringS.own ((((((((Y14.setCell ⟨w.heap.size + 1, 0, none⟩ (.int .i64 x0)).setCell ⟨w.heap.size + 1, 1, none⟩ (.int .i64 x1)).setCell ⟨w.heap.size + 1, 2, none⟩ (.int .i64 x2)).setCell ⟨w.heap.size + 1, 3, none⟩ (.slice ao3 r3.length cp3)).setCell ⟨w.heap.size + 1, 4, none⟩ (.slice ao4 r4.length cp4)).setCell ⟨w.heap.size + 1, 5, none⟩ (.int .i64 x5)).setCell ⟨w.heap.size + 1, 6, none⟩ (.slice ao6 r6.length cp6)).setCell ⟨w.heap.size + 1, 7, none⟩ (.slice ao7 r7.length cp7)) w.heap.size f3 [.slice ao3 r3.length cp3] r3) := layStringS.chg O3.out (Chg.cell _ _ _ _) (fun a ha => by have := LB3.out a ha; simp; omega)
  replace O4 : Hid (layPendingS.own ((((((((Y14.setCell ⟨w.heap.size + 1, 0, none⟩ (.int .i64 x0)).setCell ⟨w.heap.size + 1, 1, none⟩ (.int .i64 x1)).setCell ⟨w.heap.size + 1, 2, none⟩ (.int .i64 x2)).setCell ⟨w.heap.size + 1, 3, none⟩ (.slice ao3 r3.length cp3)).setCell ⟨w.heap.size + 1, 4, none⟩ (.slice ao4 r4.length cp4)).setCell ⟨w.heap.size + 1, 5, none⟩ (.int .i64 x5)).setCell ⟨w.heap.size + 1, 6, none⟩ (.slice ao6 r6.length cp6)).setCell ⟨w.heap.size + 1, 7, none⟩ (.slice ao7 r7.length cp7)) w.heap.size f4 [.slice ao4 r4.length cp4] r4) := layPendingS.chg O4.out (Chg.cell _ _ _ _) (fun a ha => by have := LB4.out a ha; simp; omega)
  replace O6 : Hid (layEarlyS.own ((((((((Y14.setCell ⟨w.heap.size + 1, 0, none⟩ (.int .i64 x0)).setCell ⟨w.heap.size + 1, 1, none⟩ (.int .i64 x1)).setCell ⟨w.heap.size + 1, 2, none⟩ (.int .i64 x2)).setCell ⟨w.heap.size + 1, 3, none⟩ (.slice ao3 r3.length cp3)).setCell ⟨w.heap.size + 1, 4, none⟩ (.slice ao4 r4.length cp4)).setCell ⟨w.heap.size + 1, 5, none⟩ (.int .i64 x5)).setCell ⟨w.heap.size + 1, 6, none⟩ (.slice ao6 r6.length cp6)).setCell ⟨w.heap.size + 1, 7, none⟩ (.slice ao7 r7.length cp7)) w.heap.size f6 [.slice ao6 r6.length cp6] r6) := layEarlyS.chg O6.out (Chg.cell _ _ _ _) (fun a ha => by have := LB6.out a ha; simp; omega)
  replace O7 : Hid (layIntS.own ((((((((Y14.setCell ⟨w.heap.size + 1, 0, none⟩ (.int .i64 x0)).setCell ⟨w.heap.size + 1, 1, none⟩ (.int .i64 x1)).setCell ⟨w.heap.size + 1, 2, none⟩ (.int .i64 x2)).setCell ⟨w.heap.size + 1, 3, none⟩ (.slice ao3 r3.length cp3)).setCell ⟨w.heap.size + 1, 4, none⟩ (.slice ao4 r4.length cp4)).setCell ⟨w.heap.size + 1, 5, none⟩ (.int .i64 x5)).setCell ⟨w.heap.size + 1, 6, none⟩ (.slice ao6 r6.length cp6)).setCell ⟨w.heap.size + 1, 7, none⟩ (.slice ao7 r7.length cp7)) w.heap.size f7 [.slice ao7 r7.length cp7] r7) := layIntS.chg O7.out (Chg.cell _ _ _ _) (fun a ha => by have := LB7.out a ha; simp; omega)
  replace O8 : Hid (layStringS.own ((((((((Y14.setCell ⟨w.heap.size + 1, 0, none⟩ (.int .i64 x0)).setCell ⟨w.heap.size + 1, 1, none⟩ (.int .i64 x1)).setCell ⟨w.heap.size + 1, 2, none⟩ (.int .i64 x2)).setCell ⟨w.heap.size + 1, 3, none⟩ (.slice ao3 r3.length cp3)).setCell ⟨w.heap.size + 1, 4, none⟩ (.slice ao4 r4.length cp4)).setCell ⟨w.heap.size + 1, 5, none⟩ (.int .i64 x5)).setCell ⟨w.heap.size + 1, 6, none⟩ (.slice ao6 r6.length cp6)).setCell ⟨w.heap.size + 1, 7, none⟩ (.slice ao7 r7.length cp7)) w.heap.size f8 [.slice ao8 r8.length cp8] r8) := layStringS.chg O8.out (Chg.cell _ _ _ _) (fun a ha => by have := LB8.out a ha; simp; omega)
  replace HA1 : Hid (VarA (w.heap.size + 1) ChanT #[.int .i64 x0, .int .i64 x1, .int .i64 x2, .slice ao3 r3.length cp3, .slice ao4 r4.length cp4, .int .i64 x5, .slice ao6 r6.length cp6, .slice ao7 r7.length cp7, .slice ao8 r8.length cp8] (((((((((Y14.setCell ⟨w.heap.size + 1, 0, none⟩ (.int .i64 x0)).setCell ⟨w.heap.size + 1, 1, none⟩ (.int .i64 x1)).setCell ⟨w.heap.size + 1, 2, none⟩ (.int .i64 x2)).setCell ⟨w.heap.size + 1, 3, none⟩ (.slice ao3 r3.length cp3)).setCell ⟨w.heap.size + 1, 4, none⟩ (.slice ao4 r4.length cp4)).setCell ⟨w.heap.size + 1, 5, none⟩ (.int .i64 x5)).setCell ⟨w.heap.size + 1, 6, none⟩ (.slice ao6 r6.length cp6)).setCell ⟨w.heap.size + 1, 7, none⟩ (.slice ao7 r7.length cp7)).setCell ⟨w.heap.size + 1, 8, none⟩ (.slice ao8 r8.length cp8))) := HA1.out.set 8 (.slice ao8 r8.length cp8)
  replace HBY : Hid (Below w.heap.size w (((((((((Y14.setCell ⟨w.heap.size + 1, 0, none⟩ (.int .i64 x0)).setCell ⟨w.heap.size + 1, 1, none⟩ (.int .i64 x1)).setCell ⟨w.heap.size + 1, 2, none⟩ (.int .i64 x2)).setCell ⟨w.heap.size + 1, 3, none⟩ (.slice ao3 r3.length cp3)).setCell ⟨w.heap.size + 1, 4, none⟩ (.slice ao4 r4.length cp4)).setCell ⟨w.heap.size + 1, 5, none⟩ (.int .i64 x5)).setCell ⟨w.heap.size + 1, 6, none⟩ (.slice ao6 r6.length cp6)).setCell ⟨w.heap.size + 1, 7, none⟩ (.slice ao7 r7.length cp7)).setCell ⟨w.heap.size + 1, 8, none⟩ (.slice ao8 r8.length cp8))) := HBY.out.trans ((Only.setCell (c := w.heap.size + 1) (w := ((((((((Y14.setCell ⟨w.heap.size + 1, 0, none⟩ (.int .i64 x0)).setCell ⟨w.heap.size + 1, 1, none⟩ (.int .i64 x1)).setCell ⟨w.heap.size + 1, 2, none⟩ (.int .i64 x2)).setCell ⟨w.heap.size + 1, 3, none⟩ (.slice ao3 r3.length cp3)).setCell ⟨w.heap.size + 1, 4, none⟩ (.slice ao4 r4.length cp4)).setCell ⟨w.heap.size + 1, 5, none⟩ (.int .i64 x5)).setCell ⟨w.heap.size + 1, 6, none⟩ (.slice ao6 r6.length cp6)).setCell ⟨w.heap.size + 1, 7, none⟩ (.slice ao7 r7.length cp7))) 8 (.slice ao8 r8.length cp8)).below (B := w.heap.size) (by omega) HBY.out.size)
  replace O3 : Hid (layStringS.own (((((((((Y14.setCell ⟨w.heap.size + 1, 0, none⟩ (.int .i64 x0)).setCell ⟨w.heap.size + 1, 1, none⟩ (.int .i64 x1)).setCell ⟨w.heap.size + 1, 2, none⟩ (.int .i64 x2)).setCell ⟨w.heap.size + 1, 3, none⟩ (.slice ao3 r3.length cp3)).setCell ⟨w.heap.size + 1, 4, none⟩ (.slice ao4 r4.length cp4)).setCell ⟨w.heap.size + 1, 5, none⟩ (.int .i64 x5)).setCell ⟨w.heap.size + 1, 6, none⟩ (.slice ao6 r6.length cp6)).setCell ⟨w.heap.size + 1, 7, none⟩ (.slice ao7 r7.length cp7)).setCell ⟨w.heap.size + 1, 8, none⟩ (.slice ao8 r8.length cp8)) w.heap.size f3 [.slice ao3 r3.length cp3] r3) := layStringS.chg O3.out (Chg.cell _ _ _ _) (fun a ha => by have := LB3.out a ha; simp; omega)
  replace O4 : Hid (layPendingS.own (((((((((Y14.setCell ⟨w.heap.size + 1, 0, none⟩ (.int .i64 x0)).setCell ⟨w.heap.size + 1, 1, none⟩ (.int .i64 x1)).setCell ⟨w.heap.size + 1, 2, none⟩ (.int .i64 x2)).setCell ⟨w.heap.size + 1, 3, none⟩ (.slice ao3 r3.length cp3)).setCell ⟨w.heap.size + 1, 4, none⟩ (.slice ao4 r4.length cp4)).setCell ⟨w.heap.size + 1, 5, none⟩ (.int .i64 x5)).setCell ⟨w.heap.size + 1, 6, none⟩ (.slice ao6 r6.length cp6)).setCell ⟨w.heap.size + 1, 7, none⟩ (.slice ao7 r7.length cp7)).setCell ⟨w.heap.size + 1, 8, none⟩ (.slice ao8 r8.length cp8)) w.heap.size f4 [.slice ao4 r4.length cp4] r4) := layPendingS.chg O4.out (Chg.cell _ _ _ _) (fun a ha => by have := LB4.out a ha; simp; omega)
  replace O6 : Hid (layEarlyS.own (((((((((Y14.setCell ⟨w.heap.size + 1, 0, none⟩ (.int .i64 x0)).setCell ⟨w.heap.size + 1, 1, none⟩ (.int .i64 x1)).setCell ⟨w.heap.size + 1, 2, none⟩ (.int .i64 x2)).setCell ⟨w.heap.size + 1, 3, none⟩ (.slice ao3 r3.length cp3)).setCell ⟨w.heap.size + 1, 4, none⟩ (.slice ao4 r4.length cp4)).setCell ⟨w.heap.size + 1, 5, none⟩ (.int .i64 x5)).setCell ⟨w.heap.size + 1, 6, none⟩ (.slice ao6 r6.length cp6)).setCell ⟨w.heap.size + 1, 7, none⟩ (.slice ao7 r7.length cp7)).setCell ⟨w.heap.size + 1, 8, none⟩ (.slice ao8 r8.length cp8)) w.heap.size f6 [.slice ao6 r6.length cp6] r6) := layEarlyS.chg O6.out (Chg.cell _ _ _ _) (fun a ha => by have := LB6.out a ha; simp; omega)
  replace O7 : Hid (layIntS.own (((((((((Y14.setCell ⟨w.heap.size + 1, 0, none⟩ (.int .i64 x0)).setCell ⟨w.heap.size + 1, 1, none⟩ (.int .i64 x1)).setCell ⟨w.heap.size + 1, 2, none⟩ (.int .i64 x2)).setCell ⟨w.heap.size + 1, 3, none⟩ (.slice ao3 r3.length cp3)).setCell ⟨w.heap.size + 1, 4, none⟩ (.slice ao4 r4.length cp4)).setCell ⟨w.heap.size + 1, 5, none⟩ (.int .i64 x5)).setCell ⟨w.heap.size + 1, 6, none⟩ (.slice ao6 r6.length cp6)).setCell ⟨w.heap.size + 1, 7, none⟩ (.slice ao7 r7.length cp7)).setCell ⟨w.heap.size + 1, 8, none⟩ (.slice ao8 r8.length cp8)) w.heap.size f7 [.slice ao7 r7.length cp7] r7) := layIntS.chg O7.out (Chg.cell _ _ _ _) (fun a ha => by have := LB7.out a ha; simp; omega)
  replace O8 : Hid (layStringS.own (((((((((Y14.setCell ⟨w.heap.size + 1, 0, none⟩ (.int .i64 x0)).setCell ⟨w.heap.size + 1, 1, none⟩ (.int .i64 x1)).setCell ⟨w.heap.size + 1, 2, none⟩ (.int .i64 x2)).setCell ⟨w.heap.size + 1, 3, none⟩ (.slice ao3 r3.length cp3)).setCell ⟨w.heap.size + 1, 4, none⟩ (.slice ao4 r4.length cp4)).setCell ⟨w.heap.size + 1, 5, none⟩ (.int .i64 x5)).setCell ⟨w.heap.size + 1, 6, none⟩ (.slice ao6 r6.length cp6)).setCell ⟨w.heap.size + 1, 7, none⟩ (.slice ao7 r7.length cp7)).setCell ⟨w.heap.size + 1, 8, none⟩ (.slice ao8 r8.length cp8)) w.heap.size f8 [.slice ao8 r8.length cp8] r8) := layStringS.chg O8.out (Chg.cell _ _ _ _) (fun a ha => by have := LB8.out a ha; simp; omega)
  go_wp2_with fail
  have j0 := HA1.out.cell 0
  have j1 := HA1.out.cell 1
  have j2 := HA1.out.cell 2
  have j3 := HA1.out.cell 3
  have j4 := HA1.out.cell 4
  have j5 := HA1.out.cell 5
  have j6 := HA1.out.cell 6
  have j7 := HA1.out.cell 7
  have j8 := HA1.out.cell 8
  refine bodyPost_ret (v := .agg #[.int .i64 x0, .int .i64 x1, .int .i64 x2, .slice ao3 r3.length cp3, .slice ao4 r4.length cp4, .int .i64 x5, .slice ao6 r6.length cp6, .slice ao7 r7.length cp7, .slice ao8 r8.length cp8]) (by simp [results, Try.results15, go_sem, j0, j1, j2, j3, j4, j5, j6, j7, j8]) rfl ⟨[.int .i64 x0, .int .i64 x1, .int .i64 x2, .slice ao3 r3.length cp3, .slice ao4 r4.length cp4, .int .i64 x5, .slice ao6 r6.length cp6, .slice ao7 r7.length cp7, .slice ao8 r8.length cp8], _, rfl, nodup_two nd3 (nodup_two nd4 (nodup_two nd6 (nodup_two nd7 (nd8) (LT7_8.out)) (lt_append LT6_7.out (LT6_8.out))) (lt_append LT4_6.out (lt_append LT4_7.out (LT4_8.out)))) (lt_append LT3_4.out (lt_append LT3_6.out (lt_append LT3_7.out (LT3_8.out)))), layChan_own.2 ⟨_, _, _, _, _, _, _, _, _, _, rfl, rfl, O3.out, O4.out, O6.out, O7.out, O8.out⟩, HBY.out⟩

set_option maxRecDepth 100000 in
set_option maxHeartbeats 1600000 in
theorem eqChan_same (x0 : Int) (x1 : Int) (x2 : Int) (v3 u3 : Value) (r3 : List ByteArray) (v4 u4 : Value) (r4 : List PendingD) (x5 : Int) (v6 u6 : Value) (r6 : List EarlyD) (v7 u7 : Value) (r7 : List Int) (v8 u8 : Value) (r8 : List ByteArray) (w : World) (h3 : layStringS.rd w [v3] r3) (k3 : layStringS.rd w [u3] r3) (l3 : r3.length ≤ 100000000) (h4 : layPendingS.rd w [v4] r4) (k4 : layPendingS.rd w [u4] r4) (l4 : r4.length ≤ 100000000) (h6 : layEarlyS.rd w [v6] r6) (k6 : layEarlyS.rd w [u6] r6) (l6 : r6.length ≤ 100000000) (h7 : layIntS.rd w [v7] r7) (k7 : layIntS.rd w [u7] r7) (l7 : r7.length ≤ 100000000) (h8 : layStringS.rd w [v8] r8) (k8 : layStringS.rd w [u8] r8) (l8 : r8.length ≤ 100000000) :
    Calls Try.prog 10 #[.agg #[.int .i64 x0, .int .i64 x1, .int .i64 x2, v3, v4, .int .i64 x5, v6, v7, v8], .agg #[.int .i64 x0, .int .i64 x1, .int .i64 x2, u3, u4, .int .i64 x5, u6, u7, u8]] w fun e w' => e = .returned (.bool true) ∧ Below w.heap.size w w' := by
  have C_eqStringS_same := Lib.hid eqStringS_same
  have C_eqPendingS_same := Lib.hid eqPendingS_same
  have C_eqEarlyS_same := Lib.hid eqEarlyS_same
  have C_eqIntS_same := Lib.hid eqIntS_same
  have H3 := Lib.hid h3
  have K3 := Lib.hid k3
  have H4 := Lib.hid h4
  have K4 := Lib.hid k4
  have H6 := Lib.hid h6
  have K6 := Lib.hid k6
  have H7 := Lib.hid h7
  have K7 := Lib.hid k7
  have H8 := Lib.hid h8
  have K8 := Lib.hid k8
  clear h3 k3 h4 k4 h6 k6 h7 k7 h8 k8
  have A0 := (VarA.new w ChanT #[.int .i64 x0, .int .i64 x1, .int .i64 x2, v3, v4, .int .i64 x5, v6, v7, v8]).alloc (.cells #[.int .i64 x0, .int .i64 x1, .int .i64 x2, u3, u4, .int .i64 x5, u6, u7, u8] ChanT)
  have A1 := VarA.new (w.alloc (.cells #[.int .i64 x0, .int .i64 x1, .int .i64 x2, v3, v4, .int .i64 x5, v6, v7, v8] ChanT)) ChanT #[.int .i64 x0, .int .i64 x1, .int .i64 x2, u3, u4, .int .i64 x5, u6, u7, u8]
  have BY := ((Below.refl w.heap.size w).alloc (Nat.le_refl _) (.cells #[.int .i64 x0, .int .i64 x1, .int .i64 x2, v3, v4, .int .i64 x5, v6, v7, v8] ChanT)).alloc (by simp) (.cells #[.int .i64 x0, .int .i64 x1, .int .i64 x2, u3, u4, .int .i64 x5, u6, u7, u8] ChanT)
  have e1 : (w.alloc (.cells #[.int .i64 x0, .int .i64 x1, .int .i64 x2, v3, v4, .int .i64 x5, v6, v7, v8] ChanT)).heap.size = w.heap.size + 1 := by simp
  rw [e1] at A1
  clear e1
  have HA0 := Lib.hid A0
  have HA1 := Lib.hid A1
  have HBY := Lib.hid BY
  clear A0 A1 BY
  go_enter Try.func10, Try.ntmps10
  go_upto_region 1 with fail
  generalize (w.alloc (.cells #[.int .i64 x0, .int .i64 x1, .int .i64 x2, v3, v4, .int .i64 x5, v6, v7, v8] ChanT)).alloc (.cells #[.int .i64 x0, .int .i64 x1, .int .i64 x2, u3, u4, .int .i64 x5, u6, u7, u8] ChanT) = Y0 at *
  have a0 : Y0.cell? ⟨w.heap.size, 0, none⟩ = some (.int .i64 x0) := HA0.out.cell 0
  have b0 : Y0.cell? ⟨w.heap.size + 1, 0, none⟩ = some (.int .i64 x0) := HA1.out.cell 0
  have a1 : Y0.cell? ⟨w.heap.size, 1, none⟩ = some (.int .i64 x1) := HA0.out.cell 1
  have b1 : Y0.cell? ⟨w.heap.size + 1, 1, none⟩ = some (.int .i64 x1) := HA1.out.cell 1
  have a2 : Y0.cell? ⟨w.heap.size, 2, none⟩ = some (.int .i64 x2) := HA0.out.cell 2
  have b2 : Y0.cell? ⟨w.heap.size + 1, 2, none⟩ = some (.int .i64 x2) := HA1.out.cell 2
  have a3 : Y0.cell? ⟨w.heap.size, 3, none⟩ = some (v3) := HA0.out.cell 3
  have b3 : Y0.cell? ⟨w.heap.size + 1, 3, none⟩ = some (u3) := HA1.out.cell 3
  have a4 : Y0.cell? ⟨w.heap.size, 4, none⟩ = some (v4) := HA0.out.cell 4
  have b4 : Y0.cell? ⟨w.heap.size + 1, 4, none⟩ = some (u4) := HA1.out.cell 4
  have a5 : Y0.cell? ⟨w.heap.size, 5, none⟩ = some (.int .i64 x5) := HA0.out.cell 5
  have b5 : Y0.cell? ⟨w.heap.size + 1, 5, none⟩ = some (.int .i64 x5) := HA1.out.cell 5
  have a6 : Y0.cell? ⟨w.heap.size, 6, none⟩ = some (v6) := HA0.out.cell 6
  have b6 : Y0.cell? ⟨w.heap.size + 1, 6, none⟩ = some (u6) := HA1.out.cell 6
  have a7 : Y0.cell? ⟨w.heap.size, 7, none⟩ = some (v7) := HA0.out.cell 7
  have b7 : Y0.cell? ⟨w.heap.size + 1, 7, none⟩ = some (u7) := HA1.out.cell 7
  have a8 : Y0.cell? ⟨w.heap.size, 8, none⟩ = some (v8) := HA0.out.cell 8
  have b8 : Y0.cell? ⟨w.heap.size + 1, 8, none⟩ = some (u8) := HA1.out.cell 8
  go_wp2_with fail
  refine (C_eqStringS_same.out _ _ r3 l3 _ (layStringS.below H3.out HBY.out) (layStringS.below K3.out HBY.out)).mono ?_
  rintro e Y1 ⟨rfl, hb⟩
  replace HA0 := Lib.hid (HA0.out.next hb)
  replace HA1 := Lib.hid (HA1.out.next hb)
  replace HBY := Lib.hid (HBY.out.trans (hb.mono HBY.out.size))
  clear hb a0 b0 a1 b1 a2 b2 a3 b3 a4 b4 a5 b5 a6 b6 a7 b7 a8 b8
  have a0 : Y1.cell? ⟨w.heap.size, 0, none⟩ = some (.int .i64 x0) := HA0.out.cell 0
  have b0 : Y1.cell? ⟨w.heap.size + 1, 0, none⟩ = some (.int .i64 x0) := HA1.out.cell 0
  have a1 : Y1.cell? ⟨w.heap.size, 1, none⟩ = some (.int .i64 x1) := HA0.out.cell 1
  have b1 : Y1.cell? ⟨w.heap.size + 1, 1, none⟩ = some (.int .i64 x1) := HA1.out.cell 1
  have a2 : Y1.cell? ⟨w.heap.size, 2, none⟩ = some (.int .i64 x2) := HA0.out.cell 2
  have b2 : Y1.cell? ⟨w.heap.size + 1, 2, none⟩ = some (.int .i64 x2) := HA1.out.cell 2
  have a3 : Y1.cell? ⟨w.heap.size, 3, none⟩ = some (v3) := HA0.out.cell 3
  have b3 : Y1.cell? ⟨w.heap.size + 1, 3, none⟩ = some (u3) := HA1.out.cell 3
  have a4 : Y1.cell? ⟨w.heap.size, 4, none⟩ = some (v4) := HA0.out.cell 4
  have b4 : Y1.cell? ⟨w.heap.size + 1, 4, none⟩ = some (u4) := HA1.out.cell 4
  have a5 : Y1.cell? ⟨w.heap.size, 5, none⟩ = some (.int .i64 x5) := HA0.out.cell 5
  have b5 : Y1.cell? ⟨w.heap.size + 1, 5, none⟩ = some (.int .i64 x5) := HA1.out.cell 5
  have a6 : Y1.cell? ⟨w.heap.size, 6, none⟩ = some (v6) := HA0.out.cell 6
  have b6 : Y1.cell? ⟨w.heap.size + 1, 6, none⟩ = some (u6) := HA1.out.cell 6
  have a7 : Y1.cell? ⟨w.heap.size, 7, none⟩ = some (v7) := HA0.out.cell 7
  have b7 : Y1.cell? ⟨w.heap.size + 1, 7, none⟩ = some (u7) := HA1.out.cell 7
  have a8 : Y1.cell? ⟨w.heap.size, 8, none⟩ = some (v8) := HA0.out.cell 8
  have b8 : Y1.cell? ⟨w.heap.size + 1, 8, none⟩ = some (u8) := HA1.out.cell 8
  go_wp2_with fail
  refine (C_eqPendingS_same.out _ _ r4 l4 _ (layPendingS.below H4.out HBY.out) (layPendingS.below K4.out HBY.out)).mono ?_
  rintro e Y2 ⟨rfl, hb⟩
  replace HA0 := Lib.hid (HA0.out.next hb)
  replace HA1 := Lib.hid (HA1.out.next hb)
  replace HBY := Lib.hid (HBY.out.trans (hb.mono HBY.out.size))
  clear hb a0 b0 a1 b1 a2 b2 a3 b3 a4 b4 a5 b5 a6 b6 a7 b7 a8 b8
  have a0 : Y2.cell? ⟨w.heap.size, 0, none⟩ = some (.int .i64 x0) := HA0.out.cell 0
  have b0 : Y2.cell? ⟨w.heap.size + 1, 0, none⟩ = some (.int .i64 x0) := HA1.out.cell 0
  have a1 : Y2.cell? ⟨w.heap.size, 1, none⟩ = some (.int .i64 x1) := HA0.out.cell 1
  have b1 : Y2.cell? ⟨w.heap.size + 1, 1, none⟩ = some (.int .i64 x1) := HA1.out.cell 1
  have a2 : Y2.cell? ⟨w.heap.size, 2, none⟩ = some (.int .i64 x2) := HA0.out.cell 2
  have b2 : Y2.cell? ⟨w.heap.size + 1, 2, none⟩ = some (.int .i64 x2) := HA1.out.cell 2
  have a3 : Y2.cell? ⟨w.heap.size, 3, none⟩ = some (v3) := HA0.out.cell 3
  have b3 : Y2.cell? ⟨w.heap.size + 1, 3, none⟩ = some (u3) := HA1.out.cell 3
  have a4 : Y2.cell? ⟨w.heap.size, 4, none⟩ = some (v4) := HA0.out.cell 4
  have b4 : Y2.cell? ⟨w.heap.size + 1, 4, none⟩ = some (u4) := HA1.out.cell 4
  have a5 : Y2.cell? ⟨w.heap.size, 5, none⟩ = some (.int .i64 x5) := HA0.out.cell 5
  have b5 : Y2.cell? ⟨w.heap.size + 1, 5, none⟩ = some (.int .i64 x5) := HA1.out.cell 5
  have a6 : Y2.cell? ⟨w.heap.size, 6, none⟩ = some (v6) := HA0.out.cell 6
  have b6 : Y2.cell? ⟨w.heap.size + 1, 6, none⟩ = some (u6) := HA1.out.cell 6
  have a7 : Y2.cell? ⟨w.heap.size, 7, none⟩ = some (v7) := HA0.out.cell 7
  have b7 : Y2.cell? ⟨w.heap.size + 1, 7, none⟩ = some (u7) := HA1.out.cell 7
  have a8 : Y2.cell? ⟨w.heap.size, 8, none⟩ = some (v8) := HA0.out.cell 8
  have b8 : Y2.cell? ⟨w.heap.size + 1, 8, none⟩ = some (u8) := HA1.out.cell 8
  go_wp2_with fail
  refine (C_eqEarlyS_same.out _ _ r6 l6 _ (layEarlyS.below H6.out HBY.out) (layEarlyS.below K6.out HBY.out)).mono ?_
  rintro e Y3 ⟨rfl, hb⟩
  replace HA0 := Lib.hid (HA0.out.next hb)
  replace HA1 := Lib.hid (HA1.out.next hb)
  replace HBY := Lib.hid (HBY.out.trans (hb.mono HBY.out.size))
  clear hb a0 b0 a1 b1 a2 b2 a3 b3 a4 b4 a5 b5 a6 b6 a7 b7 a8 b8
  have a0 : Y3.cell? ⟨w.heap.size, 0, none⟩ = some (.int .i64 x0) := HA0.out.cell 0
  have b0 : Y3.cell? ⟨w.heap.size + 1, 0, none⟩ = some (.int .i64 x0) := HA1.out.cell 0
  have a1 : Y3.cell? ⟨w.heap.size, 1, none⟩ = some (.int .i64 x1) := HA0.out.cell 1
  have b1 : Y3.cell? ⟨w.heap.size + 1, 1, none⟩ = some (.int .i64 x1) := HA1.out.cell 1
  have a2 : Y3.cell? ⟨w.heap.size, 2, none⟩ = some (.int .i64 x2) := HA0.out.cell 2
  have b2 : Y3.cell? ⟨w.heap.size + 1, 2, none⟩ = some (.int .i64 x2) := HA1.out.cell 2
  have a3 : Y3.cell? ⟨w.heap.size, 3, none⟩ = some (v3) := HA0.out.cell 3
  have b3 : Y3.cell? ⟨w.heap.size + 1, 3, none⟩ = some (u3) := HA1.out.cell 3
  have a4 : Y3.cell? ⟨w.heap.size, 4, none⟩ = some (v4) := HA0.out.cell 4
  have b4 : Y3.cell? ⟨w.heap.size + 1, 4, none⟩ = some (u4) := HA1.out.cell 4
  have a5 : Y3.cell? ⟨w.heap.size, 5, none⟩ = some (.int .i64 x5) := HA0.out.cell 5
  have b5 : Y3.cell? ⟨w.heap.size + 1, 5, none⟩ = some (.int .i64 x5) := HA1.out.cell 5
  have a6 : Y3.cell? ⟨w.heap.size, 6, none⟩ = some (v6) := HA0.out.cell 6
  have b6 : Y3.cell? ⟨w.heap.size + 1, 6, none⟩ = some (u6) := HA1.out.cell 6
  have a7 : Y3.cell? ⟨w.heap.size, 7, none⟩ = some (v7) := HA0.out.cell 7
  have b7 : Y3.cell? ⟨w.heap.size + 1, 7, none⟩ = some (u7) := HA1.out.cell 7
  have a8 : Y3.cell? ⟨w.heap.size, 8, none⟩ = some (v8) := HA0.out.cell 8
  have b8 : Y3.cell? ⟨w.heap.size + 1, 8, none⟩ = some (u8) := HA1.out.cell 8
  go_wp2_with fail
  refine (C_eqIntS_same.out _ _ r7 l7 _ (layIntS.below H7.out HBY.out) (layIntS.below K7.out HBY.out)).mono ?_
  rintro e Y4 ⟨rfl, hb⟩
  replace HA0 := Lib.hid (HA0.out.next hb)
  replace HA1 := Lib.hid (HA1.out.next hb)
  replace HBY := Lib.hid (HBY.out.trans (hb.mono HBY.out.size))
  clear hb a0 b0 a1 b1 a2 b2 a3 b3 a4 b4 a5 b5 a6 b6 a7 b7 a8 b8
  have a0 : Y4.cell? ⟨w.heap.size, 0, none⟩ = some (.int .i64 x0) := HA0.out.cell 0
  have b0 : Y4.cell? ⟨w.heap.size + 1, 0, none⟩ = some (.int .i64 x0) := HA1.out.cell 0
  have a1 : Y4.cell? ⟨w.heap.size, 1, none⟩ = some (.int .i64 x1) := HA0.out.cell 1
  have b1 : Y4.cell? ⟨w.heap.size + 1, 1, none⟩ = some (.int .i64 x1) := HA1.out.cell 1
  have a2 : Y4.cell? ⟨w.heap.size, 2, none⟩ = some (.int .i64 x2) := HA0.out.cell 2
  have b2 : Y4.cell? ⟨w.heap.size + 1, 2, none⟩ = some (.int .i64 x2) := HA1.out.cell 2
  have a3 : Y4.cell? ⟨w.heap.size, 3, none⟩ = some (v3) := HA0.out.cell 3
  have b3 : Y4.cell? ⟨w.heap.size + 1, 3, none⟩ = some (u3) := HA1.out.cell 3
  have a4 : Y4.cell? ⟨w.heap.size, 4, none⟩ = some (v4) := HA0.out.cell 4
  have b4 : Y4.cell? ⟨w.heap.size + 1, 4, none⟩ = some (u4) := HA1.out.cell 4
  have a5 : Y4.cell? ⟨w.heap.size, 5, none⟩ = some (.int .i64 x5) := HA0.out.cell 5
  have b5 : Y4.cell? ⟨w.heap.size + 1, 5, none⟩ = some (.int .i64 x5) := HA1.out.cell 5
  have a6 : Y4.cell? ⟨w.heap.size, 6, none⟩ = some (v6) := HA0.out.cell 6
  have b6 : Y4.cell? ⟨w.heap.size + 1, 6, none⟩ = some (u6) := HA1.out.cell 6
  have a7 : Y4.cell? ⟨w.heap.size, 7, none⟩ = some (v7) := HA0.out.cell 7
  have b7 : Y4.cell? ⟨w.heap.size + 1, 7, none⟩ = some (u7) := HA1.out.cell 7
  have a8 : Y4.cell? ⟨w.heap.size, 8, none⟩ = some (v8) := HA0.out.cell 8
  have b8 : Y4.cell? ⟨w.heap.size + 1, 8, none⟩ = some (u8) := HA1.out.cell 8
  go_wp2_with fail
  refine (C_eqStringS_same.out _ _ r8 l8 _ (layStringS.below H8.out HBY.out) (layStringS.below K8.out HBY.out)).mono ?_
  rintro e Y5 ⟨rfl, hb⟩
  replace HA0 := Lib.hid (HA0.out.next hb)
  replace HA1 := Lib.hid (HA1.out.next hb)
  replace HBY := Lib.hid (HBY.out.trans (hb.mono HBY.out.size))
  clear hb a0 b0 a1 b1 a2 b2 a3 b3 a4 b4 a5 b5 a6 b6 a7 b7 a8 b8
  have a0 : Y5.cell? ⟨w.heap.size, 0, none⟩ = some (.int .i64 x0) := HA0.out.cell 0
  have b0 : Y5.cell? ⟨w.heap.size + 1, 0, none⟩ = some (.int .i64 x0) := HA1.out.cell 0
  have a1 : Y5.cell? ⟨w.heap.size, 1, none⟩ = some (.int .i64 x1) := HA0.out.cell 1
  have b1 : Y5.cell? ⟨w.heap.size + 1, 1, none⟩ = some (.int .i64 x1) := HA1.out.cell 1
  have a2 : Y5.cell? ⟨w.heap.size, 2, none⟩ = some (.int .i64 x2) := HA0.out.cell 2
  have b2 : Y5.cell? ⟨w.heap.size + 1, 2, none⟩ = some (.int .i64 x2) := HA1.out.cell 2
  have a3 : Y5.cell? ⟨w.heap.size, 3, none⟩ = some (v3) := HA0.out.cell 3
  have b3 : Y5.cell? ⟨w.heap.size + 1, 3, none⟩ = some (u3) := HA1.out.cell 3
  have a4 : Y5.cell? ⟨w.heap.size, 4, none⟩ = some (v4) := HA0.out.cell 4
  have b4 : Y5.cell? ⟨w.heap.size + 1, 4, none⟩ = some (u4) := HA1.out.cell 4
  have a5 : Y5.cell? ⟨w.heap.size, 5, none⟩ = some (.int .i64 x5) := HA0.out.cell 5
  have b5 : Y5.cell? ⟨w.heap.size + 1, 5, none⟩ = some (.int .i64 x5) := HA1.out.cell 5
  have a6 : Y5.cell? ⟨w.heap.size, 6, none⟩ = some (v6) := HA0.out.cell 6
  have b6 : Y5.cell? ⟨w.heap.size + 1, 6, none⟩ = some (u6) := HA1.out.cell 6
  have a7 : Y5.cell? ⟨w.heap.size, 7, none⟩ = some (v7) := HA0.out.cell 7
  have b7 : Y5.cell? ⟨w.heap.size + 1, 7, none⟩ = some (u7) := HA1.out.cell 7
  have a8 : Y5.cell? ⟨w.heap.size, 8, none⟩ = some (v8) := HA0.out.cell 8
  have b8 : Y5.cell? ⟨w.heap.size + 1, 8, none⟩ = some (u8) := HA1.out.cell 8
  go_wp2_with fail
  go_ret
  exact ⟨rfl, HBY.out⟩

set_option maxRecDepth 100000 in
set_option maxHeartbeats 3200000 in
theorem markChan_any (x0 : Int) (x1 : Int) (x2 : Int) (v3 : Value) (r3 : List ByteArray) (v4 : Value) (r4 : List PendingD) (x5 : Int) (v6 : Value) (r6 : List EarlyD) (v7 : Value) (r7 : List Int) (v8 : Value) (r8 : List ByteArray) (b : Nat) (f3 f4 f6 f7 f8 : List Nat) (l3 : r3.length ≤ 10000000) (l4 : r4.length ≤ 10000000) (l6 : r6.length ≤ 10000000) (l7 : r7.length ≤ 10000000) (l8 : r8.length ≤ 10000000) (k : Int) (hk0 : 1 ≤ k) (hk1 : k ≤ 100000000) (w : World) (hd : (f3 ++ (f4 ++ (f6 ++ (f7 ++ f8)))).Nodup) (o3 : layStringS.own w b f3 [v3] r3) (o4 : layPendingS.own w b f4 [v4] r4) (o6 : layEarlyS.own w b f6 [v6] r6) (o7 : layIntS.own w b f7 [v7] r7) (o8 : layStringS.own w b f8 [v8] r8) :
    Calls Try.prog 11 #[.agg #[.int .i64 x0, .int .i64 x1, .int .i64 x2, v3, v4, .int .i64 x5, v6, v7, v8], .int .i64 k] w fun e w' => e = .returned (.int .i64 (k + 1 * (r3.length : Int) + 4 * (r4.length : Int) + 2 * (r6.length : Int) + 1 * (r7.length : Int) + 1 * (r8.length : Int))) ∧ (layStringS.own w' b f3 [v3] (layStringS.mark (k) r3).1 ∧ layPendingS.own w' b f4 [v4] (layPendingS.mark (k + 1 * (r3.length : Int)) r4).1 ∧ layEarlyS.own w' b f6 [v6] (layEarlyS.mark (k + 1 * (r3.length : Int) + 4 * (r4.length : Int)) r6).1 ∧ layIntS.own w' b f7 [v7] (layIntS.mark (k + 1 * (r3.length : Int) + 4 * (r4.length : Int) + 2 * (r6.length : Int)) r7).1 ∧ layStringS.own w' b f8 [v8] (layStringS.mark (k + 1 * (r3.length : Int) + 4 * (r4.length : Int) + 2 * (r6.length : Int) + 1 * (r7.length : Int)) r8).1) ∧ Chg (f3 ++ (f4 ++ (f6 ++ (f7 ++ f8)))) w w' := by
  obtain ⟨a3, p3, rfl⟩ := rows_form (layStringS.read o3)
  obtain ⟨a4, p4, rfl⟩ := rows_form (layPendingS.read o4)
  obtain ⟨a6, p6, rfl⟩ := rows_form (layEarlyS.read o6)
  obtain ⟨a7, p7, rfl⟩ := rows_form (layIntS.read o7)
  obtain ⟨a8, p8, rfl⟩ := rows_form (layStringS.read o8)
  have O3 := Lib.hid (layStringS.next o3 ((Below.refl _ _).alloc (Nat.le_refl _) (.cells #[.int .i64 x0, .int .i64 x1, .int .i64 x2, .slice a3 r3.length p3, .slice a4 r4.length p4, .int .i64 x5, .slice a6 r6.length p6, .slice a7 r7.length p7, .slice a8 r8.length p8] ChanT)))
  have O4 := Lib.hid (layPendingS.next o4 ((Below.refl _ _).alloc (Nat.le_refl _) (.cells #[.int .i64 x0, .int .i64 x1, .int .i64 x2, .slice a3 r3.length p3, .slice a4 r4.length p4, .int .i64 x5, .slice a6 r6.length p6, .slice a7 r7.length p7, .slice a8 r8.length p8] ChanT)))
  have O6 := Lib.hid (layEarlyS.next o6 ((Below.refl _ _).alloc (Nat.le_refl _) (.cells #[.int .i64 x0, .int .i64 x1, .int .i64 x2, .slice a3 r3.length p3, .slice a4 r4.length p4, .int .i64 x5, .slice a6 r6.length p6, .slice a7 r7.length p7, .slice a8 r8.length p8] ChanT)))
  have O7 := Lib.hid (layIntS.next o7 ((Below.refl _ _).alloc (Nat.le_refl _) (.cells #[.int .i64 x0, .int .i64 x1, .int .i64 x2, .slice a3 r3.length p3, .slice a4 r4.length p4, .int .i64 x5, .slice a6 r6.length p6, .slice a7 r7.length p7, .slice a8 r8.length p8] ChanT)))
  have O8 := Lib.hid (layStringS.next o8 ((Below.refl _ _).alloc (Nat.le_refl _) (.cells #[.int .i64 x0, .int .i64 x1, .int .i64 x2, .slice a3 r3.length p3, .slice a4 r4.length p4, .int .i64 x5, .slice a6 r6.length p6, .slice a7 r7.length p7, .slice a8 r8.length p8] ChanT)))
  have A0 := Lib.hid (VarA.new w ChanT #[.int .i64 x0, .int .i64 x1, .int .i64 x2, .slice a3 r3.length p3, .slice a4 r4.length p4, .int .i64 x5, .slice a6 r6.length p6, .slice a7 r7.length p7, .slice a8 r8.length p8])
  have G0 := Lib.hid (Below.chg ((Below.refl w.heap.size w).alloc (Nat.le_refl _) (.cells #[.int .i64 x0, .int .i64 x1, .int .i64 x2, .slice a3 r3.length p3, .slice a4 r4.length p4, .int .i64 x5, .slice a6 r6.length p6, .slice a7 r7.length p7, .slice a8 r8.length p8] ChanT)) (f3 ++ (f4 ++ (f6 ++ (f7 ++ f8)))))
  have LW3 : Hid (∀ a ∈ f3, a < w.heap.size) := fun a ha => (layStringS.blocks o3 a ha).2
  have LW4 : Hid (∀ a ∈ f4, a < w.heap.size) := fun a ha => (layPendingS.blocks o4 a ha).2
  have LW6 : Hid (∀ a ∈ f6, a < w.heap.size) := fun a ha => (layEarlyS.blocks o6 a ha).2
  have LW7 : Hid (∀ a ∈ f7, a < w.heap.size) := fun a ha => (layIntS.blocks o7 a ha).2
  have LW8 : Hid (∀ a ∈ f8, a < w.heap.size) := fun a ha => (layStringS.blocks o8 a ha).2
  have nd3 := List.nodup_append.1 hd
  have N3 := Lib.hid nd3.1
  have D3_4 : Hid (∀ a ∈ f3, a ∉ f4) := fun a ha hb => nd3.2.2 a ha a (List.mem_append_left _ hb) rfl
  have D3_6 : Hid (∀ a ∈ f3, a ∉ f6) := fun a ha hb => nd3.2.2 a ha a (List.mem_append_right _ (List.mem_append_left _ hb)) rfl
  have D3_7 : Hid (∀ a ∈ f3, a ∉ f7) := fun a ha hb => nd3.2.2 a ha a (List.mem_append_right _ (List.mem_append_right _ (List.mem_append_left _ hb))) rfl
  have D3_8 : Hid (∀ a ∈ f3, a ∉ f8) := fun a ha hb => nd3.2.2 a ha a (List.mem_append_right _ (List.mem_append_right _ (List.mem_append_right _ (hb)))) rfl
  have nd4 := List.nodup_append.1 nd3.2.1
  have N4 := Lib.hid nd4.1
  have D4_6 : Hid (∀ a ∈ f4, a ∉ f6) := fun a ha hb => nd4.2.2 a ha a (List.mem_append_left _ hb) rfl
  have D4_7 : Hid (∀ a ∈ f4, a ∉ f7) := fun a ha hb => nd4.2.2 a ha a (List.mem_append_right _ (List.mem_append_left _ hb)) rfl
  have D4_8 : Hid (∀ a ∈ f4, a ∉ f8) := fun a ha hb => nd4.2.2 a ha a (List.mem_append_right _ (List.mem_append_right _ (hb))) rfl
  have nd6 := List.nodup_append.1 nd4.2.1
  have N6 := Lib.hid nd6.1
  have D6_7 : Hid (∀ a ∈ f6, a ∉ f7) := fun a ha hb => nd6.2.2 a ha a (List.mem_append_left _ hb) rfl
  have D6_8 : Hid (∀ a ∈ f6, a ∉ f8) := fun a ha hb => nd6.2.2 a ha a (List.mem_append_right _ (hb)) rfl
  have nd7 := List.nodup_append.1 nd6.2.1
  have N7 := Lib.hid nd7.1
  have D7_8 : Hid (∀ a ∈ f7, a ∉ f8) := fun a ha hb => nd7.2.2 a ha a (hb) rfl
  have N8 := Lib.hid nd7.2.1
  clear hd o3 o4 o6 o7 o8 nd3 nd4 nd6 nd7
  go_enter Try.func11, Try.ntmps11
  go_upto_region 1 with fail
  generalize w.alloc (.cells #[.int .i64 x0, .int .i64 x1, .int .i64 x2, .slice a3 r3.length p3, .slice a4 r4.length p4, .int .i64 x5, .slice a6 r6.length p6, .slice a7 r7.length p7, .slice a8 r8.length p8] ChanT) = Y0 at *
  have c3 : Y0.cell? ⟨w.heap.size, 3, none⟩ = some (.slice a3 r3.length p3) := A0.out.cell 3
  have K3 := Lib.hid (markStringS_any (.slice a3 r3.length p3) r3 b f3 k (by omega) (by omega) (by omega) Y0 N3.out O3.out)
  go_wp2_with fail
  refine (K3.out).mono ?_
  rintro e Y1 ⟨rfl, om3, hc⟩
  have M3 := Lib.hid om3
  replace O4 := Lib.hid (layPendingS.chg O4.out hc (fun a ha hb => D3_4.out a hb ha))
  replace O6 := Lib.hid (layEarlyS.chg O6.out hc (fun a ha hb => D3_6.out a hb ha))
  replace O7 := Lib.hid (layIntS.chg O7.out hc (fun a ha hb => D3_7.out a hb ha))
  replace O8 := Lib.hid (layStringS.chg O8.out hc (fun a ha hb => D3_8.out a hb ha))
  replace A0 : Hid (VarA w.heap.size ChanT #[.int .i64 x0, .int .i64 x1, .int .i64 x2, .slice a3 r3.length p3, .slice a4 r4.length p4, .int .i64 x5, .slice a6 r6.length p6, .slice a7 r7.length p7, .slice a8 r8.length p8] Y1) := ⟨by rw [hc.block _ A0.out.lt (fun e => by have := LW3.out _ e; omega)]; exact A0.out.row⟩
  replace G0 := Lib.hid (G0.out.trans (hc.sub (fun a ha => List.mem_append_left _ ha)))
  clear hc om3 c3 K3
  have c4 : Y1.cell? ⟨w.heap.size, 4, none⟩ = some (.slice a4 r4.length p4) := A0.out.cell 4
  obtain ⟨q4, hq4, q0_4, q1_4⟩ : ∃ q : Int, k + 1 * (r3.length : Int) = q ∧ 1 ≤ q ∧ q ≤ 110000000 := ⟨_, rfl, by omega, by omega⟩
  rw [hq4]
  have HQ4 := Lib.hid hq4
  clear hq4
  have K4 := Lib.hid (markPendingS_any (.slice a4 r4.length p4) r4 b f4 q4 (by omega) (by omega) (by omega) Y1 N4.out O4.out)
  go_wp2_with fail
  refine (K4.out).mono ?_
  rintro e Y2 ⟨rfl, om4, hc⟩
  have M4 := Lib.hid om4
  replace M3 := Lib.hid (layStringS.chg M3.out hc D3_4.out)
  replace O6 := Lib.hid (layEarlyS.chg O6.out hc (fun a ha hb => D4_6.out a hb ha))
  replace O7 := Lib.hid (layIntS.chg O7.out hc (fun a ha hb => D4_7.out a hb ha))
  replace O8 := Lib.hid (layStringS.chg O8.out hc (fun a ha hb => D4_8.out a hb ha))
  replace A0 : Hid (VarA w.heap.size ChanT #[.int .i64 x0, .int .i64 x1, .int .i64 x2, .slice a3 r3.length p3, .slice a4 r4.length p4, .int .i64 x5, .slice a6 r6.length p6, .slice a7 r7.length p7, .slice a8 r8.length p8] Y2) := ⟨by rw [hc.block _ A0.out.lt (fun e => by have := LW4.out _ e; omega)]; exact A0.out.row⟩
  replace G0 := Lib.hid (G0.out.trans (hc.sub (fun a ha => List.mem_append_right _ (List.mem_append_left _ ha))))
  clear hc om4 c4 K4
  have c6 : Y2.cell? ⟨w.heap.size, 6, none⟩ = some (.slice a6 r6.length p6) := A0.out.cell 6
  obtain ⟨q6, hq6, q0_6, q1_6⟩ : ∃ q : Int, q4 + 4 * (r4.length : Int) = q ∧ 1 ≤ q ∧ q ≤ 150000000 := ⟨_, rfl, by omega, by omega⟩
  rw [hq6]
  have HQ6 := Lib.hid hq6
  clear hq6
  have K6 := Lib.hid (markEarlyS_any (.slice a6 r6.length p6) r6 b f6 q6 (by omega) (by omega) (by omega) Y2 N6.out O6.out)
  go_wp2_with fail
  refine (K6.out).mono ?_
  rintro e Y3 ⟨rfl, om6, hc⟩
  have M6 := Lib.hid om6
  replace M3 := Lib.hid (layStringS.chg M3.out hc D3_6.out)
  replace M4 := Lib.hid (layPendingS.chg M4.out hc D4_6.out)
  replace O7 := Lib.hid (layIntS.chg O7.out hc (fun a ha hb => D6_7.out a hb ha))
  replace O8 := Lib.hid (layStringS.chg O8.out hc (fun a ha hb => D6_8.out a hb ha))
  replace A0 : Hid (VarA w.heap.size ChanT #[.int .i64 x0, .int .i64 x1, .int .i64 x2, .slice a3 r3.length p3, .slice a4 r4.length p4, .int .i64 x5, .slice a6 r6.length p6, .slice a7 r7.length p7, .slice a8 r8.length p8] Y3) := ⟨by rw [hc.block _ A0.out.lt (fun e => by have := LW6.out _ e; omega)]; exact A0.out.row⟩
  replace G0 := Lib.hid (G0.out.trans (hc.sub (fun a ha => List.mem_append_right _ (List.mem_append_right _ (List.mem_append_left _ ha)))))
  clear hc om6 c6 K6
  have c7 : Y3.cell? ⟨w.heap.size, 7, none⟩ = some (.slice a7 r7.length p7) := A0.out.cell 7
  obtain ⟨q7, hq7, q0_7, q1_7⟩ : ∃ q : Int, q6 + 2 * (r6.length : Int) = q ∧ 1 ≤ q ∧ q ≤ 170000000 := ⟨_, rfl, by omega, by omega⟩
  rw [hq7]
  have HQ7 := Lib.hid hq7
  clear hq7
  have K7 := Lib.hid (markIntL_any (.slice a7 r7.length p7) r7 b f7 q7 (by omega) (by omega) (by omega) Y3 N7.out O7.out)
  go_wp2_with fail
  refine (K7.out).mono ?_
  rintro e Y4 ⟨rfl, om7, hc⟩
  have M7 := Lib.hid om7
  replace M3 := Lib.hid (layStringS.chg M3.out hc D3_7.out)
  replace M4 := Lib.hid (layPendingS.chg M4.out hc D4_7.out)
  replace M6 := Lib.hid (layEarlyS.chg M6.out hc D6_7.out)
  replace O8 := Lib.hid (layStringS.chg O8.out hc (fun a ha hb => D7_8.out a hb ha))
  replace A0 : Hid (VarA w.heap.size ChanT #[.int .i64 x0, .int .i64 x1, .int .i64 x2, .slice a3 r3.length p3, .slice a4 r4.length p4, .int .i64 x5, .slice a6 r6.length p6, .slice a7 r7.length p7, .slice a8 r8.length p8] Y4) := ⟨by rw [hc.block _ A0.out.lt (fun e => by have := LW7.out _ e; omega)]; exact A0.out.row⟩
  replace G0 := Lib.hid (G0.out.trans (hc.sub (fun a ha => List.mem_append_right _ (List.mem_append_right _ (List.mem_append_right _ (List.mem_append_left _ ha))))))
  clear hc om7 c7 K7
  have c8 : Y4.cell? ⟨w.heap.size, 8, none⟩ = some (.slice a8 r8.length p8) := A0.out.cell 8
  obtain ⟨q8, hq8, q0_8, q1_8⟩ : ∃ q : Int, q7 + 1 * (r7.length : Int) = q ∧ 1 ≤ q ∧ q ≤ 180000000 := ⟨_, rfl, by omega, by omega⟩
  rw [hq8]
  have HQ8 := Lib.hid hq8
  clear hq8
  have K8 := Lib.hid (markStringS_any (.slice a8 r8.length p8) r8 b f8 q8 (by omega) (by omega) (by omega) Y4 N8.out O8.out)
  go_wp2_with fail
  refine (K8.out).mono ?_
  rintro e Y5 ⟨rfl, om8, hc⟩
  have M8 := Lib.hid om8
  replace M3 := Lib.hid (layStringS.chg M3.out hc D3_8.out)
  replace M4 := Lib.hid (layPendingS.chg M4.out hc D4_8.out)
  replace M6 := Lib.hid (layEarlyS.chg M6.out hc D6_8.out)
  replace M7 := Lib.hid (layIntS.chg M7.out hc D7_8.out)
  replace A0 : Hid (VarA w.heap.size ChanT #[.int .i64 x0, .int .i64 x1, .int .i64 x2, .slice a3 r3.length p3, .slice a4 r4.length p4, .int .i64 x5, .slice a6 r6.length p6, .slice a7 r7.length p7, .slice a8 r8.length p8] Y5) := ⟨by rw [hc.block _ A0.out.lt (fun e => by have := LW8.out _ e; omega)]; exact A0.out.row⟩
  replace G0 := Lib.hid (G0.out.trans (hc.sub (fun a ha => List.mem_append_right _ (List.mem_append_right _ (List.mem_append_right _ (List.mem_append_right _ (ha)))))))
  clear hc om8 c8 K8
  go_wp2_with fail
  go_ret
  have y4 := HQ4.out
  have y6 := HQ6.out
  have y7 := HQ7.out
  have y8 := HQ8.out
  have e4 : q4 = k + 1 * (r3.length : Int) := by omega
  rw [e4] at M4
  have e6 : q6 = k + 1 * (r3.length : Int) + 4 * (r4.length : Int) := by omega
  rw [e6] at M6
  have e7 : q7 = k + 1 * (r3.length : Int) + 4 * (r4.length : Int) + 2 * (r6.length : Int) := by omega
  rw [e7] at M7
  have e8 : q8 = k + 1 * (r3.length : Int) + 4 * (r4.length : Int) + 2 * (r6.length : Int) + 1 * (r7.length : Int) := by omega
  rw [e8] at M8
  have e9 : q8 + (r8.length : Int) = k + 1 * (r3.length : Int) + 4 * (r4.length : Int) + 2 * (r6.length : Int) + 1 * (r7.length : Int) + 1 * (r8.length : Int) := by omega
  exact ⟨ret_int e9, ⟨M3.out, M4.out, M6.out, M7.out, M8.out⟩, G0.out⟩

set_option maxRecDepth 100000 in
set_option maxHeartbeats 3200000 in
theorem heldChan_any (x0 : Int) (x1 : Int) (x2 : Int) (v3 : Value) (r3 : List ByteArray) (v4 : Value) (r4 : List PendingD) (x5 : Int) (v6 : Value) (r6 : List EarlyD) (v7 : Value) (r7 : List Int) (v8 : Value) (r8 : List ByteArray) (l3 : r3.length ≤ 10000000) (l4 : r4.length ≤ 10000000) (l6 : r6.length ≤ 10000000) (l7 : r7.length ≤ 10000000) (l8 : r8.length ≤ 10000000) (k : Int) (hk0 : 1 ≤ k) (hk1 : k ≤ 100000000) (w : World) (h3 : layStringS.rd w [v3] (layStringS.mark (k) r3).1) (h4 : layPendingS.rd w [v4] (layPendingS.mark (k + 1 * (r3.length : Int)) r4).1) (h6 : layEarlyS.rd w [v6] (layEarlyS.mark (k + 1 * (r3.length : Int) + 4 * (r4.length : Int)) r6).1) (h7 : layIntS.rd w [v7] (layIntS.mark (k + 1 * (r3.length : Int) + 4 * (r4.length : Int) + 2 * (r6.length : Int)) r7).1) (h8 : layStringS.rd w [v8] (layStringS.mark (k + 1 * (r3.length : Int) + 4 * (r4.length : Int) + 2 * (r6.length : Int) + 1 * (r7.length : Int)) r8).1) :
    Calls Try.prog 12 #[.agg #[.int .i64 x0, .int .i64 x1, .int .i64 x2, v3, v4, .int .i64 x5, v6, v7, v8], .int .i64 k] w fun e w' => e = .returned (.int .i64 (k + 1 * (r3.length : Int) + 4 * (r4.length : Int) + 2 * (r6.length : Int) + 1 * (r7.length : Int) + 1 * (r8.length : Int))) ∧ Below w.heap.size w w' := by
  have hm3 := mkAll_length layString r3 (k)
  obtain ⟨a3, p3, hv3⟩ := rows_form h3
  rw [show (layStringS.mark (k) r3).1.length = r3.length from hm3] at hv3
  subst hv3
  have hm4 := mkAll_length layPending r4 (k + 1 * (r3.length : Int))
  obtain ⟨a4, p4, hv4⟩ := rows_form h4
  rw [show (layPendingS.mark (k + 1 * (r3.length : Int)) r4).1.length = r4.length from hm4] at hv4
  subst hv4
  have hm6 := mkAll_length layEarly r6 (k + 1 * (r3.length : Int) + 4 * (r4.length : Int))
  obtain ⟨a6, p6, hv6⟩ := rows_form h6
  rw [show (layEarlyS.mark (k + 1 * (r3.length : Int) + 4 * (r4.length : Int)) r6).1.length = r6.length from hm6] at hv6
  subst hv6
  have hm7 := mkAll_length Lay.int r7 (k + 1 * (r3.length : Int) + 4 * (r4.length : Int) + 2 * (r6.length : Int))
  obtain ⟨a7, p7, hv7⟩ := rows_form h7
  rw [show (layIntS.mark (k + 1 * (r3.length : Int) + 4 * (r4.length : Int) + 2 * (r6.length : Int)) r7).1.length = r7.length from hm7] at hv7
  subst hv7
  have hm8 := mkAll_length layString r8 (k + 1 * (r3.length : Int) + 4 * (r4.length : Int) + 2 * (r6.length : Int) + 1 * (r7.length : Int))
  obtain ⟨a8, p8, hv8⟩ := rows_form h8
  rw [show (layStringS.mark (k + 1 * (r3.length : Int) + 4 * (r4.length : Int) + 2 * (r6.length : Int) + 1 * (r7.length : Int)) r8).1.length = r8.length from hm8] at hv8
  subst hv8
  have H3 := Lib.hid (layStringS.below h3 ((Below.refl _ _).alloc (Nat.le_refl _) (.cells #[.int .i64 x0, .int .i64 x1, .int .i64 x2, .slice a3 r3.length p3, .slice a4 r4.length p4, .int .i64 x5, .slice a6 r6.length p6, .slice a7 r7.length p7, .slice a8 r8.length p8] ChanT)))
  have H4 := Lib.hid (layPendingS.below h4 ((Below.refl _ _).alloc (Nat.le_refl _) (.cells #[.int .i64 x0, .int .i64 x1, .int .i64 x2, .slice a3 r3.length p3, .slice a4 r4.length p4, .int .i64 x5, .slice a6 r6.length p6, .slice a7 r7.length p7, .slice a8 r8.length p8] ChanT)))
  have H6 := Lib.hid (layEarlyS.below h6 ((Below.refl _ _).alloc (Nat.le_refl _) (.cells #[.int .i64 x0, .int .i64 x1, .int .i64 x2, .slice a3 r3.length p3, .slice a4 r4.length p4, .int .i64 x5, .slice a6 r6.length p6, .slice a7 r7.length p7, .slice a8 r8.length p8] ChanT)))
  have H7 := Lib.hid (layIntS.below h7 ((Below.refl _ _).alloc (Nat.le_refl _) (.cells #[.int .i64 x0, .int .i64 x1, .int .i64 x2, .slice a3 r3.length p3, .slice a4 r4.length p4, .int .i64 x5, .slice a6 r6.length p6, .slice a7 r7.length p7, .slice a8 r8.length p8] ChanT)))
  have H8 := Lib.hid (layStringS.below h8 ((Below.refl _ _).alloc (Nat.le_refl _) (.cells #[.int .i64 x0, .int .i64 x1, .int .i64 x2, .slice a3 r3.length p3, .slice a4 r4.length p4, .int .i64 x5, .slice a6 r6.length p6, .slice a7 r7.length p7, .slice a8 r8.length p8] ChanT)))
  have A0 := Lib.hid (VarA.new w ChanT #[.int .i64 x0, .int .i64 x1, .int .i64 x2, .slice a3 r3.length p3, .slice a4 r4.length p4, .int .i64 x5, .slice a6 r6.length p6, .slice a7 r7.length p7, .slice a8 r8.length p8])
  have BY := Lib.hid ((Below.refl w.heap.size w).alloc (Nat.le_refl _) (.cells #[.int .i64 x0, .int .i64 x1, .int .i64 x2, .slice a3 r3.length p3, .slice a4 r4.length p4, .int .i64 x5, .slice a6 r6.length p6, .slice a7 r7.length p7, .slice a8 r8.length p8] ChanT))
  clear h3 hm3 h4 hm4 h6 hm6 h7 hm7 h8 hm8
  go_enter Try.func12, Try.ntmps12
  go_upto_region 1 with fail
  generalize w.alloc (.cells #[.int .i64 x0, .int .i64 x1, .int .i64 x2, .slice a3 r3.length p3, .slice a4 r4.length p4, .int .i64 x5, .slice a6 r6.length p6, .slice a7 r7.length p7, .slice a8 r8.length p8] ChanT) = Y0 at *
  have c3 : Y0.cell? ⟨w.heap.size, 3, none⟩ = some (.slice a3 r3.length p3) := A0.out.cell 3
  have P3 : ¬ (k + 1 * (r3.length : Int) < 0) := by omega
  have K3 := Lib.hid (heldStringS_any (.slice a3 r3.length p3) r3 k (by omega) (by omega) (by omega) Y0 H3.out)
  go_wp2_with fail
  refine (K3.out).mono ?_
  rintro e Y1 ⟨rfl, hb⟩
  replace H4 := Lib.hid (layPendingS.below H4.out hb)
  replace H6 := Lib.hid (layEarlyS.below H6.out hb)
  replace H7 := Lib.hid (layIntS.below H7.out hb)
  replace H8 := Lib.hid (layStringS.below H8.out hb)
  replace A0 := Lib.hid (A0.out.next hb)
  replace BY := Lib.hid (BY.out.trans (hb.mono BY.out.size))
  clear hb c3 K3
  have c4 : Y1.cell? ⟨w.heap.size, 4, none⟩ = some (.slice a4 r4.length p4) := A0.out.cell 4
  obtain ⟨q4, hq4, q0_4, q1_4⟩ : ∃ q : Int, k + 1 * (r3.length : Int) = q ∧ 1 ≤ q ∧ q ≤ 110000000 := ⟨_, rfl, by omega, by omega⟩
  rw [hq4]
  have HQ4 := Lib.hid hq4
  have e4 : k + 1 * (r3.length : Int) = q4 := by
    have y4 := HQ4.out
    omega
  rw [e4] at H4
  clear hq4 e4
  have P4 : ¬ (q4 + 4 * (r4.length : Int) < 0) := by omega
  have K4 := Lib.hid (heldPendingS_any (.slice a4 r4.length p4) r4 q4 (by omega) (by omega) (by omega) Y1 H4.out)
  go_wp2_with fail
  refine (K4.out).mono ?_
  rintro e Y2 ⟨rfl, hb⟩
  replace H6 := Lib.hid (layEarlyS.below H6.out hb)
  replace H7 := Lib.hid (layIntS.below H7.out hb)
  replace H8 := Lib.hid (layStringS.below H8.out hb)
  replace A0 := Lib.hid (A0.out.next hb)
  replace BY := Lib.hid (BY.out.trans (hb.mono BY.out.size))
  clear hb c4 K4
  have c6 : Y2.cell? ⟨w.heap.size, 6, none⟩ = some (.slice a6 r6.length p6) := A0.out.cell 6
  obtain ⟨q6, hq6, q0_6, q1_6⟩ : ∃ q : Int, q4 + 4 * (r4.length : Int) = q ∧ 1 ≤ q ∧ q ≤ 150000000 := ⟨_, rfl, by omega, by omega⟩
  rw [hq6]
  have HQ6 := Lib.hid hq6
  have e6 : k + 1 * (r3.length : Int) + 4 * (r4.length : Int) = q6 := by
    have y4 := HQ4.out
    have y6 := HQ6.out
    omega
  rw [e6] at H6
  clear hq6 e6
  have P6 : ¬ (q6 + 2 * (r6.length : Int) < 0) := by omega
  have K6 := Lib.hid (heldEarlyS_any (.slice a6 r6.length p6) r6 q6 (by omega) (by omega) (by omega) Y2 H6.out)
  go_wp2_with fail
  refine (K6.out).mono ?_
  rintro e Y3 ⟨rfl, hb⟩
  replace H7 := Lib.hid (layIntS.below H7.out hb)
  replace H8 := Lib.hid (layStringS.below H8.out hb)
  replace A0 := Lib.hid (A0.out.next hb)
  replace BY := Lib.hid (BY.out.trans (hb.mono BY.out.size))
  clear hb c6 K6
  have c7 : Y3.cell? ⟨w.heap.size, 7, none⟩ = some (.slice a7 r7.length p7) := A0.out.cell 7
  obtain ⟨q7, hq7, q0_7, q1_7⟩ : ∃ q : Int, q6 + 2 * (r6.length : Int) = q ∧ 1 ≤ q ∧ q ≤ 170000000 := ⟨_, rfl, by omega, by omega⟩
  rw [hq7]
  have HQ7 := Lib.hid hq7
  have e7 : k + 1 * (r3.length : Int) + 4 * (r4.length : Int) + 2 * (r6.length : Int) = q7 := by
    have y4 := HQ4.out
    have y6 := HQ6.out
    have y7 := HQ7.out
    omega
  rw [e7] at H7
  clear hq7 e7
  have P7 : ¬ (q7 + 1 * (r7.length : Int) < 0) := by omega
  have K7 := Lib.hid (heldIntL_any (.slice a7 r7.length p7) r7 q7 (by omega) (by omega) (by omega) Y3 H7.out)
  go_wp2_with fail
  refine (K7.out).mono ?_
  rintro e Y4 ⟨rfl, hb⟩
  replace H8 := Lib.hid (layStringS.below H8.out hb)
  replace A0 := Lib.hid (A0.out.next hb)
  replace BY := Lib.hid (BY.out.trans (hb.mono BY.out.size))
  clear hb c7 K7
  have c8 : Y4.cell? ⟨w.heap.size, 8, none⟩ = some (.slice a8 r8.length p8) := A0.out.cell 8
  obtain ⟨q8, hq8, q0_8, q1_8⟩ : ∃ q : Int, q7 + 1 * (r7.length : Int) = q ∧ 1 ≤ q ∧ q ≤ 180000000 := ⟨_, rfl, by omega, by omega⟩
  rw [hq8]
  have HQ8 := Lib.hid hq8
  have e8 : k + 1 * (r3.length : Int) + 4 * (r4.length : Int) + 2 * (r6.length : Int) + 1 * (r7.length : Int) = q8 := by
    have y4 := HQ4.out
    have y6 := HQ6.out
    have y7 := HQ7.out
    have y8 := HQ8.out
    omega
  rw [e8] at H8
  clear hq8 e8
  have P8 : ¬ (q8 + 1 * (r8.length : Int) < 0) := by omega
  have K8 := Lib.hid (heldStringS_any (.slice a8 r8.length p8) r8 q8 (by omega) (by omega) (by omega) Y4 H8.out)
  go_wp2_with fail
  refine (K8.out).mono ?_
  rintro e Y5 ⟨rfl, hb⟩
  replace A0 := Lib.hid (A0.out.next hb)
  replace BY := Lib.hid (BY.out.trans (hb.mono BY.out.size))
  clear hb c8 K8
  go_wp2_with fail
  go_ret
  have y4 := HQ4.out
  have y6 := HQ6.out
  have y7 := HQ7.out
  have y8 := HQ8.out
  have e9 : q8 + (r8.length : Int) = k + 1 * (r3.length : Int) + 4 * (r4.length : Int) + 2 * (r6.length : Int) + 1 * (r7.length : Int) + 1 * (r8.length : Int) := by omega
  exact ⟨ret_int e9, BY.out⟩

def FitsChan (r3 : List ByteArray) (r4 : List PendingD) (r6 : List EarlyD) (r7 : List Int) (r8 : List ByteArray) : Prop := FitsString r3 ∧ FitsPending r4 ∧ FitsEarly r6 ∧ FitsInt r7 ∧ FitsString r8
set_option maxRecDepth 100000 in
set_option maxHeartbeats 1600000 in
theorem szChan_any (x0 : Int) (x1 : Int) (x2 : Int) (v3 : Value) (r3 : List ByteArray) (v4 : Value) (r4 : List PendingD) (x5 : Int) (v6 : Value) (r6 : List EarlyD) (v7 : Value) (r7 : List Int) (v8 : Value) (r8 : List ByteArray) (left : Int) (hk0 : 0 ≤ left) (hk1 : left ≤ 1048576) (m3 : RoomString r3) (m4 : RoomPending r4) (m6 : RoomEarly r6) (m7 : RoomInt r7) (m8 : RoomString r8) (w : World) (h3 : layStringS.rd w [v3] r3) (h4 : layPendingS.rd w [v4] r4) (h6 : layEarlyS.rd w [v6] r6) (h7 : layIntS.rd w [v7] r7) (h8 : layStringS.rd w [v8] r8) :
    Calls Try.prog 13 #[.agg #[.int .i64 x0, .int .i64 x1, .int .i64 x2, v3, v4, .int .i64 x5, v6, v7, v8], .int .i64 left] w fun e w' => SzEnd (FitsChan r3 r4 r6 r7 r8) left e ∧ Below w.heap.size w w' := by
  obtain ⟨a3, p3, rfl⟩ := rows_form h3
  obtain ⟨a4, p4, rfl⟩ := rows_form h4
  obtain ⟨a6, p6, rfl⟩ := rows_form h6
  obtain ⟨a7, p7, rfl⟩ := rows_form h7
  obtain ⟨a8, p8, rfl⟩ := rows_form h8
  have H3 := Lib.hid (layStringS.below h3 ((Below.refl _ _).alloc (Nat.le_refl _) (.cells #[.int .i64 x0, .int .i64 x1, .int .i64 x2, .slice a3 r3.length p3, .slice a4 r4.length p4, .int .i64 x5, .slice a6 r6.length p6, .slice a7 r7.length p7, .slice a8 r8.length p8] 36)))
  have M3 := Lib.hid m3
  have H4 := Lib.hid (layPendingS.below h4 ((Below.refl _ _).alloc (Nat.le_refl _) (.cells #[.int .i64 x0, .int .i64 x1, .int .i64 x2, .slice a3 r3.length p3, .slice a4 r4.length p4, .int .i64 x5, .slice a6 r6.length p6, .slice a7 r7.length p7, .slice a8 r8.length p8] 36)))
  have M4 := Lib.hid m4
  have H6 := Lib.hid (layEarlyS.below h6 ((Below.refl _ _).alloc (Nat.le_refl _) (.cells #[.int .i64 x0, .int .i64 x1, .int .i64 x2, .slice a3 r3.length p3, .slice a4 r4.length p4, .int .i64 x5, .slice a6 r6.length p6, .slice a7 r7.length p7, .slice a8 r8.length p8] 36)))
  have M6 := Lib.hid m6
  have H7 := Lib.hid (layIntS.below h7 ((Below.refl _ _).alloc (Nat.le_refl _) (.cells #[.int .i64 x0, .int .i64 x1, .int .i64 x2, .slice a3 r3.length p3, .slice a4 r4.length p4, .int .i64 x5, .slice a6 r6.length p6, .slice a7 r7.length p7, .slice a8 r8.length p8] 36)))
  have M7 := Lib.hid m7
  have H8 := Lib.hid (layStringS.below h8 ((Below.refl _ _).alloc (Nat.le_refl _) (.cells #[.int .i64 x0, .int .i64 x1, .int .i64 x2, .slice a3 r3.length p3, .slice a4 r4.length p4, .int .i64 x5, .slice a6 r6.length p6, .slice a7 r7.length p7, .slice a8 r8.length p8] 36)))
  have M8 := Lib.hid m8
  have A0 := Lib.hid (VarA.new w 36 #[.int .i64 x0, .int .i64 x1, .int .i64 x2, .slice a3 r3.length p3, .slice a4 r4.length p4, .int .i64 x5, .slice a6 r6.length p6, .slice a7 r7.length p7, .slice a8 r8.length p8])
  have BY := Lib.hid ((Below.refl w.heap.size w).alloc (Nat.le_refl _) (.cells #[.int .i64 x0, .int .i64 x1, .int .i64 x2, .slice a3 r3.length p3, .slice a4 r4.length p4, .int .i64 x5, .slice a6 r6.length p6, .slice a7 r7.length p7, .slice a8 r8.length p8] 36))
  clear h3 m3 h4 m4 h6 m6 h7 m7 h8 m8
  go_enter Try.func13, Try.ntmps13
  go_upto_region 1 with fail
  generalize w.alloc (.cells #[.int .i64 x0, .int .i64 x1, .int .i64 x2, .slice a3 r3.length p3, .slice a4 r4.length p4, .int .i64 x5, .slice a6 r6.length p6, .slice a7 r7.length p7, .slice a8 r8.length p8] 36) = Y0 at *
  have c3 : Y0.cell? ⟨w.heap.size, 3, none⟩ = some (.slice a3 r3.length p3) := A0.out.cell 3
  have K3 := Lib.hid (szStringS_any (.slice a3 r3.length p3) r3 left (by omega) (by omega) M3.out Y0 H3.out)
  go_wp2_with fail
  refine (K3.out).mono ?_
  rintro e Y1 ⟨⟨t3, rfl, rfl | ⟨u3, w3, F3⟩⟩, hb⟩
  · replace BY := Lib.hid (BY.out.trans (hb.mono BY.out.size))
    clear hb
    go_wp2_with fail
    go_ret
    exact ⟨⟨_, rfl, .inl rfl⟩, BY.out⟩
  replace F3 := Lib.hid F3
  replace H4 := Lib.hid (layPendingS.below H4.out hb)
  replace H6 := Lib.hid (layEarlyS.below H6.out hb)
  replace H7 := Lib.hid (layIntS.below H7.out hb)
  replace H8 := Lib.hid (layStringS.below H8.out hb)
  replace A0 := Lib.hid (A0.out.next hb)
  replace BY := Lib.hid (BY.out.trans (hb.mono BY.out.size))
  have g3 : ¬ (t3 < 0) := by omega
  clear hb c3 K3
  have c4 : Y1.cell? ⟨w.heap.size, 4, none⟩ = some (.slice a4 r4.length p4) := A0.out.cell 4
  have K4 := Lib.hid (szPendingS_any (.slice a4 r4.length p4) r4 t3 (by omega) (by omega) M4.out Y1 H4.out)
  go_wp2_with fail
  refine (K4.out).mono ?_
  rintro e Y2 ⟨⟨t4, rfl, rfl | ⟨u4, w4, F4⟩⟩, hb⟩
  · replace BY := Lib.hid (BY.out.trans (hb.mono BY.out.size))
    clear hb
    go_wp2_with fail
    go_ret
    exact ⟨⟨_, rfl, .inl rfl⟩, BY.out⟩
  replace F4 := Lib.hid F4
  replace H6 := Lib.hid (layEarlyS.below H6.out hb)
  replace H7 := Lib.hid (layIntS.below H7.out hb)
  replace H8 := Lib.hid (layStringS.below H8.out hb)
  replace A0 := Lib.hid (A0.out.next hb)
  replace BY := Lib.hid (BY.out.trans (hb.mono BY.out.size))
  have g4 : ¬ (t4 < 0) := by omega
  clear hb c4 K4
  have c6 : Y2.cell? ⟨w.heap.size, 6, none⟩ = some (.slice a6 r6.length p6) := A0.out.cell 6
  have K6 := Lib.hid (szEarlyS_any (.slice a6 r6.length p6) r6 t4 (by omega) (by omega) M6.out Y2 H6.out)
  go_wp2_with fail
  refine (K6.out).mono ?_
  rintro e Y3 ⟨⟨t6, rfl, rfl | ⟨u6, w6, F6⟩⟩, hb⟩
  · replace BY := Lib.hid (BY.out.trans (hb.mono BY.out.size))
    clear hb
    go_wp2_with fail
    go_ret
    exact ⟨⟨_, rfl, .inl rfl⟩, BY.out⟩
  replace F6 := Lib.hid F6
  replace H7 := Lib.hid (layIntS.below H7.out hb)
  replace H8 := Lib.hid (layStringS.below H8.out hb)
  replace A0 := Lib.hid (A0.out.next hb)
  replace BY := Lib.hid (BY.out.trans (hb.mono BY.out.size))
  have g6 : ¬ (t6 < 0) := by omega
  clear hb c6 K6
  have c7 : Y3.cell? ⟨w.heap.size, 7, none⟩ = some (.slice a7 r7.length p7) := A0.out.cell 7
  have K7 := Lib.hid (szIntL_any (.slice a7 r7.length p7) r7 t6 (by omega) (by omega) M7.out Y3 H7.out)
  go_wp2_with fail
  refine (K7.out).mono ?_
  rintro e Y4 ⟨⟨t7, rfl, rfl | ⟨u7, w7, F7⟩⟩, hb⟩
  · replace BY := Lib.hid (BY.out.trans (hb.mono BY.out.size))
    clear hb
    go_wp2_with fail
    go_ret
    exact ⟨⟨_, rfl, .inl rfl⟩, BY.out⟩
  replace F7 := Lib.hid F7
  replace H8 := Lib.hid (layStringS.below H8.out hb)
  replace A0 := Lib.hid (A0.out.next hb)
  replace BY := Lib.hid (BY.out.trans (hb.mono BY.out.size))
  have g7 : ¬ (t7 < 0) := by omega
  clear hb c7 K7
  have c8 : Y4.cell? ⟨w.heap.size, 8, none⟩ = some (.slice a8 r8.length p8) := A0.out.cell 8
  have K8 := Lib.hid (szStringS_any (.slice a8 r8.length p8) r8 t7 (by omega) (by omega) M8.out Y4 H8.out)
  go_wp2_with fail
  refine (K8.out).mono ?_
  rintro e Y5 ⟨⟨t8, rfl, rfl | ⟨u8, w8, F8⟩⟩, hb⟩
  · replace BY := Lib.hid (BY.out.trans (hb.mono BY.out.size))
    clear hb
    go_wp2_with fail
    go_ret
    exact ⟨⟨_, rfl, .inl rfl⟩, BY.out⟩
  replace F8 := Lib.hid F8
  replace A0 := Lib.hid (A0.out.next hb)
  replace BY := Lib.hid (BY.out.trans (hb.mono BY.out.size))
  have g8 : ¬ (t8 < 0) := by omega
  clear hb c8 K8
  go_wp2_with fail
  go_ret
  exact ⟨⟨_, rfl, .inr ⟨by omega, by omega, F3.out, F4.out, F6.out, F7.out, F8.out⟩⟩, BY.out⟩

end Go.Proofs.Ythljmjbmmgligar
