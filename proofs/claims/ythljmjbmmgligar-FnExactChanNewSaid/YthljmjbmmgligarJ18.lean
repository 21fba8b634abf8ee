/-
  The program's ChanNew.
-/
import Derived.Test.YthljmjbmmgligarJ17
namespace Go.Proofs.Ythljmjbmmgligar
open Go.RowKit

set_option maxRecDepth 100000 in
set_option maxHeartbeats 3200000 in
theorem implChanNew_any (me peer : Int) (b : Bool) (hb : b = true ↔ ((1 ≤ me ∧ me ≤ 99) ∧ 1 ≤ peer ∧ peer ≤ 99)) (w : World) :
    Calls Try.prog 9 #[.int .i64 me, .int .i64 peer] w (NewEnd me peer b w) := by
  have HB := Lib.hid hb
  have R0 := Lib.hid (VarA.new w ChanT #[.int .i64 0, .int .i64 0, .int .i64 0, .slice none 0 0, .slice none 0 0, .int .i64 0, .slice none 0 0, .slice none 0 0, .slice none 0 0])
  have B0 := Lib.hid ((Below.refl w.heap.size w).alloc (Nat.le_refl _) (.cells #[.int .i64 0, .int .i64 0, .int .i64 0, .slice none 0 0, .slice none 0 0, .int .i64 0, .slice none 0 0, .slice none 0 0, .slice none 0 0] ChanT))
  clear hb
  go_enter Try.func9, Try.ntmps9
  go_upto_region 1 with fail
  generalize w.alloc (.cells #[.int .i64 0, .int .i64 0, .int .i64 0, .slice none 0 0, .slice none 0 0, .int .i64 0, .slice none 0 0, .slice none 0 0, .slice none 0 0] ChanT) = Y at *
  by_cases hme : 1 ≤ me ∧ me ≤ 99
  · have K := Lib.hid (isWho_yes me hme.1 hme.2 Y)
    go_wp2_with fail
    refine (K.out).mono ?_
    rintro e Z9 ⟨rfl, hw⟩
    rw [hw]
    clear hw K Z9
    by_cases hpe : 1 ≤ peer ∧ peer ≤ 99
    · obtain rfl : b = true := HB.out.2 ⟨hme, hpe⟩
      have K := Lib.hid (isWho_yes peer hpe.1 hpe.2 Y)
      go_wp2_with fail
      refine (K.out).mono ?_
      rintro e Z9 ⟨rfl, hw⟩
      rw [hw]
      clear hw K Z9
      go_upto_region 3 with fail
      have g0 := R0.out.free 0
      have g1 := R0.out.free 1
      have g2 := R0.out.free 2
      have g3 := R0.out.free 3
      have g4 := R0.out.free 4
      have g5 := R0.out.free 5
      have g6 := R0.out.free 6
      have g7 := R0.out.free 7
      have g8 := R0.out.free 8
      have y0 : Y.cell? ⟨w.heap.size, 0, none⟩ = some (.int .i64 0) := R0.out.cell 0
      have y1 : Y.cell? ⟨w.heap.size, 1, none⟩ = some (.int .i64 0) := R0.out.cell 1
      have y2 : Y.cell? ⟨w.heap.size, 2, none⟩ = some (.int .i64 0) := R0.out.cell 2
      have y3 : Y.cell? ⟨w.heap.size, 3, none⟩ = some (.slice none 0 0) := R0.out.cell 3
      have y4 : Y.cell? ⟨w.heap.size, 4, none⟩ = some (.slice none 0 0) := R0.out.cell 4
      have y5 : Y.cell? ⟨w.heap.size, 5, none⟩ = some (.int .i64 0) := R0.out.cell 5
      have y6 : Y.cell? ⟨w.heap.size, 6, none⟩ = some (.slice none 0 0) := R0.out.cell 6
      have y7 : Y.cell? ⟨w.heap.size, 7, none⟩ = some (.slice none 0 0) := R0.out.cell 7
      have y8 : Y.cell? ⟨w.heap.size, 8, none⟩ = some (.slice none 0 0) := R0.out.cell 8
      have R9 := set_nine (p0 := .int .i64 me) (p1 := .int .i64 peer) (p2 := .int .i64 0) (p3 := .slice none 0 0) (p4 := .slice none 0 0) (p5 := .int .i64 0) (p6 := .slice none 0 0) (p7 := .slice none 0 0) (p8 := .slice none 0 0) R0.out
      have j0 := R9.cell 0
      have j1 := R9.cell 1
      have j2 := R9.cell 2
      have j3 := R9.cell 3
      have j4 := R9.cell 4
      have j5 := R9.cell 5
      have j6 := R9.cell 6
      have j7 := R9.cell 7
      have j8 := R9.cell 8
      have O9 := only_nine Y w.heap.size (.int .i64 me) (.int .i64 peer) (.int .i64 0) (.slice none 0 0) (.slice none 0 0) (.int .i64 0) (.slice none 0 0) (.slice none 0 0) (.slice none 0 0)
      have FIN := Lib.hid (B0.out.trans (only_below O9 (Nat.le_refl _) B0.out.size))
      clear R9 O9
      go_wp2_with fail
      exact bodyPost_ret (v := .tuple #[.agg #[.int .i64 me, .int .i64 peer, .int .i64 0, .slice none 0 0, .slice none 0 0, .int .i64 0, .slice none 0 0, .slice none 0 0, .slice none 0 0], .bool true]) (by simp [results, Try.results9, go_sem, j0, j1, j2, j3, j4, j5, j6, j7, j8]) rfl ⟨rfl, FIN.out⟩
    · obtain rfl : b = false := by
        cases b with
        | false => rfl
        | true => exact absurd (HB.out.1 rfl).2 hpe
      have K := Lib.hid (isWho_no peer hpe Y)
      go_wp2_with fail
      refine (K.out).mono ?_
      rintro e Z9 ⟨rfl, hw⟩
      rw [hw]
      clear hw K Z9
      go_upto_region 2 with fail
      have g0 := R0.out.free 0
      have g1 := R0.out.free 1
      have g2 := R0.out.free 2
      have g3 := R0.out.free 3
      have g4 := R0.out.free 4
      have g5 := R0.out.free 5
      have g6 := R0.out.free 6
      have g7 := R0.out.free 7
      have g8 := R0.out.free 8
      have y0 : Y.cell? ⟨w.heap.size, 0, none⟩ = some (.int .i64 0) := R0.out.cell 0
      have y1 : Y.cell? ⟨w.heap.size, 1, none⟩ = some (.int .i64 0) := R0.out.cell 1
      have y2 : Y.cell? ⟨w.heap.size, 2, none⟩ = some (.int .i64 0) := R0.out.cell 2
      have y3 : Y.cell? ⟨w.heap.size, 3, none⟩ = some (.slice none 0 0) := R0.out.cell 3
      have y4 : Y.cell? ⟨w.heap.size, 4, none⟩ = some (.slice none 0 0) := R0.out.cell 4
      have y5 : Y.cell? ⟨w.heap.size, 5, none⟩ = some (.int .i64 0) := R0.out.cell 5
      have y6 : Y.cell? ⟨w.heap.size, 6, none⟩ = some (.slice none 0 0) := R0.out.cell 6
      have y7 : Y.cell? ⟨w.heap.size, 7, none⟩ = some (.slice none 0 0) := R0.out.cell 7
      have y8 : Y.cell? ⟨w.heap.size, 8, none⟩ = some (.slice none 0 0) := R0.out.cell 8
      have R9 := set_nine (p0 := .int .i64 0) (p1 := .int .i64 0) (p2 := .int .i64 0) (p3 := .slice none 0 0) (p4 := .slice none 0 0) (p5 := .int .i64 0) (p6 := .slice none 0 0) (p7 := .slice none 0 0) (p8 := .slice none 0 0) R0.out
      have j0 := R9.cell 0
      have j1 := R9.cell 1
      have j2 := R9.cell 2
      have j3 := R9.cell 3
      have j4 := R9.cell 4
      have j5 := R9.cell 5
      have j6 := R9.cell 6
      have j7 := R9.cell 7
      have j8 := R9.cell 8
      have O9 := only_nine Y w.heap.size (.int .i64 0) (.int .i64 0) (.int .i64 0) (.slice none 0 0) (.slice none 0 0) (.int .i64 0) (.slice none 0 0) (.slice none 0 0) (.slice none 0 0)
      have FIN := Lib.hid (B0.out.trans (only_below O9 (Nat.le_refl _) B0.out.size))
      clear R9 O9
      go_wp2_with fail
      exact bodyPost_ret (v := .tuple #[.agg #[.int .i64 0, .int .i64 0, .int .i64 0, .slice none 0 0, .slice none 0 0, .int .i64 0, .slice none 0 0, .slice none 0 0, .slice none 0 0], .bool false]) (by simp [results, Try.results9, go_sem, j0, j1, j2, j3, j4, j5, j6, j7, j8]) rfl ⟨rfl, FIN.out⟩
  · obtain rfl : b = false := by
      cases b with
      | false => rfl
      | true => exact absurd (HB.out.1 rfl).1 hme
    have K := Lib.hid (isWho_no me hme Y)
    go_wp2_with fail
    refine (K.out).mono ?_
    rintro e Z9 ⟨rfl, hw⟩
    rw [hw]
    clear hw K Z9
    go_upto_region 2 with fail
    have g0 := R0.out.free 0
    have g1 := R0.out.free 1
    have g2 := R0.out.free 2
    have g3 := R0.out.free 3
    have g4 := R0.out.free 4
    have g5 := R0.out.free 5
    have g6 := R0.out.free 6
    have g7 := R0.out.free 7
    have g8 := R0.out.free 8
    have y0 : Y.cell? ⟨w.heap.size, 0, none⟩ = some (.int .i64 0) := R0.out.cell 0
    have y1 : Y.cell? ⟨w.heap.size, 1, none⟩ = some (.int .i64 0) := R0.out.cell 1
    have y2 : Y.cell? ⟨w.heap.size, 2, none⟩ = some (.int .i64 0) := R0.out.cell 2
    have y3 : Y.cell? ⟨w.heap.size, 3, none⟩ = some (.slice none 0 0) := R0.out.cell 3
    have y4 : Y.cell? ⟨w.heap.size, 4, none⟩ = some (.slice none 0 0) := R0.out.cell 4
    have y5 : Y.cell? ⟨w.heap.size, 5, none⟩ = some (.int .i64 0) := R0.out.cell 5
    have y6 : Y.cell? ⟨w.heap.size, 6, none⟩ = some (.slice none 0 0) := R0.out.cell 6
    have y7 : Y.cell? ⟨w.heap.size, 7, none⟩ = some (.slice none 0 0) := R0.out.cell 7
    have y8 : Y.cell? ⟨w.heap.size, 8, none⟩ = some (.slice none 0 0) := R0.out.cell 8
    have R9 := set_nine (p0 := .int .i64 0) (p1 := .int .i64 0) (p2 := .int .i64 0) (p3 := .slice none 0 0) (p4 := .slice none 0 0) (p5 := .int .i64 0) (p6 := .slice none 0 0) (p7 := .slice none 0 0) (p8 := .slice none 0 0) R0.out
    have j0 := R9.cell 0
    have j1 := R9.cell 1
    have j2 := R9.cell 2
    have j3 := R9.cell 3
    have j4 := R9.cell 4
    have j5 := R9.cell 5
    have j6 := R9.cell 6
    have j7 := R9.cell 7
    have j8 := R9.cell 8
    have O9 := only_nine Y w.heap.size (.int .i64 0) (.int .i64 0) (.int .i64 0) (.slice none 0 0) (.slice none 0 0) (.int .i64 0) (.slice none 0 0) (.slice none 0 0) (.slice none 0 0)
    have FIN := Lib.hid (B0.out.trans (only_below O9 (Nat.le_refl _) B0.out.size))
    clear R9 O9
    go_wp2_with fail
    exact bodyPost_ret (v := .tuple #[.agg #[.int .i64 0, .int .i64 0, .int .i64 0, .slice none 0 0, .slice none 0 0, .int .i64 0, .slice none 0 0, .slice none 0 0, .slice none 0 0], .bool false]) (by simp [results, Try.results9, go_sem, j0, j1, j2, j3, j4, j5, j6, j7, j8]) rfl ⟨rfl, FIN.out⟩

end Go.Proofs.Ythljmjbmmgligar
