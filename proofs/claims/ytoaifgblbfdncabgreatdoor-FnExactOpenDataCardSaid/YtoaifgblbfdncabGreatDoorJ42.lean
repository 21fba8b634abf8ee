/-
  The program's pairOf and SlotsOk.
-/
import Derived.Test.YtoaifgblbfdncabGreatDoorJ41
import Derived.ChangeKeysEq
namespace Go.Proofs.YtoaifgblbfdncabGreatDoor
open Go.RowKit

abbrev PairT : TypeId := 69
set_option maxRecDepth 100000 in
set_option maxHeartbeats 6400000 in
theorem pairOf_any (x0 : Int) (x1 x2 : ByteArray) (x3 : Int) (v4 : Value) (r4 : List Int) (x5 : Int) (y0 : Int) (y1 y2 : ByteArray) (y3 : Int) (u4 : Value) (s4 : List Int) (y5 : Int) (w : World) (h : layIntS.rd w [v4] r4) (k : layIntS.rd w [u4] s4) :
    Calls Tryz.prog 41 #[.agg #[.int .i64 x0, .string x1, .string x2, .int .i64 x3, v4, .int .i64 x5, .int .i64 y0, .string y1, .string y2, .int .i64 y3, u4, .int .i64 y5]] w fun e w' => e = .returned (.agg #[.int .i64 x0, .string x1, .string x2, .int .i64 x3, .int .i64 r4.length, .int .i64 x5, .int .i64 y0, .string y1, .string y2, .int .i64 y3, .int .i64 s4.length, .int .i64 y5]) ∧ Below w.heap.size w w' := by
  obtain ⟨a4, p4, rfl⟩ := rows_form h
  obtain ⟨b4, q4, rfl⟩ := rows_form k
  have e1 : (w.alloc (.cells #[.int .i64 x0, .string x1, .string x2, .int .i64 x3, .slice a4 r4.length p4, .int .i64 x5, .int .i64 y0, .string y1, .string y2, .int .i64 y3, .slice b4 s4.length q4, .int .i64 y5] SlotsT)).heap.size = w.heap.size + 1 := by simp
  have h2 := VarA.new (w.alloc (.cells #[.int .i64 x0, .string x1, .string x2, .int .i64 x3, .slice a4 r4.length p4, .int .i64 x5, .int .i64 y0, .string y1, .string y2, .int .i64 y3, .slice b4 s4.length q4, .int .i64 y5] SlotsT)) PairT #[.int .i64 0, .string ⟨#[]⟩, .string ⟨#[]⟩, .int .i64 0, .int .i64 0, .int .i64 0, .int .i64 0, .string ⟨#[]⟩, .string ⟨#[]⟩, .int .i64 0, .int .i64 0, .int .i64 0]
  rw [e1] at h2
  have A0 := Lib.hid ((VarA.new w SlotsT #[.int .i64 x0, .string x1, .string x2, .int .i64 x3, .slice a4 r4.length p4, .int .i64 x5, .int .i64 y0, .string y1, .string y2, .int .i64 y3, .slice b4 s4.length q4, .int .i64 y5]).alloc (.cells #[.int .i64 0, .string ⟨#[]⟩, .string ⟨#[]⟩, .int .i64 0, .int .i64 0, .int .i64 0, .int .i64 0, .string ⟨#[]⟩, .string ⟨#[]⟩, .int .i64 0, .int .i64 0, .int .i64 0] PairT))
  have rr := Lib.hid h2
  have BY := Lib.hid (((Below.refl w.heap.size w).alloc (Nat.le_refl _) (.cells #[.int .i64 x0, .string x1, .string x2, .int .i64 x3, .slice a4 r4.length p4, .int .i64 x5, .int .i64 y0, .string y1, .string y2, .int .i64 y3, .slice b4 s4.length q4, .int .i64 y5] SlotsT)).alloc (by simp) (.cells #[.int .i64 0, .string ⟨#[]⟩, .string ⟨#[]⟩, .int .i64 0, .int .i64 0, .int .i64 0, .int .i64 0, .string ⟨#[]⟩, .string ⟨#[]⟩, .int .i64 0, .int .i64 0, .int .i64 0] PairT))
  have HR := Lib.hid h
  have HK := Lib.hid k
  clear h k h2 e1
  obtain ⟨Q, HQ⟩ : ∃ Q : Ending → World → Prop, Hid (Q = fun e w' => e = .returned (.agg #[.int .i64 x0, .string x1, .string x2, .int .i64 x3, .int .i64 r4.length, .int .i64 x5, .int .i64 y0, .string y1, .string y2, .int .i64 y3, .int .i64 s4.length, .int .i64 y5]) ∧ Below w.heap.size w w') := ⟨_, Lib.hid rfl⟩
  rw [← HQ.out]
  go_enter Tryz.func41, Tryz.ntmps41
  go_upto_region 1 with fail
  generalize ((w.alloc (.cells #[.int .i64 x0, .string x1, .string x2, .int .i64 x3, .slice a4 r4.length p4, .int .i64 x5, .int .i64 y0, .string y1, .string y2, .int .i64 y3, .slice b4 s4.length q4, .int .i64 y5] SlotsT)).alloc (.cells #[.int .i64 0, .string ⟨#[]⟩, .string ⟨#[]⟩, .int .i64 0, .int .i64 0, .int .i64 0, .int .i64 0, .string ⟨#[]⟩, .string ⟨#[]⟩, .int .i64 0, .int .i64 0, .int .i64 0] PairT)) = Y at *
  have qv : ∀ X Y, (Hid (VarA w.heap.size SlotsT #[.int .i64 x0, .string x1, .string x2, .int .i64 x3, .slice a4 r4.length p4, .int .i64 x5, .int .i64 y0, .string y1, .string y2, .int .i64 y3, .slice b4 s4.length q4, .int .i64 y5] X ∧ Below w.heap.size w X)) → Below X.heap.size X Y → (Hid (VarA w.heap.size SlotsT #[.int .i64 x0, .string x1, .string x2, .int .i64 x3, .slice a4 r4.length p4, .int .i64 x5, .int .i64 y0, .string y1, .string y2, .int .i64 y3, .slice b4 s4.length q4, .int .i64 y5] Y ∧ Below w.heap.size w Y)) := fun X Y h hb => Lib.hid ⟨h.out.1.next hb, h.out.2.trans (hb.mono h.out.2.size)⟩
  have E0 : Hid (VarA w.heap.size SlotsT #[.int .i64 x0, .string x1, .string x2, .int .i64 x3, .slice a4 r4.length p4, .int .i64 x5, .int .i64 y0, .string y1, .string y2, .int .i64 y3, .slice b4 s4.length q4, .int .i64 y5] Y.drew ∧ Below w.heap.size w Y.drew) := Lib.hid ⟨A0.out.drew, BY.out.drew⟩
  replace rr := Lib.hid rr.out.drew
  go_wp2_with fail
  clear A0 BY
  refine wp_region_held_drew (S := fun X => Hid (VarA w.heap.size SlotsT #[.int .i64 x0, .string x1, .string x2, .int .i64 x3, .slice a4 r4.length p4, .int .i64 x5, .int .i64 y0, .string y1, .string y2, .int .i64 y3, .slice b4 s4.length q4, .int .i64 y5] X ∧ Below w.heap.size w X)) (by kernel_rfl) E0 (fun hHeld => ?_)
  clear E0
  generalize Y.drew = X0 at *
  refine wpAnyH_take (i := 0) (v := ?_) rfl (by kernel_rfl) (by kernel_rfl) (by kernel_rfl) (fun _ _ _ h => h) (Or.inl ⟨by kernel_rfl, ?_⟩) hHeld ?_
  rotate_left
  · intro X hX
    first | (go_simp; done) | (go_simp; with_reducible rfl)
  try simp only [Act.put, List.getElem_toArray, List.getElem_cons_zero, List.setIfInBounds_toArray, List.set_cons_zero, List.set_cons_succ]
  refine wpAnyH_take (i := 1) (v := ?_) rfl (by kernel_rfl) (by kernel_rfl) (by kernel_rfl) (fun _ _ _ h => h) (Or.inl ⟨by kernel_rfl, ?_⟩) hHeld ?_
  rotate_left
  · intro X hX
    have y0 : X.cell? ⟨w.heap.size, 0, none⟩ = some (.int .i64 x0) := hX.out.1.cell 0
    have y1 : X.cell? ⟨w.heap.size, 1, none⟩ = some (.string x1) := hX.out.1.cell 1
    have y2 : X.cell? ⟨w.heap.size, 2, none⟩ = some (.string x2) := hX.out.1.cell 2
    have y3 : X.cell? ⟨w.heap.size, 3, none⟩ = some (.int .i64 x3) := hX.out.1.cell 3
    have y4 : X.cell? ⟨w.heap.size, 4, none⟩ = some (.slice a4 r4.length p4) := hX.out.1.cell 4
    have y5 : X.cell? ⟨w.heap.size, 5, none⟩ = some (.int .i64 x5) := hX.out.1.cell 5
    first | (go_simp; done) | (go_simp; with_reducible rfl)
  try simp only [Act.put, List.getElem_toArray, List.getElem_cons_succ, List.getElem_cons_zero, List.setIfInBounds_toArray, List.set_cons_zero, List.set_cons_succ]
  refine wpAnyH_take (i := 3) (v := ?_) rfl (by kernel_rfl) (by kernel_rfl) (by kernel_rfl) (fun _ _ _ h => h) (Or.inl ⟨by kernel_rfl, ?_⟩) hHeld ?_
  rotate_left
  · intro X hX
    first | (go_simp; done) | (go_simp; with_reducible rfl)
  try simp only [Act.put, List.getElem_toArray, List.getElem_cons_succ, List.getElem_cons_zero, List.setIfInBounds_toArray, List.set_cons_zero, List.set_cons_succ]
  refine wpAnyH_take (i := 4) (v := ?_) rfl (by kernel_rfl) (by kernel_rfl) (by kernel_rfl) (fun _ _ _ h => h) (Or.inl ⟨by kernel_rfl, ?_⟩) hHeld ?_
  rotate_left
  · intro X hX
    have y0 : X.cell? ⟨w.heap.size, 6, none⟩ = some (.int .i64 y0) := hX.out.1.cell 6
    have y1 : X.cell? ⟨w.heap.size, 7, none⟩ = some (.string y1) := hX.out.1.cell 7
    have y2 : X.cell? ⟨w.heap.size, 8, none⟩ = some (.string y2) := hX.out.1.cell 8
    have y3 : X.cell? ⟨w.heap.size, 9, none⟩ = some (.int .i64 y3) := hX.out.1.cell 9
    have y4 : X.cell? ⟨w.heap.size, 10, none⟩ = some (.slice b4 s4.length q4) := hX.out.1.cell 10
    have y5 : X.cell? ⟨w.heap.size, 11, none⟩ = some (.int .i64 y5) := hX.out.1.cell 11
    first | (go_simp; done) | (go_simp; with_reducible rfl)
  try simp only [Act.put, List.getElem_toArray, List.getElem_cons_succ, List.getElem_cons_zero, List.setIfInBounds_toArray, List.set_cons_zero, List.set_cons_succ]
  refine wpAnyH_ready (rs := [2]) (by kernel_rfl) (by simp) ?_
  refine AllReadyH.cons rfl (fun K hK => ?_) AllReadyH.nil
  go_simp
  go_wp2_with (go_at_call 58; refine (markOf_any x0 x1 x2 x3 _ r4 x5 X0 (layIntS.below HR.out hHeld.out.2)).mono ?_; rintro e X1 ⟨rfl, hb0⟩; have hS := qv _ _ hHeld hb0; have hb := Lib.hid hb0; clear hb0)
  refine hK.out _ _ hS (fun hHeld => ?_)
  clear hK K hS
  replace rr := Lib.hid (rr.out.next hb.out)
  clear hb
  try simp only [Act.put, List.getElem_toArray, List.getElem_cons_succ, List.getElem_cons_zero, List.setIfInBounds_toArray, List.set_cons_zero, List.set_cons_succ]
  refine wpAnyH_ready (rs := [5]) (by kernel_rfl) (by simp) ?_
  refine AllReadyH.cons rfl (fun K hK => ?_) AllReadyH.nil
  go_simp
  go_wp2_with (go_at_call 58; refine (markOf_any y0 y1 y2 y3 _ s4 y5 X1 (layIntS.below HK.out hHeld.out.2)).mono ?_; rintro e X2 ⟨rfl, hb0⟩; have hS := qv _ _ hHeld hb0; have hb := Lib.hid hb0; clear hb0)
  refine hK.out _ _ hS (fun hHeld => ?_)
  clear hK K hS
  replace rr := Lib.hid (rr.out.next hb.out)
  clear hb
  try simp only [Act.put, List.getElem_toArray, List.getElem_cons_succ, List.getElem_cons_zero, List.setIfInBounds_toArray, List.set_cons_zero, List.set_cons_succ]
  refine wpAnyH_take (i := 6) (v := ?_) rfl (by kernel_rfl) (by kernel_rfl) (by kernel_rfl) (fun _ _ _ h => h) (Or.inl ⟨by kernel_rfl, ?_⟩) hHeld ?_
  rotate_left
  · intro X hX
    first | (go_simp; done) | (go_simp; with_reducible rfl)
  try simp only [Act.put, List.getElem_toArray, List.getElem_cons_succ, List.getElem_cons_zero, List.setIfInBounds_toArray, List.set_cons_zero, List.set_cons_succ]
  refine wpAnyH_ready (rs := [7]) (by kernel_rfl) (by simp) ?_
  refine AllReadyH.cons rfl (fun K hK => ?_) AllReadyH.nil
  have r0_ := rr.out.cell 0
  have r1_ := rr.out.cell 1
  have r2_ := rr.out.cell 2
  have r3_ := rr.out.cell 3
  have r4_ := rr.out.cell 4
  have r5_ := rr.out.cell 5
  have r6_ := rr.out.cell 6
  have r7_ := rr.out.cell 7
  have r8_ := rr.out.cell 8
  have r9_ := rr.out.cell 9
  have r10_ := rr.out.cell 10
  have r11_ := rr.out.cell 11
  have g0_ := rr.out.free 0
  have g1_ := rr.out.free 1
  have g2_ := rr.out.free 2
  have g3_ := rr.out.free 3
  have g4_ := rr.out.free 4
  have g5_ := rr.out.free 5
  have g6_ := rr.out.free 6
  have g7_ := rr.out.free 7
  have g8_ := rr.out.free 8
  have g9_ := rr.out.free 9
  have g10_ := rr.out.free 10
  have g11_ := rr.out.free 11
  go_simp
  have ho : Only (w.heap.size + 1) X2 ((((((((((((X2.setCell ⟨w.heap.size + 1, 0, none⟩ (.int .i64 x0)).setCell ⟨w.heap.size + 1, 1, none⟩ (.string x1)).setCell ⟨w.heap.size + 1, 2, none⟩ (.string x2)).setCell ⟨w.heap.size + 1, 3, none⟩ (.int .i64 x3)).setCell ⟨w.heap.size + 1, 4, none⟩ (.int .i64 r4.length)).setCell ⟨w.heap.size + 1, 5, none⟩ (.int .i64 x5)).setCell ⟨w.heap.size + 1, 6, none⟩ (.int .i64 y0)).setCell ⟨w.heap.size + 1, 7, none⟩ (.string y1)).setCell ⟨w.heap.size + 1, 8, none⟩ (.string y2)).setCell ⟨w.heap.size + 1, 9, none⟩ (.int .i64 y3)).setCell ⟨w.heap.size + 1, 10, none⟩ (.int .i64 s4.length)).setCell ⟨w.heap.size + 1, 11, none⟩ (.int .i64 y5)) := (putMain_only X2 (w.heap.size + 1) _ _ _ _ _ _).trans (putLame_only _ (w.heap.size + 1) _ _ _ _ _ _)
  have hb2 : Below w.heap.size w ((((((((((((X2.setCell ⟨w.heap.size + 1, 0, none⟩ (.int .i64 x0)).setCell ⟨w.heap.size + 1, 1, none⟩ (.string x1)).setCell ⟨w.heap.size + 1, 2, none⟩ (.string x2)).setCell ⟨w.heap.size + 1, 3, none⟩ (.int .i64 x3)).setCell ⟨w.heap.size + 1, 4, none⟩ (.int .i64 r4.length)).setCell ⟨w.heap.size + 1, 5, none⟩ (.int .i64 x5)).setCell ⟨w.heap.size + 1, 6, none⟩ (.int .i64 y0)).setCell ⟨w.heap.size + 1, 7, none⟩ (.string y1)).setCell ⟨w.heap.size + 1, 8, none⟩ (.string y2)).setCell ⟨w.heap.size + 1, 9, none⟩ (.int .i64 y3)).setCell ⟨w.heap.size + 1, 10, none⟩ (.int .i64 s4.length)).setCell ⟨w.heap.size + 1, 11, none⟩ (.int .i64 y5)) := putBoth_below hHeld.out.2 (show w.heap.size ≤ w.heap.size + 1 by omega) _ _ _ _ _ _ _ _ _ _ _ _
  refine hK.out _ _ (Lib.hid ⟨hHeld.out.1.only ho (by omega), hb2⟩) (fun hHeld => ?_)
  clear hK K r0_ g0_ r1_ g1_ r2_ g2_ r3_ g3_ r4_ g4_ r5_ g5_ r6_ g6_ r7_ g7_ r8_ g8_ r9_ g9_ r10_ g10_ r11_ g11_
  have RS := Lib.hid (putBoth rr.out (.int .i64 x0) (.string x1) (.string x2) (.int .i64 x3) (.int .i64 r4.length) (.int .i64 x5) (.int .i64 y0) (.string y1) (.string y2) (.int .i64 y3) (.int .i64 s4.length) (.int .i64 y5))
  have E : Hid (Q (.returned (.agg #[.int .i64 x0, .string x1, .string x2, .int .i64 x3, .int .i64 r4.length, .int .i64 x5, .int .i64 y0, .string y1, .string y2, .int .i64 y3, .int .i64 s4.length, .int .i64 y5])) ((((((((((((X2.setCell ⟨w.heap.size + 1, 0, none⟩ (.int .i64 x0)).setCell ⟨w.heap.size + 1, 1, none⟩ (.string x1)).setCell ⟨w.heap.size + 1, 2, none⟩ (.string x2)).setCell ⟨w.heap.size + 1, 3, none⟩ (.int .i64 x3)).setCell ⟨w.heap.size + 1, 4, none⟩ (.int .i64 r4.length)).setCell ⟨w.heap.size + 1, 5, none⟩ (.int .i64 x5)).setCell ⟨w.heap.size + 1, 6, none⟩ (.int .i64 y0)).setCell ⟨w.heap.size + 1, 7, none⟩ (.string y1)).setCell ⟨w.heap.size + 1, 8, none⟩ (.string y2)).setCell ⟨w.heap.size + 1, 9, none⟩ (.int .i64 y3)).setCell ⟨w.heap.size + 1, 10, none⟩ (.int .i64 s4.length)).setCell ⟨w.heap.size + 1, 11, none⟩ (.int .i64 y5))) := by rw [HQ.out]; exact Lib.hid ⟨rfl, hb2⟩
  clear ho hb2
  generalize ((((((((((((X2.setCell ⟨w.heap.size + 1, 0, none⟩ (.int .i64 x0)).setCell ⟨w.heap.size + 1, 1, none⟩ (.string x1)).setCell ⟨w.heap.size + 1, 2, none⟩ (.string x2)).setCell ⟨w.heap.size + 1, 3, none⟩ (.int .i64 x3)).setCell ⟨w.heap.size + 1, 4, none⟩ (.int .i64 r4.length)).setCell ⟨w.heap.size + 1, 5, none⟩ (.int .i64 x5)).setCell ⟨w.heap.size + 1, 6, none⟩ (.int .i64 y0)).setCell ⟨w.heap.size + 1, 7, none⟩ (.string y1)).setCell ⟨w.heap.size + 1, 8, none⟩ (.string y2)).setCell ⟨w.heap.size + 1, 9, none⟩ (.int .i64 y3)).setCell ⟨w.heap.size + 1, 10, none⟩ (.int .i64 s4.length)).setCell ⟨w.heap.size + 1, 11, none⟩ (.int .i64 y5)) = X3 at *
  try simp only [Act.put, List.getElem_toArray, List.getElem_cons_succ, List.getElem_cons_zero, List.setIfInBounds_toArray, List.set_cons_zero, List.set_cons_succ]
  refine wpAnyH_done (by kernel_rfl) ?_ _
  have j0 := RS.out.cell 0
  have j1 := RS.out.cell 1
  have j2 := RS.out.cell 2
  have j3 := RS.out.cell 3
  have j4 := RS.out.cell 4
  have j5 := RS.out.cell 5
  have j6 := RS.out.cell 6
  have j7 := RS.out.cell 7
  have j8 := RS.out.cell 8
  have j9 := RS.out.cell 9
  have j10 := RS.out.cell 10
  have j11 := RS.out.cell 11
  clear hHeld rr
  go_wp2_with fail
  try simp only [Exit.inBlock, Exit.then]
  exact bodyPost_ret (v := .agg #[.int .i64 x0, .string x1, .string x2, .int .i64 x3, .int .i64 r4.length, .int .i64 x5, .int .i64 y0, .string y1, .string y2, .int .i64 y3, .int .i64 s4.length, .int .i64 y5]) (by simp [results, Tryz.results41, go_sem, j0, j1, j2, j3, j4, j5, j6, j7, j8, j9, j10, j11]) rfl E.out
theorem pairGuard : Tryz.prog.eqGuardType Tryz.prog.depth PairT = false := by kernel_rfl
theorem pairElem : Tryz.prog.underlying PairT = some (.array 2 MarkT) := by kernel_rfl
theorem markInfo : (Tryz.prog.info? MarkT).isSome = true := by kernel_rfl
theorem markCells : Tryz.prog.cellsOf MarkT = 6 := by kernel_rfl
/-- A pair of marks held against nothing. -/
theorem pair_eq (x0 : Int) (x1 x2 : ByteArray) (x3 : Int) (r4 : List Int) (x5 : Int) (y0 : Int) (y1 y2 : ByteArray) (y3 : Int) (s4 : List Int) (y5 : Int) (b : Bool) (hb : b = true ↔ (NoneP x0 x1 x2 x3 r4 x5 ∧ NoneP y0 y1 y2 y3 s4 y5)) (w : World) : (Op.equalIn 10000 PairT (.agg #[.int .i64 x0, .string x1, .string x2, .int .i64 x3, .int .i64 r4.length, .int .i64 x5, .int .i64 y0, .string y1, .string y2, .int .i64 y3, .int .i64 s4.length, .int .i64 y5]) (.agg #[.int .i64 0, .string ⟨#[]⟩, .string ⟨#[]⟩, .int .i64 0, .int .i64 0, .int .i64 0, .int .i64 0, .string ⟨#[]⟩, .string ⟨#[]⟩, .int .i64 0, .int .i64 0, .int .i64 0])).run Tryz.prog w = .ok b w := by
  obtain ⟨i, hi⟩ := Option.isSome_iff_exists.1 markInfo
  rw [show (10000 : Nat) = 9999 + 1 from rfl, run_equalIn_array w 9999 _ _ pairElem hi, markCells]
  have p0 : ∀ V : World, (part MarkT #[.int .i64 x0, .string x1, .string x2, .int .i64 x3, .int .i64 r4.length, .int .i64 x5, .int .i64 y0, .string y1, .string y2, .int .i64 y3, .int .i64 s4.length, .int .i64 y5] (0 * 6)).run Tryz.prog V = .ok (.agg #[.int .i64 x0, .string x1, .string x2, .int .i64 x3, .int .i64 r4.length, .int .i64 x5]) V := fun V => by kernel_rfl
  have p1 : ∀ V : World, (part MarkT #[.int .i64 x0, .string x1, .string x2, .int .i64 x3, .int .i64 r4.length, .int .i64 x5, .int .i64 y0, .string y1, .string y2, .int .i64 y3, .int .i64 s4.length, .int .i64 y5] (1 * 6)).run Tryz.prog V = .ok (.agg #[.int .i64 y0, .string y1, .string y2, .int .i64 y3, .int .i64 s4.length, .int .i64 y5]) V := fun V => by kernel_rfl
  have z0 : ∀ V : World, (part MarkT #[.int .i64 0, .string ⟨#[]⟩, .string ⟨#[]⟩, .int .i64 0, .int .i64 0, .int .i64 0, .int .i64 0, .string ⟨#[]⟩, .string ⟨#[]⟩, .int .i64 0, .int .i64 0, .int .i64 0] (0 * 6)).run Tryz.prog V = .ok (.agg #[.int .i64 0, .string ⟨#[]⟩, .string ⟨#[]⟩, .int .i64 0, .int .i64 0, .int .i64 0]) V := fun V => by kernel_rfl
  have z1 : ∀ V : World, (part MarkT #[.int .i64 0, .string ⟨#[]⟩, .string ⟨#[]⟩, .int .i64 0, .int .i64 0, .int .i64 0, .int .i64 0, .string ⟨#[]⟩, .string ⟨#[]⟩, .int .i64 0, .int .i64 0, .int .i64 0] (1 * 6)).run Tryz.prog V = .ok (.agg #[.int .i64 0, .string ⟨#[]⟩, .string ⟨#[]⟩, .int .i64 0, .int .i64 0, .int .i64 0]) V := fun V => by kernel_rfl
  have hr : List.range 2 = [0, 1] := rfl
  rw [hr]
  by_cases hx : NoneP x0 x1 x2 x3 r4 x5
  · have m0 := mark_eq 9997 x0 x1 x2 x3 r4 x5 true ⟨fun _ => hx, fun _ => rfl⟩ w
    by_cases hy : NoneP y0 y1 y2 y3 s4 y5
    · have m1 := mark_eq 9997 y0 y1 y2 y3 s4 y5 true ⟨fun _ => hy, fun _ => rfl⟩ w
      obtain rfl : b = true := hb.2 ⟨hx, hy⟩
      simp only [Op.eqItems, Sem.run_bind, p0, p1, z0, z1, m0, m1, Result.andThen_ok, Bool.not_true, Bool.false_eq_true, if_false, Sem.run_pure]
    · have m1 := mark_eq 9997 y0 y1 y2 y3 s4 y5 false ⟨fun e => (by cases e), fun e => absurd e hy⟩ w
      obtain rfl : b = false := by
        cases b with
        | false => rfl
        | true => exact absurd (hb.1 rfl).2 hy
      simp only [Op.eqItems, Sem.run_bind, p0, p1, z0, z1, m0, m1, Result.andThen_ok, Bool.not_true, Bool.false_eq_true, if_false, Bool.not_false, if_true, Sem.run_pure]
  · have m0 := mark_eq 9997 x0 x1 x2 x3 r4 x5 false ⟨fun e => (by cases e), fun e => absurd e hx⟩ w
    obtain rfl : b = false := by
      cases b with
      | false => rfl
      | true => exact absurd (hb.1 rfl).1 hx
    simp only [Op.eqItems, Sem.run_bind, p0, z0, m0, Result.andThen_ok, Bool.not_false, if_true, Sem.run_pure]
/-- Slots that are right are nothing, or the main ones are keys. -/
theorem slotsP_iff (x0 : Int) (x1 x2 : ByteArray) (x3 : Int) (r4 : List Int) (x5 : Int) (y0 : Int) (y1 y2 : ByteArray) (y3 : Int) (s4 : List Int) (y5 : Int) (hn : ¬ (NoneP x0 x1 x2 x3 r4 x5 ∧ NoneP y0 y1 y2 y3 s4 y5)) : SlotsP x0 x1 x2 x3 r4 x5 y0 y1 y2 y3 s4 y5 ↔ (KeysP x0 x1 x2 x3 r4 x5 ∧ SlotP y0 y1 y2 y3 s4 y5 ∧ y0 < x0) := by
  constructor
  · rintro ⟨hx, hy, hl⟩
    rcases hx with hx | hx
    · exfalso
      rcases hy with hy | hy
      · exact hn ⟨hx, hy⟩
      · rcases hl with hl | hl
        · exact hn ⟨hx, hl⟩
        · have h1 := hx.1
          have h2 := hy.1.1
          omega
    · refine ⟨hx, hy, ?_⟩
      rcases hl with hl | hl
      · have h1 := hx.1.1
        have h2 := hl.1
        omega
      · exact hl
  · rintro ⟨hx, hy, hl⟩
    exact ⟨.inr hx, hy, .inr hl⟩
set_option maxRecDepth 100000 in
set_option maxHeartbeats 6400000 in
theorem implSlotsOk_any (x0 : Int) (x1 x2 : ByteArray) (x3 : Int) (v4 : Value) (r4 : List Int) (x5 : Int) (y0 : Int) (y1 y2 : ByteArray) (y3 : Int) (u4 : Value) (s4 : List Int) (y5 : Int) (b : Bool) (hb : b = true ↔ SlotsP x0 x1 x2 x3 r4 x5 y0 y1 y2 y3 s4 y5) (hl : r4.length ≤ 100000000) (hk : s4.length ≤ 100000000) (gx : ∀ x ∈ r4, IntZ x) (gy : ∀ x ∈ s4, IntZ x) (w : World) (h : layIntS.rd w [v4] r4) (k : layIntS.rd w [u4] s4) :
    Calls Tryz.prog 25 #[.agg #[.int .i64 x0, .string x1, .string x2, .int .i64 x3, v4, .int .i64 x5, .int .i64 y0, .string y1, .string y2, .int .i64 y3, u4, .int .i64 y5]] w fun e w' => e = .returned (.bool b) ∧ Below w.heap.size w w' := by
  obtain ⟨a4, p4, rfl⟩ := rows_form h
  obtain ⟨b4, q4, rfl⟩ := rows_form k
  have A0 := Lib.hid (VarA.new w SlotsT #[.int .i64 x0, .string x1, .string x2, .int .i64 x3, .slice a4 r4.length p4, .int .i64 x5, .int .i64 y0, .string y1, .string y2, .int .i64 y3, .slice b4 s4.length q4, .int .i64 y5])
  have B0 := Lib.hid ((Below.refl w.heap.size w).alloc (Nat.le_refl _) (.cells #[.int .i64 x0, .string x1, .string x2, .int .i64 x3, .slice a4 r4.length p4, .int .i64 x5, .int .i64 y0, .string y1, .string y2, .int .i64 y3, .slice b4 s4.length q4, .int .i64 y5] SlotsT))
  have HR := Lib.hid (layIntS.below h B0.out)
  have HK := Lib.hid (layIntS.below k B0.out)
  have HB := Lib.hid hb
  clear h k hb
  have gd := pairGuard
  go_enter Tryz.func25, Tryz.ntmps25
  go_upto_region 1 with fail
  generalize (w.alloc (.cells #[.int .i64 x0, .string x1, .string x2, .int .i64 x3, .slice a4 r4.length p4, .int .i64 x5, .int .i64 y0, .string y1, .string y2, .int .i64 y3, .slice b4 s4.length q4, .int .i64 y5] SlotsT)) = Y at *
  have c0 : Y.cell? ⟨w.heap.size, 0, none⟩ = some (.int .i64 x0) := A0.out.cell 0
  have c1 : Y.cell? ⟨w.heap.size, 1, none⟩ = some (.string x1) := A0.out.cell 1
  have c2 : Y.cell? ⟨w.heap.size, 2, none⟩ = some (.string x2) := A0.out.cell 2
  have c3 : Y.cell? ⟨w.heap.size, 3, none⟩ = some (.int .i64 x3) := A0.out.cell 3
  have c4 : Y.cell? ⟨w.heap.size, 4, none⟩ = some (.slice a4 r4.length p4) := A0.out.cell 4
  have c5 : Y.cell? ⟨w.heap.size, 5, none⟩ = some (.int .i64 x5) := A0.out.cell 5
  have c6 : Y.cell? ⟨w.heap.size, 6, none⟩ = some (.int .i64 y0) := A0.out.cell 6
  have c7 : Y.cell? ⟨w.heap.size, 7, none⟩ = some (.string y1) := A0.out.cell 7
  have c8 : Y.cell? ⟨w.heap.size, 8, none⟩ = some (.string y2) := A0.out.cell 8
  have c9 : Y.cell? ⟨w.heap.size, 9, none⟩ = some (.int .i64 y3) := A0.out.cell 9
  have c10 : Y.cell? ⟨w.heap.size, 10, none⟩ = some (.slice b4 s4.length q4) := A0.out.cell 10
  have c11 : Y.cell? ⟨w.heap.size, 11, none⟩ = some (.int .i64 y5) := A0.out.cell 11
  have K := Lib.hid (pairOf_any x0 x1 x2 x3 _ r4 x5 y0 y1 y2 y3 _ s4 y5 Y HR.out HK.out)
  by_cases hn : NoneP x0 x1 x2 x3 r4 x5 ∧ NoneP y0 y1 y2 y3 s4 y5
  · obtain rfl : b = true := HB.out.2 ⟨.inl hn.1, .inl hn.2, .inl hn.2⟩
    have Q := pair_eq x0 x1 x2 x3 r4 x5 y0 y1 y2 y3 s4 y5 true ⟨fun _ => hn, fun _ => rfl⟩
    clear hn
    go_wp2_with fail
    refine (K.out).mono ?_
    rintro e Z ⟨rfl, hb⟩
    replace B0 := Lib.hid (B0.out.trans (hb.mono B0.out.size))
    clear hb K c0 c1 c2 c3 c4 c5 c6 c7 c8 c9 c10 c11
    go_wp2_with fail
    go_ret
    exact ⟨rfl, B0.out⟩
  have Q := pair_eq x0 x1 x2 x3 r4 x5 y0 y1 y2 y3 s4 y5 false ⟨fun e => (by cases e), fun e => absurd e hn⟩
  go_wp2_with fail
  refine (K.out).mono ?_
  rintro e Z ⟨rfl, hb⟩
  clear c0 c1 c2 c3 c4 c5 c6 c7 c8 c9 c10 c11
  replace B0 := Lib.hid (B0.out.trans (hb.mono B0.out.size))
  replace A0 := Lib.hid (A0.out.next hb)
  replace HR := Lib.hid (layIntS.below HR.out hb)
  replace HK := Lib.hid (layIntS.below HK.out hb)
  clear hb K
  have c0 : Z.cell? ⟨w.heap.size, 0, none⟩ = some (.int .i64 x0) := A0.out.cell 0
  have c1 : Z.cell? ⟨w.heap.size, 1, none⟩ = some (.string x1) := A0.out.cell 1
  have c2 : Z.cell? ⟨w.heap.size, 2, none⟩ = some (.string x2) := A0.out.cell 2
  have c3 : Z.cell? ⟨w.heap.size, 3, none⟩ = some (.int .i64 x3) := A0.out.cell 3
  have c4 : Z.cell? ⟨w.heap.size, 4, none⟩ = some (.slice a4 r4.length p4) := A0.out.cell 4
  have c5 : Z.cell? ⟨w.heap.size, 5, none⟩ = some (.int .i64 x5) := A0.out.cell 5
  have c6 : Z.cell? ⟨w.heap.size, 6, none⟩ = some (.int .i64 y0) := A0.out.cell 6
  have c7 : Z.cell? ⟨w.heap.size, 7, none⟩ = some (.string y1) := A0.out.cell 7
  have c8 : Z.cell? ⟨w.heap.size, 8, none⟩ = some (.string y2) := A0.out.cell 8
  have c9 : Z.cell? ⟨w.heap.size, 9, none⟩ = some (.int .i64 y3) := A0.out.cell 9
  have c10 : Z.cell? ⟨w.heap.size, 10, none⟩ = some (.slice b4 s4.length q4) := A0.out.cell 10
  have c11 : Z.cell? ⟨w.heap.size, 11, none⟩ = some (.int .i64 y5) := A0.out.cell 11
  go_upto_region 3 with fail
  replace HB := Lib.hid (HB.out.trans (slotsP_iff x0 x1 x2 x3 r4 x5 y0 y1 y2 y3 s4 y5 hn))
  have HF : Hid (¬ (KeysP x0 x1 x2 x3 r4 x5 ∧ SlotP y0 y1 y2 y3 s4 y5 ∧ y0 < x0) → b = false) := Lib.hid (fun h => by
    cases b with
    | false => rfl
    | true => exact absurd (HB.out.1 rfl) h)
  clear hn Q
  by_cases h1 : KeysP x0 x1 x2 x3 r4 x5
  rotate_left
  · obtain rfl := HF.out (fun h => h1 h.1)
    have K := Lib.hid (hasKeys_bool w.heap.size x0 x1 x2 x3 _ r4 x5 false ⟨fun e => (by cases e), fun e => absurd e h1⟩ hl gx Z HR.out c0 c1 c2 c3 c4 c5)
    clear h1
    go_wp2_with fail
    refine (K.out).mono ?_
    rintro e Z2 ⟨rfl, hb⟩
    replace B0 := Lib.hid (B0.out.trans (hb.mono B0.out.size))
    clear hb K c0 c1 c2 c3 c4 c5 c6 c7 c8 c9 c10 c11
    go_wp2_with fail
    go_ret
    exact ⟨rfl, B0.out⟩
  have K := Lib.hid (hasKeys_bool w.heap.size x0 x1 x2 x3 _ r4 x5 true ⟨fun _ => h1, fun _ => rfl⟩ hl gx Z HR.out c0 c1 c2 c3 c4 c5)
  go_wp2_with fail
  refine (K.out).mono ?_
  rintro e Z2 ⟨rfl, hb⟩
  clear c0 c1 c2 c3 c4 c5 c6 c7 c8 c9 c10 c11
  replace B0 := Lib.hid (B0.out.trans (hb.mono B0.out.size))
  replace A0 := Lib.hid (A0.out.next hb)
  replace HR := Lib.hid (layIntS.below HR.out hb)
  replace HK := Lib.hid (layIntS.below HK.out hb)
  clear hb K
  have c0 : Z2.cell? ⟨w.heap.size, 0, none⟩ = some (.int .i64 x0) := A0.out.cell 0
  have c1 : Z2.cell? ⟨w.heap.size, 1, none⟩ = some (.string x1) := A0.out.cell 1
  have c2 : Z2.cell? ⟨w.heap.size, 2, none⟩ = some (.string x2) := A0.out.cell 2
  have c3 : Z2.cell? ⟨w.heap.size, 3, none⟩ = some (.int .i64 x3) := A0.out.cell 3
  have c4 : Z2.cell? ⟨w.heap.size, 4, none⟩ = some (.slice a4 r4.length p4) := A0.out.cell 4
  have c5 : Z2.cell? ⟨w.heap.size, 5, none⟩ = some (.int .i64 x5) := A0.out.cell 5
  have c6 : Z2.cell? ⟨w.heap.size, 6, none⟩ = some (.int .i64 y0) := A0.out.cell 6
  have c7 : Z2.cell? ⟨w.heap.size, 7, none⟩ = some (.string y1) := A0.out.cell 7
  have c8 : Z2.cell? ⟨w.heap.size, 8, none⟩ = some (.string y2) := A0.out.cell 8
  have c9 : Z2.cell? ⟨w.heap.size, 9, none⟩ = some (.int .i64 y3) := A0.out.cell 9
  have c10 : Z2.cell? ⟨w.heap.size, 10, none⟩ = some (.slice b4 s4.length q4) := A0.out.cell 10
  have c11 : Z2.cell? ⟨w.heap.size, 11, none⟩ = some (.int .i64 y5) := A0.out.cell 11
  by_cases h2 : SlotP y0 y1 y2 y3 s4 y5
  rotate_left
  · obtain rfl := HF.out (fun h => h2 h.2.1)
    have K := Lib.hid (implSlotOk_any y0 y1 y2 y3 _ s4 y5 false ⟨fun e => (by cases e), fun e => absurd e h2⟩ hk gy Z2 HK.out)
    clear h2
    go_wp2_with fail
    refine (K.out).mono ?_
    rintro e Z3 ⟨rfl, hb⟩
    replace B0 := Lib.hid (B0.out.trans (hb.mono B0.out.size))
    clear hb K c0 c1 c2 c3 c4 c5 c6 c7 c8 c9 c10 c11
    go_wp2_with fail
    go_ret
    exact ⟨rfl, B0.out⟩
  have K := Lib.hid (implSlotOk_any y0 y1 y2 y3 _ s4 y5 true ⟨fun _ => h2, fun _ => rfl⟩ hk gy Z2 HK.out)
  go_wp2_with fail
  refine (K.out).mono ?_
  rintro e Z3 ⟨rfl, hb⟩
  clear c0 c1 c2 c3 c4 c5 c6 c7 c8 c9 c10 c11
  replace B0 := Lib.hid (B0.out.trans (hb.mono B0.out.size))
  replace A0 := Lib.hid (A0.out.next hb)
  replace HR := Lib.hid (layIntS.below HR.out hb)
  replace HK := Lib.hid (layIntS.below HK.out hb)
  clear hb K
  have c0 : Z3.cell? ⟨w.heap.size, 0, none⟩ = some (.int .i64 x0) := A0.out.cell 0
  have c1 : Z3.cell? ⟨w.heap.size, 1, none⟩ = some (.string x1) := A0.out.cell 1
  have c2 : Z3.cell? ⟨w.heap.size, 2, none⟩ = some (.string x2) := A0.out.cell 2
  have c3 : Z3.cell? ⟨w.heap.size, 3, none⟩ = some (.int .i64 x3) := A0.out.cell 3
  have c4 : Z3.cell? ⟨w.heap.size, 4, none⟩ = some (.slice a4 r4.length p4) := A0.out.cell 4
  have c5 : Z3.cell? ⟨w.heap.size, 5, none⟩ = some (.int .i64 x5) := A0.out.cell 5
  have c6 : Z3.cell? ⟨w.heap.size, 6, none⟩ = some (.int .i64 y0) := A0.out.cell 6
  have c7 : Z3.cell? ⟨w.heap.size, 7, none⟩ = some (.string y1) := A0.out.cell 7
  have c8 : Z3.cell? ⟨w.heap.size, 8, none⟩ = some (.string y2) := A0.out.cell 8
  have c9 : Z3.cell? ⟨w.heap.size, 9, none⟩ = some (.int .i64 y3) := A0.out.cell 9
  have c10 : Z3.cell? ⟨w.heap.size, 10, none⟩ = some (.slice b4 s4.length q4) := A0.out.cell 10
  have c11 : Z3.cell? ⟨w.heap.size, 11, none⟩ = some (.int .i64 y5) := A0.out.cell 11
  by_cases h3 : y0 < x0
  · obtain rfl : b = true := HB.out.2 ⟨h1, h2, h3⟩
    have hd : decide (y0 < x0) = true := decide_eq_true h3
    go_wp2_with fail
    go_ret
    exact ⟨rfl, B0.out⟩
  · obtain rfl := HF.out (fun h => h3 h.2.2)
    have hd : decide (y0 < x0) = false := decide_eq_false h3
    go_wp2_with fail
    go_ret
    exact ⟨rfl, B0.out⟩
end Go.Proofs.YtoaifgblbfdncabGreatDoor
