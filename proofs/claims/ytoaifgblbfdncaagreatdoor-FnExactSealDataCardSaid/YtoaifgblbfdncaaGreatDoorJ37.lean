/-
  The program's copies of slots.
-/
import Derived.Test.YtoaifgblbfdncaaGreatDoorJ09
import Derived.Test.YtoaifgblbfdncaaGreatDoorJ36
namespace Go.Proofs.YtoaifgblbfdncaaGreatDoor
open Go.RowKit

/-- What the library's Clone gives. -/
def CloneS : Prop := ∀ (s : ByteArray) (w : World), s.size ≤ 100000000 → Calls Tryz.prog 61 #[.string s] w fun e w' => e = .returned (.string s) ∧ Below w.heap.size w w'
set_option maxRecDepth 100000 in
set_option maxHeartbeats 6400000 in
theorem copyOfSlot_any (HG : CloneS) (x0 : Int) (x1 x2 : ByteArray) (x3 : Int) (v4 : Value) (r4 : List Int) (x5 : Int) (h1 : x1.size ≤ 10000000) (h2 : x2.size ≤ 10000000) (hl : r4.length ≤ 10000000) (w : World) (h : layIntS.rd w [v4] r4) :
    Calls Tryz.prog 62 #[.agg #[.int .i64 x0, .string x1, .string x2, .int .i64 x3, v4, .int .i64 x5]] w (SlotMade x0 x1 x2 x3 r4 x5 w) := by
  obtain ⟨a4, p4, rfl⟩ := rows_form h
  obtain ⟨i0, hi0, hz0, hsz0, hby0⟩ := info_of infoInt
  have e1 : (w.alloc (.cells #[.int .i64 x0, .string x1, .string x2, .int .i64 x3, .slice a4 r4.length p4, .int .i64 x5] SlotT)).heap.size = w.heap.size + 1 := by simp
  have h3 := VarA.new (w.alloc (.cells #[.int .i64 x0, .string x1, .string x2, .int .i64 x3, .slice a4 r4.length p4, .int .i64 x5] SlotT)) SlotT #[.int .i64 0, .string ⟨#[]⟩, .string ⟨#[]⟩, .int .i64 0, .slice none 0 0, .int .i64 0]
  rw [e1] at h3
  have A0 := Lib.hid ((VarA.new w SlotT #[.int .i64 x0, .string x1, .string x2, .int .i64 x3, .slice a4 r4.length p4, .int .i64 x5]).alloc (.cells #[.int .i64 0, .string ⟨#[]⟩, .string ⟨#[]⟩, .int .i64 0, .slice none 0 0, .int .i64 0] SlotT))
  have rr := Lib.hid h3
  have BY := Lib.hid (((Below.refl w.heap.size w).alloc (Nat.le_refl _) (.cells #[.int .i64 x0, .string x1, .string x2, .int .i64 x3, .slice a4 r4.length p4, .int .i64 x5] SlotT)).alloc (by simp) (.cells #[.int .i64 0, .string ⟨#[]⟩, .string ⟨#[]⟩, .int .i64 0, .slice none 0 0, .int .i64 0] SlotT))
  have hz : Hid (((w.alloc (.cells #[.int .i64 x0, .string x1, .string x2, .int .i64 x3, .slice a4 r4.length p4, .int .i64 x5] SlotT)).alloc (.cells #[.int .i64 0, .string ⟨#[]⟩, .string ⟨#[]⟩, .int .i64 0, .slice none 0 0, .int .i64 0] SlotT)).heap.size = w.heap.size + 2) := Lib.hid (by simp)
  have HR := Lib.hid h
  have K1 := Lib.hid (fun w => HG x1 w (by omega))
  have K2 := Lib.hid (fun w => HG x2 w (by omega))
  clear h h3 e1 h1 h2
  obtain ⟨Q, HQ⟩ : ∃ Q : Ending → World → Prop, Hid (Q = SlotMade x0 x1 x2 x3 r4 x5 w) := ⟨_, Lib.hid rfl⟩
  rw [← HQ.out]
  go_enter Tryz.func62, Tryz.ntmps62
  go_upto_region 1 with fail
  generalize ((w.alloc (.cells #[.int .i64 x0, .string x1, .string x2, .int .i64 x3, .slice a4 r4.length p4, .int .i64 x5] SlotT)).alloc (.cells #[.int .i64 0, .string ⟨#[]⟩, .string ⟨#[]⟩, .int .i64 0, .slice none 0 0, .int .i64 0] SlotT)) = Y at *
  have qv : ∀ X Y, (Hid (VarA w.heap.size SlotT #[.int .i64 x0, .string x1, .string x2, .int .i64 x3, .slice a4 r4.length p4, .int .i64 x5] X ∧ Below w.heap.size w X)) → Below X.heap.size X Y → (Hid (VarA w.heap.size SlotT #[.int .i64 x0, .string x1, .string x2, .int .i64 x3, .slice a4 r4.length p4, .int .i64 x5] Y ∧ Below w.heap.size w Y)) := fun X Y h hb => Lib.hid ⟨h.out.1.next hb, h.out.2.trans (hb.mono h.out.2.size)⟩
  have E0 : Hid (VarA w.heap.size SlotT #[.int .i64 x0, .string x1, .string x2, .int .i64 x3, .slice a4 r4.length p4, .int .i64 x5] Y.drew ∧ Below w.heap.size w Y.drew) := Lib.hid ⟨A0.out.drew, BY.out.drew⟩
  replace rr := Lib.hid rr.out.drew
  replace hz : Hid (Y.drew.heap.size = w.heap.size + 2) := hz
  go_wp2_with fail
  clear A0 BY
  refine wp_region_held_drew (S := fun X => Hid (VarA w.heap.size SlotT #[.int .i64 x0, .string x1, .string x2, .int .i64 x3, .slice a4 r4.length p4, .int .i64 x5] X ∧ Below w.heap.size w X)) (by kernel_rfl) E0 (fun hHeld => ?_)
  clear E0
  generalize Y.drew = X0 at *
  have hlo : Hid (w.heap.size + 2 ≤ X0.heap.size) := Lib.hid (by have := hz.out; omega)
  clear hz
  refine wpAnyH_take (i := 0) (v := ?_) rfl (by kernel_rfl) (by kernel_rfl) (by kernel_rfl) (fun _ _ _ h => h) (Or.inl ⟨by kernel_rfl, ?_⟩) hHeld ?_
  rotate_left
  · intro X hX
    first | (go_simp; done) | (go_simp; with_reducible rfl)
  try simp only [Act.put, List.getElem_toArray, List.getElem_cons_zero, List.setIfInBounds_toArray, List.set_cons_zero, List.set_cons_succ]
  refine wpAnyH_take (i := 1) (v := ?_) rfl (by kernel_rfl) (by kernel_rfl) (by kernel_rfl) (fun _ _ _ h => h) (Or.inl ⟨by kernel_rfl, ?_⟩) hHeld ?_
  rotate_left
  · intro X hX
    have y0 : X.cell? ⟨w.heap.size, 0, none⟩ = some (.int .i64 x0) := hX.out.1.cell 0
    first | (go_simp; done) | (go_simp; with_reducible rfl)
  try simp only [Act.put, List.getElem_toArray, List.getElem_cons_succ, List.getElem_cons_zero, List.setIfInBounds_toArray, List.set_cons_zero, List.set_cons_succ]
  refine wpAnyH_take (i := 2) (v := ?_) rfl (by kernel_rfl) (by kernel_rfl) (by kernel_rfl) (fun _ _ _ h => h) (Or.inl ⟨by kernel_rfl, ?_⟩) hHeld ?_
  rotate_left
  · intro X hX
    first | (go_simp; done) | (go_simp; with_reducible rfl)
  try simp only [Act.put, List.getElem_toArray, List.getElem_cons_succ, List.getElem_cons_zero, List.setIfInBounds_toArray, List.set_cons_zero, List.set_cons_succ]
  refine wpAnyH_take (i := 3) (v := ?_) rfl (by kernel_rfl) (by kernel_rfl) (by kernel_rfl) (fun _ _ _ h => h) (Or.inl ⟨by kernel_rfl, ?_⟩) hHeld ?_
  rotate_left
  · intro X hX
    have y1 : X.cell? ⟨w.heap.size, 1, none⟩ = some (.string x1) := hX.out.1.cell 1
    first | (go_simp; done) | (go_simp; with_reducible rfl)
  try simp only [Act.put, List.getElem_toArray, List.getElem_cons_succ, List.getElem_cons_zero, List.setIfInBounds_toArray, List.set_cons_zero, List.set_cons_succ]
  refine wpAnyH_take (i := 5) (v := ?_) rfl (by kernel_rfl) (by kernel_rfl) (by kernel_rfl) (fun _ _ _ h => h) (Or.inl ⟨by kernel_rfl, ?_⟩) hHeld ?_
  rotate_left
  · intro X hX
    first | (go_simp; done) | (go_simp; with_reducible rfl)
  try simp only [Act.put, List.getElem_toArray, List.getElem_cons_succ, List.getElem_cons_zero, List.setIfInBounds_toArray, List.set_cons_zero, List.set_cons_succ]
  refine wpAnyH_take (i := 6) (v := ?_) rfl (by kernel_rfl) (by kernel_rfl) (by kernel_rfl) (fun _ _ _ h => h) (Or.inl ⟨by kernel_rfl, ?_⟩) hHeld ?_
  rotate_left
  · intro X hX
    have y2 : X.cell? ⟨w.heap.size, 2, none⟩ = some (.string x2) := hX.out.1.cell 2
    first | (go_simp; done) | (go_simp; with_reducible rfl)
  try simp only [Act.put, List.getElem_toArray, List.getElem_cons_succ, List.getElem_cons_zero, List.setIfInBounds_toArray, List.set_cons_zero, List.set_cons_succ]
  refine wpAnyH_take (i := 8) (v := ?_) rfl (by kernel_rfl) (by kernel_rfl) (by kernel_rfl) (fun _ _ _ h => h) (Or.inl ⟨by kernel_rfl, ?_⟩) hHeld ?_
  rotate_left
  · intro X hX
    first | (go_simp; done) | (go_simp; with_reducible rfl)
  try simp only [Act.put, List.getElem_toArray, List.getElem_cons_succ, List.getElem_cons_zero, List.setIfInBounds_toArray, List.set_cons_zero, List.set_cons_succ]
  refine wpAnyH_take (i := 9) (v := ?_) rfl (by kernel_rfl) (by kernel_rfl) (by kernel_rfl) (fun _ _ _ h => h) (Or.inl ⟨by kernel_rfl, ?_⟩) hHeld ?_
  rotate_left
  · intro X hX
    have y3 : X.cell? ⟨w.heap.size, 3, none⟩ = some (.int .i64 x3) := hX.out.1.cell 3
    first | (go_simp; done) | (go_simp; with_reducible rfl)
  try simp only [Act.put, List.getElem_toArray, List.getElem_cons_succ, List.getElem_cons_zero, List.setIfInBounds_toArray, List.set_cons_zero, List.set_cons_succ]
  refine wpAnyH_take (i := 11) (v := ?_) rfl (by kernel_rfl) (by kernel_rfl) (by kernel_rfl) (fun _ _ _ h => h) (Or.inl ⟨by kernel_rfl, ?_⟩) hHeld ?_
  rotate_left
  · intro X hX
    first | (go_simp; done) | (go_simp; with_reducible rfl)
  try simp only [Act.put, List.getElem_toArray, List.getElem_cons_succ, List.getElem_cons_zero, List.setIfInBounds_toArray, List.set_cons_zero, List.set_cons_succ]
  refine wpAnyH_take (i := 12) (v := ?_) rfl (by kernel_rfl) (by kernel_rfl) (by kernel_rfl) (fun _ _ _ h => h) (Or.inl ⟨by kernel_rfl, ?_⟩) hHeld ?_
  rotate_left
  · intro X hX
    have y4 : X.cell? ⟨w.heap.size, 4, none⟩ = some (.slice a4 r4.length p4) := hX.out.1.cell 4
    first | (go_simp; done) | (go_simp; with_reducible rfl)
  try simp only [Act.put, List.getElem_toArray, List.getElem_cons_succ, List.getElem_cons_zero, List.setIfInBounds_toArray, List.set_cons_zero, List.set_cons_succ]
  refine wpAnyH_take (i := 14) (v := ?_) rfl (by kernel_rfl) (by kernel_rfl) (by kernel_rfl) (fun _ _ _ h => h) (Or.inl ⟨by kernel_rfl, ?_⟩) hHeld ?_
  rotate_left
  · intro X hX
    first | (go_simp; done) | (go_simp; with_reducible rfl)
  try simp only [Act.put, List.getElem_toArray, List.getElem_cons_succ, List.getElem_cons_zero, List.setIfInBounds_toArray, List.set_cons_zero, List.set_cons_succ]
  refine wpAnyH_take (i := 15) (v := ?_) rfl (by kernel_rfl) (by kernel_rfl) (by kernel_rfl) (fun _ _ _ h => h) (Or.inl ⟨by kernel_rfl, ?_⟩) hHeld ?_
  rotate_left
  · intro X hX
    have y5 : X.cell? ⟨w.heap.size, 5, none⟩ = some (.int .i64 x5) := hX.out.1.cell 5
    first | (go_simp; done) | (go_simp; with_reducible rfl)
  try simp only [Act.put, List.getElem_toArray, List.getElem_cons_succ, List.getElem_cons_zero, List.setIfInBounds_toArray, List.set_cons_zero, List.set_cons_succ]
  refine wpAnyH_ready (rs := [4, 10]) (by kernel_rfl) (by simp) ?_
  refine AllReadyH.cons rfl (fun K hK => ?_) (AllReadyH.cons rfl (fun K hK => ?_) AllReadyH.nil)
  · go_simp
    go_wp2_with (go_at_call 61; refine (K1.out X0).mono ?_; rintro e X1 ⟨rfl, hb0⟩; have hS := qv _ _ hHeld hb0; have hb := Lib.hid hb0; clear hb0)
    refine hK.out _ _ hS (fun hHeld => ?_)
    clear hK K hS
    replace rr := Lib.hid (rr.out.next hb.out)
    replace hlo : Hid (w.heap.size + 2 ≤ X1.heap.size) := Lib.hid (Nat.le_trans hlo.out hb.out.size)
    clear hb
    try simp only [Act.put, List.getElem_toArray, List.getElem_cons_succ, List.getElem_cons_zero, List.setIfInBounds_toArray, List.set_cons_zero, List.set_cons_succ]
    refine wpAnyH_ready (rs := [7, 10]) (by kernel_rfl) (by simp) ?_
    refine AllReadyH.cons rfl (fun K hK => ?_) (AllReadyH.cons rfl (fun K hK => ?_) AllReadyH.nil)
    · go_simp
      go_wp2_with (go_at_call 61; refine (K2.out X1).mono ?_; rintro e X2 ⟨rfl, hb0⟩; have hS := qv _ _ hHeld hb0; have hb := Lib.hid hb0; clear hb0)
      refine hK.out _ _ hS (fun hHeld => ?_)
      clear hK K hS
      replace rr := Lib.hid (rr.out.next hb.out)
      replace hlo : Hid (w.heap.size + 2 ≤ X2.heap.size) := Lib.hid (Nat.le_trans hlo.out hb.out.size)
      clear hb
      try simp only [Act.put, List.getElem_toArray, List.getElem_cons_succ, List.getElem_cons_zero, List.setIfInBounds_toArray, List.set_cons_zero, List.set_cons_succ]
      refine wpAnyH_ready (rs := [10]) (by kernel_rfl) (by simp) ?_
      refine AllReadyH.cons rfl (fun K hK => ?_) AllReadyH.nil
      go_simp
      have hal : Below X2.heap.size X2 (X2.alloc (.cells #[] 3)) := (Below.refl _ _).alloc (Nat.le_refl _) _
      refine hK.out _ _ (qv _ _ hHeld hal) (fun hHeld => ?_)
      clear hK K
      have hb := Lib.hid hal
      have OW : Hid (layIntS.own (X2.alloc (.cells #[] 3)) (w.heap.size + 2) [X2.heap.size] [.slice (some ⟨X2.heap.size, 0, none⟩) 0 0] []) := Lib.hid (layIntS.lower (flat_lit X2 _ (Nat.le_refl _)) hlo.out)
      clear hal
      generalize X2.alloc (.cells #[] 3) = X3 at *
      have hgb : Hid (w.heap.size + 2 ≤ X2.heap.size) := hlo
      replace rr := Lib.hid (rr.out.next hb.out)
      replace hlo : Hid (w.heap.size + 2 ≤ X3.heap.size) := Lib.hid (Nat.le_trans hlo.out hb.out.size)
      clear hb
      generalize X2.heap.size = gl at *
      try simp only [Act.put, List.getElem_toArray, List.getElem_cons_succ, List.getElem_cons_zero, List.setIfInBounds_toArray, List.set_cons_zero, List.set_cons_succ]
      refine wpAnyH_ready (rs := [13]) (by kernel_rfl) (by simp) ?_
      refine AllReadyH.cons rfl (fun K hK => ?_) AllReadyH.nil
      refine step_copyF rfl _ _ 27 rfl (w.heap.size + 2) 3 i0 _ 8 Lay.int flatIntK Tryz.underlying27 hi0 hz0 hsz0 hby0 rfl (by omega) _ _ _ rfl OW.out (fun e => by cases e) _ r4 rfl (layIntS.below HR.out hHeld.out.2) (by simp; omega) hlo.out ?_
      intro v1 X4 hown1 hnn1 hgr1 hbe1
      obtain ⟨va, vk, rfl⟩ := rows_form (layIntS.read hown1)
      refine hK.out _ _ (Lib.hid ⟨hHeld.out.1.next' hbe1 (by omega), hHeld.out.2.trans (hbe1.mono (by omega))⟩) (fun hHeld => ?_)
      clear hK K OW
      have OW : Hid (layIntS.own X4 (w.heap.size + 2) (blk (.slice va r4.length vk)) [.slice va r4.length vk] r4) := Lib.hid hown1
      replace rr := Lib.hid (rr.out.next' hbe1 (by omega))
      replace hlo : Hid (w.heap.size + 2 ≤ X4.heap.size) := Lib.hid (Nat.le_trans hlo.out hbe1.size)
      clear hown1 hnn1 hgr1 hbe1
      try simp only [Act.put, List.getElem_toArray, List.getElem_cons_succ, List.getElem_cons_zero, List.setIfInBounds_toArray, List.set_cons_zero, List.set_cons_succ]
      refine wpAnyH_take (i := 16) (v := ?_) rfl (by kernel_rfl) (by kernel_rfl) (by kernel_rfl) (fun _ _ _ h => h) (Or.inl ⟨by kernel_rfl, ?_⟩) hHeld ?_
      rotate_left
      · intro X hX
        first | (go_simp; done) | (go_simp; with_reducible rfl)
      try simp only [Act.put, List.getElem_toArray, List.getElem_cons_succ, List.getElem_cons_zero, List.setIfInBounds_toArray, List.set_cons_zero, List.set_cons_succ]
      refine wpAnyH_ready (rs := [17]) (by kernel_rfl) (by simp) ?_
      refine AllReadyH.cons rfl (fun K hK => ?_) AllReadyH.nil
      have r0_ := rr.out.cell 0
      have r1_ := rr.out.cell 1
      have r2_ := rr.out.cell 2
      have r3_ := rr.out.cell 3
      have r4_ := rr.out.cell 4
      have r5_ := rr.out.cell 5
      have g0_ := rr.out.free 0
      have g1_ := rr.out.free 1
      have g2_ := rr.out.free 2
      have g3_ := rr.out.free 3
      have g4_ := rr.out.free 4
      have g5_ := rr.out.free 5
      go_simp
      have ho : Only (w.heap.size + 1) X4 ((((((X4.setCell ⟨w.heap.size + 1, 0, none⟩ (.int .i64 x0)).setCell ⟨w.heap.size + 1, 1, none⟩ (.string x1)).setCell ⟨w.heap.size + 1, 2, none⟩ (.string x2)).setCell ⟨w.heap.size + 1, 3, none⟩ (.int .i64 x3)).setCell ⟨w.heap.size + 1, 4, none⟩ (.slice va r4.length vk)).setCell ⟨w.heap.size + 1, 5, none⟩ (.int .i64 x5)) := putMain_only X4 (w.heap.size + 1) _ _ _ _ _ _
      have hb2 : Below w.heap.size w ((((((X4.setCell ⟨w.heap.size + 1, 0, none⟩ (.int .i64 x0)).setCell ⟨w.heap.size + 1, 1, none⟩ (.string x1)).setCell ⟨w.heap.size + 1, 2, none⟩ (.string x2)).setCell ⟨w.heap.size + 1, 3, none⟩ (.int .i64 x3)).setCell ⟨w.heap.size + 1, 4, none⟩ (.slice va r4.length vk)).setCell ⟨w.heap.size + 1, 5, none⟩ (.int .i64 x5)) := putMain_below hHeld.out.2 (show w.heap.size ≤ w.heap.size + 1 by omega) _ _ _ _ _ _
      refine hK.out _ _ (Lib.hid ⟨hHeld.out.1.only ho (by omega), hb2⟩) (fun hHeld => ?_)
      clear hK K r0_ g0_ r1_ g1_ r2_ g2_ r3_ g3_ r4_ g4_ r5_ g5_
      have RS := Lib.hid (putSix rr.out (.int .i64 x0) (.string x1) (.string x2) (.int .i64 x3) (.slice va r4.length vk) (.int .i64 x5))
      have E : Hid (Q (.returned (.agg #[.int .i64 x0, .string x1, .string x2, .int .i64 x3, .slice va r4.length vk, .int .i64 x5])) ((((((X4.setCell ⟨w.heap.size + 1, 0, none⟩ (.int .i64 x0)).setCell ⟨w.heap.size + 1, 1, none⟩ (.string x1)).setCell ⟨w.heap.size + 1, 2, none⟩ (.string x2)).setCell ⟨w.heap.size + 1, 3, none⟩ (.int .i64 x3)).setCell ⟨w.heap.size + 1, 4, none⟩ (.slice va r4.length vk)).setCell ⟨w.heap.size + 1, 5, none⟩ (.int .i64 x5))) := by rw [HQ.out]; exact Lib.hid ⟨_, _, rfl, blk_dup _, layIntS.lower (layIntS.keep OW.out (fun a ha => ho.block a (layIntS.blocks OW.out a ha).2 (by have := (layIntS.blocks OW.out a ha).1; omega))) (by omega), hb2⟩
      clear ho hb2
      generalize ((((((X4.setCell ⟨w.heap.size + 1, 0, none⟩ (.int .i64 x0)).setCell ⟨w.heap.size + 1, 1, none⟩ (.string x1)).setCell ⟨w.heap.size + 1, 2, none⟩ (.string x2)).setCell ⟨w.heap.size + 1, 3, none⟩ (.int .i64 x3)).setCell ⟨w.heap.size + 1, 4, none⟩ (.slice va r4.length vk)).setCell ⟨w.heap.size + 1, 5, none⟩ (.int .i64 x5)) = X5 at *
      try simp only [Act.put, List.getElem_toArray, List.getElem_cons_succ, List.getElem_cons_zero, List.setIfInBounds_toArray, List.set_cons_zero, List.set_cons_succ]
      refine wpAnyH_done (by kernel_rfl) ?_ _
      have j0 := RS.out.cell 0
      have j1 := RS.out.cell 1
      have j2 := RS.out.cell 2
      have j3 := RS.out.cell 3
      have j4 := RS.out.cell 4
      have j5 := RS.out.cell 5
      clear hHeld rr
      go_wp2_with fail
      try simp only [Exit.inBlock, Exit.then]
      exact bodyPost_ret (v := .agg #[.int .i64 x0, .string x1, .string x2, .int .i64 x3, .slice va r4.length vk, .int .i64 x5]) (by simp [results, Tryz.results62, go_sem, j0, j1, j2, j3, j4, j5]) rfl E.out
    · go_simp
      have hal : Below X1.heap.size X1 (X1.alloc (.cells #[] 3)) := (Below.refl _ _).alloc (Nat.le_refl _) _
      refine hK.out _ _ (qv _ _ hHeld hal) (fun hHeld => ?_)
      clear hK K
      have hb := Lib.hid hal
      have OW : Hid (layIntS.own (X1.alloc (.cells #[] 3)) (w.heap.size + 2) [X1.heap.size] [.slice (some ⟨X1.heap.size, 0, none⟩) 0 0] []) := Lib.hid (layIntS.lower (flat_lit X1 _ (Nat.le_refl _)) hlo.out)
      clear hal
      generalize X1.alloc (.cells #[] 3) = X2 at *
      have hgb : Hid (w.heap.size + 2 ≤ X1.heap.size) := hlo
      replace rr := Lib.hid (rr.out.next hb.out)
      replace hlo : Hid (w.heap.size + 2 ≤ X2.heap.size) := Lib.hid (Nat.le_trans hlo.out hb.out.size)
      clear hb
      generalize X1.heap.size = gl at *
      try simp only [Act.put, List.getElem_toArray, List.getElem_cons_succ, List.getElem_cons_zero, List.setIfInBounds_toArray, List.set_cons_zero, List.set_cons_succ]
      refine wpAnyH_ready (rs := [7]) (by kernel_rfl) (by simp) ?_
      refine AllReadyH.cons rfl (fun K hK => ?_) AllReadyH.nil
      go_simp
      go_wp2_with (go_at_call 61; refine (K2.out X2).mono ?_; rintro e X3 ⟨rfl, hb0⟩; have hS := qv _ _ hHeld hb0; have hb := Lib.hid hb0; clear hb0)
      refine hK.out _ _ hS (fun hHeld => ?_)
      clear hK K hS
      replace rr := Lib.hid (rr.out.next hb.out)
      replace hlo : Hid (w.heap.size + 2 ≤ X3.heap.size) := Lib.hid (Nat.le_trans hlo.out hb.out.size)
      replace OW := Lib.hid (layIntS.next OW.out hb.out)
      clear hb
      try simp only [Act.put, List.getElem_toArray, List.getElem_cons_succ, List.getElem_cons_zero, List.setIfInBounds_toArray, List.set_cons_zero, List.set_cons_succ]
      refine wpAnyH_ready (rs := [13]) (by kernel_rfl) (by simp) ?_
      refine AllReadyH.cons rfl (fun K hK => ?_) AllReadyH.nil
      refine step_copyF rfl _ _ 27 rfl (w.heap.size + 2) 3 i0 _ 8 Lay.int flatIntK Tryz.underlying27 hi0 hz0 hsz0 hby0 rfl (by omega) _ _ _ rfl OW.out (fun e => by cases e) _ r4 rfl (layIntS.below HR.out hHeld.out.2) (by simp; omega) hlo.out ?_
      intro v1 X4 hown1 hnn1 hgr1 hbe1
      obtain ⟨va, vk, rfl⟩ := rows_form (layIntS.read hown1)
      refine hK.out _ _ (Lib.hid ⟨hHeld.out.1.next' hbe1 (by omega), hHeld.out.2.trans (hbe1.mono (by omega))⟩) (fun hHeld => ?_)
      clear hK K OW
      have OW : Hid (layIntS.own X4 (w.heap.size + 2) (blk (.slice va r4.length vk)) [.slice va r4.length vk] r4) := Lib.hid hown1
      replace rr := Lib.hid (rr.out.next' hbe1 (by omega))
      replace hlo : Hid (w.heap.size + 2 ≤ X4.heap.size) := Lib.hid (Nat.le_trans hlo.out hbe1.size)
      clear hown1 hnn1 hgr1 hbe1
      try simp only [Act.put, List.getElem_toArray, List.getElem_cons_succ, List.getElem_cons_zero, List.setIfInBounds_toArray, List.set_cons_zero, List.set_cons_succ]
      refine wpAnyH_take (i := 16) (v := ?_) rfl (by kernel_rfl) (by kernel_rfl) (by kernel_rfl) (fun _ _ _ h => h) (Or.inl ⟨by kernel_rfl, ?_⟩) hHeld ?_
      rotate_left
      · intro X hX
        first | (go_simp; done) | (go_simp; with_reducible rfl)
      try simp only [Act.put, List.getElem_toArray, List.getElem_cons_succ, List.getElem_cons_zero, List.setIfInBounds_toArray, List.set_cons_zero, List.set_cons_succ]
      refine wpAnyH_ready (rs := [17]) (by kernel_rfl) (by simp) ?_
      refine AllReadyH.cons rfl (fun K hK => ?_) AllReadyH.nil
      have r0_ := rr.out.cell 0
      have r1_ := rr.out.cell 1
      have r2_ := rr.out.cell 2
      have r3_ := rr.out.cell 3
      have r4_ := rr.out.cell 4
      have r5_ := rr.out.cell 5
      have g0_ := rr.out.free 0
      have g1_ := rr.out.free 1
      have g2_ := rr.out.free 2
      have g3_ := rr.out.free 3
      have g4_ := rr.out.free 4
      have g5_ := rr.out.free 5
      go_simp
      have ho : Only (w.heap.size + 1) X4 ((((((X4.setCell ⟨w.heap.size + 1, 0, none⟩ (.int .i64 x0)).setCell ⟨w.heap.size + 1, 1, none⟩ (.string x1)).setCell ⟨w.heap.size + 1, 2, none⟩ (.string x2)).setCell ⟨w.heap.size + 1, 3, none⟩ (.int .i64 x3)).setCell ⟨w.heap.size + 1, 4, none⟩ (.slice va r4.length vk)).setCell ⟨w.heap.size + 1, 5, none⟩ (.int .i64 x5)) := putMain_only X4 (w.heap.size + 1) _ _ _ _ _ _
      have hb2 : Below w.heap.size w ((((((X4.setCell ⟨w.heap.size + 1, 0, none⟩ (.int .i64 x0)).setCell ⟨w.heap.size + 1, 1, none⟩ (.string x1)).setCell ⟨w.heap.size + 1, 2, none⟩ (.string x2)).setCell ⟨w.heap.size + 1, 3, none⟩ (.int .i64 x3)).setCell ⟨w.heap.size + 1, 4, none⟩ (.slice va r4.length vk)).setCell ⟨w.heap.size + 1, 5, none⟩ (.int .i64 x5)) := putMain_below hHeld.out.2 (show w.heap.size ≤ w.heap.size + 1 by omega) _ _ _ _ _ _
      refine hK.out _ _ (Lib.hid ⟨hHeld.out.1.only ho (by omega), hb2⟩) (fun hHeld => ?_)
      clear hK K r0_ g0_ r1_ g1_ r2_ g2_ r3_ g3_ r4_ g4_ r5_ g5_
      have RS := Lib.hid (putSix rr.out (.int .i64 x0) (.string x1) (.string x2) (.int .i64 x3) (.slice va r4.length vk) (.int .i64 x5))
      have E : Hid (Q (.returned (.agg #[.int .i64 x0, .string x1, .string x2, .int .i64 x3, .slice va r4.length vk, .int .i64 x5])) ((((((X4.setCell ⟨w.heap.size + 1, 0, none⟩ (.int .i64 x0)).setCell ⟨w.heap.size + 1, 1, none⟩ (.string x1)).setCell ⟨w.heap.size + 1, 2, none⟩ (.string x2)).setCell ⟨w.heap.size + 1, 3, none⟩ (.int .i64 x3)).setCell ⟨w.heap.size + 1, 4, none⟩ (.slice va r4.length vk)).setCell ⟨w.heap.size + 1, 5, none⟩ (.int .i64 x5))) := by rw [HQ.out]; exact Lib.hid ⟨_, _, rfl, blk_dup _, layIntS.lower (layIntS.keep OW.out (fun a ha => ho.block a (layIntS.blocks OW.out a ha).2 (by have := (layIntS.blocks OW.out a ha).1; omega))) (by omega), hb2⟩
      clear ho hb2
      generalize ((((((X4.setCell ⟨w.heap.size + 1, 0, none⟩ (.int .i64 x0)).setCell ⟨w.heap.size + 1, 1, none⟩ (.string x1)).setCell ⟨w.heap.size + 1, 2, none⟩ (.string x2)).setCell ⟨w.heap.size + 1, 3, none⟩ (.int .i64 x3)).setCell ⟨w.heap.size + 1, 4, none⟩ (.slice va r4.length vk)).setCell ⟨w.heap.size + 1, 5, none⟩ (.int .i64 x5)) = X5 at *
      try simp only [Act.put, List.getElem_toArray, List.getElem_cons_succ, List.getElem_cons_zero, List.setIfInBounds_toArray, List.set_cons_zero, List.set_cons_succ]
      refine wpAnyH_done (by kernel_rfl) ?_ _
      have j0 := RS.out.cell 0
      have j1 := RS.out.cell 1
      have j2 := RS.out.cell 2
      have j3 := RS.out.cell 3
      have j4 := RS.out.cell 4
      have j5 := RS.out.cell 5
      clear hHeld rr
      go_wp2_with fail
      try simp only [Exit.inBlock, Exit.then]
      exact bodyPost_ret (v := .agg #[.int .i64 x0, .string x1, .string x2, .int .i64 x3, .slice va r4.length vk, .int .i64 x5]) (by simp [results, Tryz.results62, go_sem, j0, j1, j2, j3, j4, j5]) rfl E.out
  · go_simp
    have hal : Below X0.heap.size X0 (X0.alloc (.cells #[] 3)) := (Below.refl _ _).alloc (Nat.le_refl _) _
    refine hK.out _ _ (qv _ _ hHeld hal) (fun hHeld => ?_)
    clear hK K
    have hb := Lib.hid hal
    have OW : Hid (layIntS.own (X0.alloc (.cells #[] 3)) (w.heap.size + 2) [X0.heap.size] [.slice (some ⟨X0.heap.size, 0, none⟩) 0 0] []) := Lib.hid (layIntS.lower (flat_lit X0 _ (Nat.le_refl _)) hlo.out)
    clear hal
    generalize X0.alloc (.cells #[] 3) = X1 at *
    have hgb : Hid (w.heap.size + 2 ≤ X0.heap.size) := hlo
    replace rr := Lib.hid (rr.out.next hb.out)
    replace hlo : Hid (w.heap.size + 2 ≤ X1.heap.size) := Lib.hid (Nat.le_trans hlo.out hb.out.size)
    clear hb
    generalize X0.heap.size = gl at *
    try simp only [Act.put, List.getElem_toArray, List.getElem_cons_succ, List.getElem_cons_zero, List.setIfInBounds_toArray, List.set_cons_zero, List.set_cons_succ]
    refine wpAnyH_ready (rs := [4]) (by kernel_rfl) (by simp) ?_
    refine AllReadyH.cons rfl (fun K hK => ?_) AllReadyH.nil
    go_simp
    go_wp2_with (go_at_call 61; refine (K1.out X1).mono ?_; rintro e X2 ⟨rfl, hb0⟩; have hS := qv _ _ hHeld hb0; have hb := Lib.hid hb0; clear hb0)
    refine hK.out _ _ hS (fun hHeld => ?_)
    clear hK K hS
    replace rr := Lib.hid (rr.out.next hb.out)
    replace hlo : Hid (w.heap.size + 2 ≤ X2.heap.size) := Lib.hid (Nat.le_trans hlo.out hb.out.size)
    replace OW := Lib.hid (layIntS.next OW.out hb.out)
    clear hb
    try simp only [Act.put, List.getElem_toArray, List.getElem_cons_succ, List.getElem_cons_zero, List.setIfInBounds_toArray, List.set_cons_zero, List.set_cons_succ]
    refine wpAnyH_ready (rs := [7]) (by kernel_rfl) (by simp) ?_
    refine AllReadyH.cons rfl (fun K hK => ?_) AllReadyH.nil
    go_simp
    go_wp2_with (go_at_call 61; refine (K2.out X2).mono ?_; rintro e X3 ⟨rfl, hb0⟩; have hS := qv _ _ hHeld hb0; have hb := Lib.hid hb0; clear hb0)
    refine hK.out _ _ hS (fun hHeld => ?_)
    clear hK K hS
    replace rr := Lib.hid (rr.out.next hb.out)
    replace hlo : Hid (w.heap.size + 2 ≤ X3.heap.size) := Lib.hid (Nat.le_trans hlo.out hb.out.size)
    replace OW := Lib.hid (layIntS.next OW.out hb.out)
    clear hb
    try simp only [Act.put, List.getElem_toArray, List.getElem_cons_succ, List.getElem_cons_zero, List.setIfInBounds_toArray, List.set_cons_zero, List.set_cons_succ]
    refine wpAnyH_ready (rs := [13]) (by kernel_rfl) (by simp) ?_
    refine AllReadyH.cons rfl (fun K hK => ?_) AllReadyH.nil
    refine step_copyF rfl _ _ 27 rfl (w.heap.size + 2) 3 i0 _ 8 Lay.int flatIntK Tryz.underlying27 hi0 hz0 hsz0 hby0 rfl (by omega) _ _ _ rfl OW.out (fun e => by cases e) _ r4 rfl (layIntS.below HR.out hHeld.out.2) (by simp; omega) hlo.out ?_
    intro v1 X4 hown1 hnn1 hgr1 hbe1
    obtain ⟨va, vk, rfl⟩ := rows_form (layIntS.read hown1)
    refine hK.out _ _ (Lib.hid ⟨hHeld.out.1.next' hbe1 (by omega), hHeld.out.2.trans (hbe1.mono (by omega))⟩) (fun hHeld => ?_)
    clear hK K OW
    have OW : Hid (layIntS.own X4 (w.heap.size + 2) (blk (.slice va r4.length vk)) [.slice va r4.length vk] r4) := Lib.hid hown1
    replace rr := Lib.hid (rr.out.next' hbe1 (by omega))
    replace hlo : Hid (w.heap.size + 2 ≤ X4.heap.size) := Lib.hid (Nat.le_trans hlo.out hbe1.size)
    clear hown1 hnn1 hgr1 hbe1
    try simp only [Act.put, List.getElem_toArray, List.getElem_cons_succ, List.getElem_cons_zero, List.setIfInBounds_toArray, List.set_cons_zero, List.set_cons_succ]
    refine wpAnyH_take (i := 16) (v := ?_) rfl (by kernel_rfl) (by kernel_rfl) (by kernel_rfl) (fun _ _ _ h => h) (Or.inl ⟨by kernel_rfl, ?_⟩) hHeld ?_
    rotate_left
    · intro X hX
      first | (go_simp; done) | (go_simp; with_reducible rfl)
    try simp only [Act.put, List.getElem_toArray, List.getElem_cons_succ, List.getElem_cons_zero, List.setIfInBounds_toArray, List.set_cons_zero, List.set_cons_succ]
    refine wpAnyH_ready (rs := [17]) (by kernel_rfl) (by simp) ?_
    refine AllReadyH.cons rfl (fun K hK => ?_) AllReadyH.nil
    have r0_ := rr.out.cell 0
    have r1_ := rr.out.cell 1
    have r2_ := rr.out.cell 2
    have r3_ := rr.out.cell 3
    have r4_ := rr.out.cell 4
    have r5_ := rr.out.cell 5
    have g0_ := rr.out.free 0
    have g1_ := rr.out.free 1
    have g2_ := rr.out.free 2
    have g3_ := rr.out.free 3
    have g4_ := rr.out.free 4
    have g5_ := rr.out.free 5
    go_simp
    have ho : Only (w.heap.size + 1) X4 ((((((X4.setCell ⟨w.heap.size + 1, 0, none⟩ (.int .i64 x0)).setCell ⟨w.heap.size + 1, 1, none⟩ (.string x1)).setCell ⟨w.heap.size + 1, 2, none⟩ (.string x2)).setCell ⟨w.heap.size + 1, 3, none⟩ (.int .i64 x3)).setCell ⟨w.heap.size + 1, 4, none⟩ (.slice va r4.length vk)).setCell ⟨w.heap.size + 1, 5, none⟩ (.int .i64 x5)) := putMain_only X4 (w.heap.size + 1) _ _ _ _ _ _
    have hb2 : Below w.heap.size w ((((((X4.setCell ⟨w.heap.size + 1, 0, none⟩ (.int .i64 x0)).setCell ⟨w.heap.size + 1, 1, none⟩ (.string x1)).setCell ⟨w.heap.size + 1, 2, none⟩ (.string x2)).setCell ⟨w.heap.size + 1, 3, none⟩ (.int .i64 x3)).setCell ⟨w.heap.size + 1, 4, none⟩ (.slice va r4.length vk)).setCell ⟨w.heap.size + 1, 5, none⟩ (.int .i64 x5)) := putMain_below hHeld.out.2 (show w.heap.size ≤ w.heap.size + 1 by omega) _ _ _ _ _ _
    refine hK.out _ _ (Lib.hid ⟨hHeld.out.1.only ho (by omega), hb2⟩) (fun hHeld => ?_)
    clear hK K r0_ g0_ r1_ g1_ r2_ g2_ r3_ g3_ r4_ g4_ r5_ g5_
    have RS := Lib.hid (putSix rr.out (.int .i64 x0) (.string x1) (.string x2) (.int .i64 x3) (.slice va r4.length vk) (.int .i64 x5))
    have E : Hid (Q (.returned (.agg #[.int .i64 x0, .string x1, .string x2, .int .i64 x3, .slice va r4.length vk, .int .i64 x5])) ((((((X4.setCell ⟨w.heap.size + 1, 0, none⟩ (.int .i64 x0)).setCell ⟨w.heap.size + 1, 1, none⟩ (.string x1)).setCell ⟨w.heap.size + 1, 2, none⟩ (.string x2)).setCell ⟨w.heap.size + 1, 3, none⟩ (.int .i64 x3)).setCell ⟨w.heap.size + 1, 4, none⟩ (.slice va r4.length vk)).setCell ⟨w.heap.size + 1, 5, none⟩ (.int .i64 x5))) := by rw [HQ.out]; exact Lib.hid ⟨_, _, rfl, blk_dup _, layIntS.lower (layIntS.keep OW.out (fun a ha => ho.block a (layIntS.blocks OW.out a ha).2 (by have := (layIntS.blocks OW.out a ha).1; omega))) (by omega), hb2⟩
    clear ho hb2
    generalize ((((((X4.setCell ⟨w.heap.size + 1, 0, none⟩ (.int .i64 x0)).setCell ⟨w.heap.size + 1, 1, none⟩ (.string x1)).setCell ⟨w.heap.size + 1, 2, none⟩ (.string x2)).setCell ⟨w.heap.size + 1, 3, none⟩ (.int .i64 x3)).setCell ⟨w.heap.size + 1, 4, none⟩ (.slice va r4.length vk)).setCell ⟨w.heap.size + 1, 5, none⟩ (.int .i64 x5)) = X5 at *
    try simp only [Act.put, List.getElem_toArray, List.getElem_cons_succ, List.getElem_cons_zero, List.setIfInBounds_toArray, List.set_cons_zero, List.set_cons_succ]
    refine wpAnyH_done (by kernel_rfl) ?_ _
    have j0 := RS.out.cell 0
    have j1 := RS.out.cell 1
    have j2 := RS.out.cell 2
    have j3 := RS.out.cell 3
    have j4 := RS.out.cell 4
    have j5 := RS.out.cell 5
    clear hHeld rr
    go_wp2_with fail
    try simp only [Exit.inBlock, Exit.then]
    exact bodyPost_ret (v := .agg #[.int .i64 x0, .string x1, .string x2, .int .i64 x3, .slice va r4.length vk, .int .i64 x5]) (by simp [results, Tryz.results62, go_sem, j0, j1, j2, j3, j4, j5]) rfl E.out
set_option maxRecDepth 100000 in
set_option maxHeartbeats 6400000 in
theorem copyOfSlots_any (HG : CloneS) (x0 : Int) (x1 x2 : ByteArray) (x3 : Int) (v4 : Value) (r4 : List Int) (x5 : Int) (y0 : Int) (y1 y2 : ByteArray) (y3 : Int) (u4 : Value) (s4 : List Int) (y5 : Int) (f1 : x1.size ≤ 10000000) (f2 : x2.size ≤ 10000000) (g1 : y1.size ≤ 10000000) (g2 : y2.size ≤ 10000000) (hl : r4.length ≤ 10000000) (hk : s4.length ≤ 10000000) (w : World) (h : layIntS.rd w [v4] r4) (k : layIntS.rd w [u4] s4) :
    Calls Tryz.prog 30 #[.agg #[.int .i64 x0, .string x1, .string x2, .int .i64 x3, v4, .int .i64 x5, .int .i64 y0, .string y1, .string y2, .int .i64 y3, u4, .int .i64 y5]] w (SlotsMade x0 x1 x2 x3 r4 x5 y0 y1 y2 y3 s4 y5 w) := by
  obtain ⟨a4, p4, rfl⟩ := rows_form h
  obtain ⟨b4, q4, rfl⟩ := rows_form k
  have e1 : (w.alloc (.cells #[.int .i64 x0, .string x1, .string x2, .int .i64 x3, .slice a4 r4.length p4, .int .i64 x5, .int .i64 y0, .string y1, .string y2, .int .i64 y3, .slice b4 s4.length q4, .int .i64 y5] SlotsT)).heap.size = w.heap.size + 1 := by simp
  have h2 := VarA.new (w.alloc (.cells #[.int .i64 x0, .string x1, .string x2, .int .i64 x3, .slice a4 r4.length p4, .int .i64 x5, .int .i64 y0, .string y1, .string y2, .int .i64 y3, .slice b4 s4.length q4, .int .i64 y5] SlotsT)) SlotsT #[.int .i64 0, .string ⟨#[]⟩, .string ⟨#[]⟩, .int .i64 0, .slice none 0 0, .int .i64 0, .int .i64 0, .string ⟨#[]⟩, .string ⟨#[]⟩, .int .i64 0, .slice none 0 0, .int .i64 0]
  rw [e1] at h2
  have A0 := Lib.hid ((VarA.new w SlotsT #[.int .i64 x0, .string x1, .string x2, .int .i64 x3, .slice a4 r4.length p4, .int .i64 x5, .int .i64 y0, .string y1, .string y2, .int .i64 y3, .slice b4 s4.length q4, .int .i64 y5]).alloc (.cells #[.int .i64 0, .string ⟨#[]⟩, .string ⟨#[]⟩, .int .i64 0, .slice none 0 0, .int .i64 0, .int .i64 0, .string ⟨#[]⟩, .string ⟨#[]⟩, .int .i64 0, .slice none 0 0, .int .i64 0] SlotsT))
  have rr := Lib.hid h2
  have BY := Lib.hid (((Below.refl w.heap.size w).alloc (Nat.le_refl _) (.cells #[.int .i64 x0, .string x1, .string x2, .int .i64 x3, .slice a4 r4.length p4, .int .i64 x5, .int .i64 y0, .string y1, .string y2, .int .i64 y3, .slice b4 s4.length q4, .int .i64 y5] SlotsT)).alloc (by simp) (.cells #[.int .i64 0, .string ⟨#[]⟩, .string ⟨#[]⟩, .int .i64 0, .slice none 0 0, .int .i64 0, .int .i64 0, .string ⟨#[]⟩, .string ⟨#[]⟩, .int .i64 0, .slice none 0 0, .int .i64 0] SlotsT))
  have hz : Hid (((w.alloc (.cells #[.int .i64 x0, .string x1, .string x2, .int .i64 x3, .slice a4 r4.length p4, .int .i64 x5, .int .i64 y0, .string y1, .string y2, .int .i64 y3, .slice b4 s4.length q4, .int .i64 y5] SlotsT)).alloc (.cells #[.int .i64 0, .string ⟨#[]⟩, .string ⟨#[]⟩, .int .i64 0, .slice none 0 0, .int .i64 0, .int .i64 0, .string ⟨#[]⟩, .string ⟨#[]⟩, .int .i64 0, .slice none 0 0, .int .i64 0] SlotsT)).heap.size = w.heap.size + 2) := Lib.hid (by simp)
  have HR := Lib.hid h
  have HK := Lib.hid k
  clear h k h2 e1
  obtain ⟨Q, HQ⟩ : ∃ Q : Ending → World → Prop, Hid (Q = SlotsMade x0 x1 x2 x3 r4 x5 y0 y1 y2 y3 s4 y5 w) := ⟨_, Lib.hid rfl⟩
  rw [← HQ.out]
  go_enter Tryz.func30, Tryz.ntmps30
  go_upto_region 1 with fail
  generalize ((w.alloc (.cells #[.int .i64 x0, .string x1, .string x2, .int .i64 x3, .slice a4 r4.length p4, .int .i64 x5, .int .i64 y0, .string y1, .string y2, .int .i64 y3, .slice b4 s4.length q4, .int .i64 y5] SlotsT)).alloc (.cells #[.int .i64 0, .string ⟨#[]⟩, .string ⟨#[]⟩, .int .i64 0, .slice none 0 0, .int .i64 0, .int .i64 0, .string ⟨#[]⟩, .string ⟨#[]⟩, .int .i64 0, .slice none 0 0, .int .i64 0] SlotsT)) = Y at *
  have qv : ∀ X Y, (Hid (VarA w.heap.size SlotsT #[.int .i64 x0, .string x1, .string x2, .int .i64 x3, .slice a4 r4.length p4, .int .i64 x5, .int .i64 y0, .string y1, .string y2, .int .i64 y3, .slice b4 s4.length q4, .int .i64 y5] X ∧ Below w.heap.size w X)) → Below X.heap.size X Y → (Hid (VarA w.heap.size SlotsT #[.int .i64 x0, .string x1, .string x2, .int .i64 x3, .slice a4 r4.length p4, .int .i64 x5, .int .i64 y0, .string y1, .string y2, .int .i64 y3, .slice b4 s4.length q4, .int .i64 y5] Y ∧ Below w.heap.size w Y)) := fun X Y h hb => Lib.hid ⟨h.out.1.next hb, h.out.2.trans (hb.mono h.out.2.size)⟩
  have E0 : Hid (VarA w.heap.size SlotsT #[.int .i64 x0, .string x1, .string x2, .int .i64 x3, .slice a4 r4.length p4, .int .i64 x5, .int .i64 y0, .string y1, .string y2, .int .i64 y3, .slice b4 s4.length q4, .int .i64 y5] Y.drew ∧ Below w.heap.size w Y.drew) := Lib.hid ⟨A0.out.drew, BY.out.drew⟩
  replace rr := Lib.hid rr.out.drew
  replace hz : Hid (Y.drew.heap.size = w.heap.size + 2) := hz
  go_wp2_with fail
  clear A0 BY
  refine wp_region_held_drew (S := fun X => Hid (VarA w.heap.size SlotsT #[.int .i64 x0, .string x1, .string x2, .int .i64 x3, .slice a4 r4.length p4, .int .i64 x5, .int .i64 y0, .string y1, .string y2, .int .i64 y3, .slice b4 s4.length q4, .int .i64 y5] X ∧ Below w.heap.size w X)) (by kernel_rfl) E0 (fun hHeld => ?_)
  clear E0
  generalize Y.drew = X0 at *
  refine wpAnyH_take (i := 0) (v := ?_) rfl (by kernel_rfl) (by kernel_rfl) (by kernel_rfl) (fun _ _ _ h => h) (Or.inl ⟨by kernel_rfl, ?_⟩) hHeld ?_
  rotate_left
  · intro X hX
    first | (go_simp; done) | (go_simp; with_reducible rfl)
  try simp only [Act.put, List.getElem_toArray, List.getElem_cons_zero, List.setIfInBounds_toArray, List.set_cons_zero, List.set_cons_succ]
  refine wpAnyH_take (i := 1) (v := ?_) rfl (by kernel_rfl) (by kernel_rfl) (by kernel_rfl) (fun _ _ _ h => h) (Or.inl ⟨by kernel_rfl, ?_⟩) hHeld ?_
  rotate_left
  · intro X hX
    have y0 : X.cell? ⟨w.heap.size, 0, none⟩ = some (.int .i64 x0) := hX.out.1.cell 0
    have y1 : X.cell? ⟨w.heap.size, 1, none⟩ = some (.string x1) := hX.out.1.cell 1
    have y2 : X.cell? ⟨w.heap.size, 2, none⟩ = some (.string x2) := hX.out.1.cell 2
    have y3 : X.cell? ⟨w.heap.size, 3, none⟩ = some (.int .i64 x3) := hX.out.1.cell 3
    have y4 : X.cell? ⟨w.heap.size, 4, none⟩ = some (.slice a4 r4.length p4) := hX.out.1.cell 4
    have y5 : X.cell? ⟨w.heap.size, 5, none⟩ = some (.int .i64 x5) := hX.out.1.cell 5
    first | (go_simp; done) | (go_simp; with_reducible rfl)
  try simp only [Act.put, List.getElem_toArray, List.getElem_cons_succ, List.getElem_cons_zero, List.setIfInBounds_toArray, List.set_cons_zero, List.set_cons_succ]
  refine wpAnyH_take (i := 3) (v := ?_) rfl (by kernel_rfl) (by kernel_rfl) (by kernel_rfl) (fun _ _ _ h => h) (Or.inl ⟨by kernel_rfl, ?_⟩) hHeld ?_
  rotate_left
  · intro X hX
    first | (go_simp; done) | (go_simp; with_reducible rfl)
  try simp only [Act.put, List.getElem_toArray, List.getElem_cons_succ, List.getElem_cons_zero, List.setIfInBounds_toArray, List.set_cons_zero, List.set_cons_succ]
  refine wpAnyH_take (i := 4) (v := ?_) rfl (by kernel_rfl) (by kernel_rfl) (by kernel_rfl) (fun _ _ _ h => h) (Or.inl ⟨by kernel_rfl, ?_⟩) hHeld ?_
  rotate_left
  · intro X hX
    have y0 : X.cell? ⟨w.heap.size, 6, none⟩ = some (.int .i64 y0) := hX.out.1.cell 6
    have y1 : X.cell? ⟨w.heap.size, 7, none⟩ = some (.string y1) := hX.out.1.cell 7
    have y2 : X.cell? ⟨w.heap.size, 8, none⟩ = some (.string y2) := hX.out.1.cell 8
    have y3 : X.cell? ⟨w.heap.size, 9, none⟩ = some (.int .i64 y3) := hX.out.1.cell 9
    have y4 : X.cell? ⟨w.heap.size, 10, none⟩ = some (.slice b4 s4.length q4) := hX.out.1.cell 10
    have y5 : X.cell? ⟨w.heap.size, 11, none⟩ = some (.int .i64 y5) := hX.out.1.cell 11
    first | (go_simp; done) | (go_simp; with_reducible rfl)
  try simp only [Act.put, List.getElem_toArray, List.getElem_cons_succ, List.getElem_cons_zero, List.setIfInBounds_toArray, List.set_cons_zero, List.set_cons_succ]
  refine wpAnyH_ready (rs := [2]) (by kernel_rfl) (by simp) ?_
  refine AllReadyH.cons rfl (fun K hK => ?_) AllReadyH.nil
  go_simp
  go_wp2_with (go_at_call 62; refine (copyOfSlot_any HG x0 x1 x2 x3 _ r4 x5 f1 f2 hl X0 (layIntS.below HR.out hHeld.out.2)).mono ?_; rintro e X1 ⟨v5, f, rfl, hd1, o1, hb0⟩; obtain ⟨ma, mk, rfl⟩ := rows_form (layIntS.read o1); have hS := qv _ _ hHeld hb0; have hb := Lib.hid hb0; have O1 := Lib.hid o1; have N1 := Lib.hid hd1; clear hb0 o1 hd1)
  refine hK.out _ _ hS (fun hHeld => ?_)
  clear hK K hS
  replace rr := Lib.hid (rr.out.next hb.out)
  have F1 : Hid (∀ a ∈ f, w.heap.size + 2 ≤ a ∧ a < X1.heap.size) := Lib.hid (fun a ha => by have := layIntS.blocks O1.out a ha; have := hz.out; omega)
  clear hb
  have hlo : Hid (w.heap.size + 2 ≤ X1.heap.size) := Lib.hid (by have := rr.out.lt; omega)
  try simp only [Act.put, List.getElem_toArray, List.getElem_cons_succ, List.getElem_cons_zero, List.setIfInBounds_toArray, List.set_cons_zero, List.set_cons_succ]
  refine wpAnyH_ready (rs := [5]) (by kernel_rfl) (by simp) ?_
  refine AllReadyH.cons rfl (fun K hK => ?_) AllReadyH.nil
  go_simp
  go_wp2_with (go_at_call 62; refine (copyOfSlot_any HG y0 y1 y2 y3 _ s4 y5 g1 g2 hk X1 (layIntS.below HK.out hHeld.out.2)).mono ?_; rintro e X2 ⟨v6, g, rfl, hd2, o2, hb0⟩; obtain ⟨la, lk, rfl⟩ := rows_form (layIntS.read o2); have hS := qv _ _ hHeld hb0; have hb := Lib.hid hb0; have O2 := Lib.hid o2; have N2 := Lib.hid hd2; clear hb0 o2 hd2)
  refine hK.out _ _ hS (fun hHeld => ?_)
  clear hK K hS
  replace rr := Lib.hid (rr.out.next hb.out)
  replace O1 := Lib.hid (layIntS.next O1.out hb.out)
  have F2 : Hid (∀ a ∈ g, X1.heap.size ≤ a ∧ a < X2.heap.size) := Lib.hid (fun a ha => layIntS.blocks O2.out a ha)
  have hzz : Hid (X1.heap.size ≤ X2.heap.size) := Lib.hid hb.out.size
  clear hb
  try simp only [Act.put, List.getElem_toArray, List.getElem_cons_succ, List.getElem_cons_zero, List.setIfInBounds_toArray, List.set_cons_zero, List.set_cons_succ]
  refine wpAnyH_take (i := 6) (v := ?_) rfl (by kernel_rfl) (by kernel_rfl) (by kernel_rfl) (fun _ _ _ h => h) (Or.inl ⟨by kernel_rfl, ?_⟩) hHeld ?_
  rotate_left
  · intro X hX
    first | (go_simp; done) | (go_simp; with_reducible rfl)
  try simp only [Act.put, List.getElem_toArray, List.getElem_cons_succ, List.getElem_cons_zero, List.setIfInBounds_toArray, List.set_cons_zero, List.set_cons_succ]
  refine wpAnyH_ready (rs := [7]) (by kernel_rfl) (by simp) ?_
  refine AllReadyH.cons rfl (fun K hK => ?_) AllReadyH.nil
  have r0_ := rr.out.cell 0
  have r1_ := rr.out.cell 1
  have r2_ := rr.out.cell 2
  have r3_ := rr.out.cell 3
  have r4_ := rr.out.cell 4
  have r5_ := rr.out.cell 5
  have r6_ := rr.out.cell 6
  have r7_ := rr.out.cell 7
  have r8_ := rr.out.cell 8
  have r9_ := rr.out.cell 9
  have r10_ := rr.out.cell 10
  have r11_ := rr.out.cell 11
  have g0_ := rr.out.free 0
  have g1_ := rr.out.free 1
  have g2_ := rr.out.free 2
  have g3_ := rr.out.free 3
  have g4_ := rr.out.free 4
  have g5_ := rr.out.free 5
  have g6_ := rr.out.free 6
  have g7_ := rr.out.free 7
  have g8_ := rr.out.free 8
  have g9_ := rr.out.free 9
  have g10_ := rr.out.free 10
  have g11_ := rr.out.free 11
  go_simp
  have ho : Only (w.heap.size + 1) X2 ((((((((((((X2.setCell ⟨w.heap.size + 1, 0, none⟩ (.int .i64 x0)).setCell ⟨w.heap.size + 1, 1, none⟩ (.string x1)).setCell ⟨w.heap.size + 1, 2, none⟩ (.string x2)).setCell ⟨w.heap.size + 1, 3, none⟩ (.int .i64 x3)).setCell ⟨w.heap.size + 1, 4, none⟩ (.slice ma r4.length mk)).setCell ⟨w.heap.size + 1, 5, none⟩ (.int .i64 x5)).setCell ⟨w.heap.size + 1, 6, none⟩ (.int .i64 y0)).setCell ⟨w.heap.size + 1, 7, none⟩ (.string y1)).setCell ⟨w.heap.size + 1, 8, none⟩ (.string y2)).setCell ⟨w.heap.size + 1, 9, none⟩ (.int .i64 y3)).setCell ⟨w.heap.size + 1, 10, none⟩ (.slice la s4.length lk)).setCell ⟨w.heap.size + 1, 11, none⟩ (.int .i64 y5)) := (putMain_only X2 (w.heap.size + 1) _ _ _ _ _ _).trans (putLame_only _ (w.heap.size + 1) _ _ _ _ _ _)
  have hb2 : Below w.heap.size w ((((((((((((X2.setCell ⟨w.heap.size + 1, 0, none⟩ (.int .i64 x0)).setCell ⟨w.heap.size + 1, 1, none⟩ (.string x1)).setCell ⟨w.heap.size + 1, 2, none⟩ (.string x2)).setCell ⟨w.heap.size + 1, 3, none⟩ (.int .i64 x3)).setCell ⟨w.heap.size + 1, 4, none⟩ (.slice ma r4.length mk)).setCell ⟨w.heap.size + 1, 5, none⟩ (.int .i64 x5)).setCell ⟨w.heap.size + 1, 6, none⟩ (.int .i64 y0)).setCell ⟨w.heap.size + 1, 7, none⟩ (.string y1)).setCell ⟨w.heap.size + 1, 8, none⟩ (.string y2)).setCell ⟨w.heap.size + 1, 9, none⟩ (.int .i64 y3)).setCell ⟨w.heap.size + 1, 10, none⟩ (.slice la s4.length lk)).setCell ⟨w.heap.size + 1, 11, none⟩ (.int .i64 y5)) := putBoth_below hHeld.out.2 (show w.heap.size ≤ w.heap.size + 1 by omega) _ _ _ _ _ _ _ _ _ _ _ _
  refine hK.out _ _ (Lib.hid ⟨hHeld.out.1.only ho (by omega), hb2⟩) (fun hHeld => ?_)
  clear hK K r0_ g0_ r1_ g1_ r2_ g2_ r3_ g3_ r4_ g4_ r5_ g5_ r6_ g6_ r7_ g7_ r8_ g8_ r9_ g9_ r10_ g10_ r11_ g11_
  have RS := Lib.hid (putBoth rr.out (.int .i64 x0) (.string x1) (.string x2) (.int .i64 x3) (.slice ma r4.length mk) (.int .i64 x5) (.int .i64 y0) (.string y1) (.string y2) (.int .i64 y3) (.slice la s4.length lk) (.int .i64 y5))
  have E : Hid (Q (.returned (.agg #[.int .i64 x0, .string x1, .string x2, .int .i64 x3, .slice ma r4.length mk, .int .i64 x5, .int .i64 y0, .string y1, .string y2, .int .i64 y3, .slice la s4.length lk, .int .i64 y5])) ((((((((((((X2.setCell ⟨w.heap.size + 1, 0, none⟩ (.int .i64 x0)).setCell ⟨w.heap.size + 1, 1, none⟩ (.string x1)).setCell ⟨w.heap.size + 1, 2, none⟩ (.string x2)).setCell ⟨w.heap.size + 1, 3, none⟩ (.int .i64 x3)).setCell ⟨w.heap.size + 1, 4, none⟩ (.slice ma r4.length mk)).setCell ⟨w.heap.size + 1, 5, none⟩ (.int .i64 x5)).setCell ⟨w.heap.size + 1, 6, none⟩ (.int .i64 y0)).setCell ⟨w.heap.size + 1, 7, none⟩ (.string y1)).setCell ⟨w.heap.size + 1, 8, none⟩ (.string y2)).setCell ⟨w.heap.size + 1, 9, none⟩ (.int .i64 y3)).setCell ⟨w.heap.size + 1, 10, none⟩ (.slice la s4.length lk)).setCell ⟨w.heap.size + 1, 11, none⟩ (.int .i64 y5))) := by rw [HQ.out]; exact Lib.hid ⟨_, _, f, g, rfl, List.nodup_append.2 ⟨N1.out, N2.out, fun a ha b hb e => by have h1 := (F1.out a ha).2; have h2 := (F2.out b hb).1; omega⟩, layIntS.lower (layIntS.keep O1.out (fun a ha => ho.block a (layIntS.blocks O1.out a ha).2 (by have := (F1.out a ha).1; omega))) (by have := hz.out; omega), layIntS.lower (layIntS.keep O2.out (fun a ha => ho.block a (F2.out a ha).2 (by have h1 := (F2.out a ha).1; have h2 := hlo.out; omega))) (by have := hlo.out; omega), hb2⟩
  clear ho hb2
  generalize ((((((((((((X2.setCell ⟨w.heap.size + 1, 0, none⟩ (.int .i64 x0)).setCell ⟨w.heap.size + 1, 1, none⟩ (.string x1)).setCell ⟨w.heap.size + 1, 2, none⟩ (.string x2)).setCell ⟨w.heap.size + 1, 3, none⟩ (.int .i64 x3)).setCell ⟨w.heap.size + 1, 4, none⟩ (.slice ma r4.length mk)).setCell ⟨w.heap.size + 1, 5, none⟩ (.int .i64 x5)).setCell ⟨w.heap.size + 1, 6, none⟩ (.int .i64 y0)).setCell ⟨w.heap.size + 1, 7, none⟩ (.string y1)).setCell ⟨w.heap.size + 1, 8, none⟩ (.string y2)).setCell ⟨w.heap.size + 1, 9, none⟩ (.int .i64 y3)).setCell ⟨w.heap.size + 1, 10, none⟩ (.slice la s4.length lk)).setCell ⟨w.heap.size + 1, 11, none⟩ (.int .i64 y5)) = X3 at *
  try simp only [Act.put, List.getElem_toArray, List.getElem_cons_succ, List.getElem_cons_zero, List.setIfInBounds_toArray, List.set_cons_zero, List.set_cons_succ]
  refine wpAnyH_done (by kernel_rfl) ?_ _
  have j0 := RS.out.cell 0
  have j1 := RS.out.cell 1
  have j2 := RS.out.cell 2
  have j3 := RS.out.cell 3
  have j4 := RS.out.cell 4
  have j5 := RS.out.cell 5
  have j6 := RS.out.cell 6
  have j7 := RS.out.cell 7
  have j8 := RS.out.cell 8
  have j9 := RS.out.cell 9
  have j10 := RS.out.cell 10
  have j11 := RS.out.cell 11
  clear hHeld rr
  go_wp2_with fail
  try simp only [Exit.inBlock, Exit.then]
  exact bodyPost_ret (v := .agg #[.int .i64 x0, .string x1, .string x2, .int .i64 x3, .slice ma r4.length mk, .int .i64 x5, .int .i64 y0, .string y1, .string y2, .int .i64 y3, .slice la s4.length lk, .int .i64 y5]) (by simp [results, Tryz.results30, go_sem, j0, j1, j2, j3, j4, j5, j6, j7, j8, j9, j10, j11]) rfl E.out

end Go.Proofs.YtoaifgblbfdncaaGreatDoor
