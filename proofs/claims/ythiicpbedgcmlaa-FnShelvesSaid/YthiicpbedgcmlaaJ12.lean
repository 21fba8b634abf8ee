/-
  The program's copyOfHeld.
-/
import Derived.Test.YthiicpbedgcmlaaJ08
import Derived.Test.YthiicpbedgcmlaaJ10
import Derived.Test.YthiicpbedgcmlaaJ11
import Derived.Deep.RegionHeld3
namespace Go.Proofs.Ythiicpbedgcmlaa
open Go.RowKit

section
variable {G : Nat} {T : TypeId} {q0 q1 q2 q3 q4 q5 : Value} {X : World}
theorem VarA.six (h : VarA G T #[q0, q1, q2, q3, q4, q5] X) (u0 u1 u2 u3 u4 u5 : Value) : VarA G T #[u0, u1, u2, u3, u4, u5] ((((((X.setCell ⟨G, 0, none⟩ u0).setCell ⟨G, 1, none⟩ (u1)).setCell ⟨G, 2, none⟩ (u2)).setCell ⟨G, 3, none⟩ (u3)).setCell ⟨G, 4, none⟩ (u4)).setCell ⟨G, 5, none⟩ (u5)) := (((((h.set 0 u0).set 1 u1).set 2 u2).set 3 u3).set 4 u4).set 5 u5
theorem six_only (X : World) (G : Nat) (u0 u1 u2 u3 u4 u5 : Value) : Only G X ((((((X.setCell ⟨G, 0, none⟩ u0).setCell ⟨G, 1, none⟩ (u1)).setCell ⟨G, 2, none⟩ (u2)).setCell ⟨G, 3, none⟩ (u3)).setCell ⟨G, 4, none⟩ (u4)).setCell ⟨G, 5, none⟩ (u5)) := (((((((Only.refl G X).trans (Only.setCell 0 u0)).trans (Only.setCell 1 u1)).trans (Only.setCell 2 u2)).trans (Only.setCell 3 u3)).trans (Only.setCell 4 u4)).trans (Only.setCell 5 u5))
end
theorem bool_size : (Try.prog.info? 4).map (·.size) = some Lay.bool.k := by kernel_rfl
/-- One that is held is handed back, of the call's own. -/
def HeldMade (x : HeldD) (w : World) (e : Ending) (w' : World) : Prop := ∃ (v3 v4 : Value) (f : List Nat), e = .returned (.agg #[.int .i64 x.1, .int .i64 x.2.1, .int .i64 x.2.2.1, v3, v4, .int .i64 x.2.2.2.2.2]) ∧ f.Nodup ∧ layHeld.own w' w.heap.size f [.int .i64 x.1, .int .i64 x.2.1, .int .i64 x.2.2.1, v3, v4, .int .i64 x.2.2.2.2.2] x ∧ Below w.heap.size w w'

set_option maxRecDepth 100000 in
set_option maxHeartbeats 6400000 in
theorem copyOfHeld_any (HG : CloneGives) (x0 x1 x2 : Int) (v3 : Value) (r3 : List ByteArray) (v4 : Value) (r4 : List Bool) (x5 : Int) (l3 : r3.length ≤ 1048576) (z3 : ∀ x ∈ r3, x.size ≤ 1048576) (l4 : r4.length ≤ 1048576) (w : World) (h3 : layStringS.rd w [v3] r3) (h4 : layBoolS.rd w [v4] r4) :
    Calls Try.prog 29 #[.agg #[.int .i64 x0, .int .i64 x1, .int .i64 x2, v3, v4, .int .i64 x5]] w (HeldMade (x0, x1, x2, r3, r4, x5) w) := by
  obtain ⟨a3, p3, rfl⟩ := rows_form h3
  obtain ⟨a4, p4, rfl⟩ := rows_form h4
  obtain ⟨i4, hi4, hz4, hs4, hb4⟩ := info_of infoBool
  have e1 : (w.alloc (.cells #[.int .i64 x0, .int .i64 x1, .int .i64 x2, .slice a3 r3.length p3, .slice a4 r4.length p4, .int .i64 x5] HeldT)).heap.size = w.heap.size + 1 := by simp
  have h5 := VarA.new (w.alloc (.cells #[.int .i64 x0, .int .i64 x1, .int .i64 x2, .slice a3 r3.length p3, .slice a4 r4.length p4, .int .i64 x5] HeldT)) HeldT #[.int .i64 0, .int .i64 0, .int .i64 0, .slice none 0 0, .slice none 0 0, .int .i64 0]
  rw [e1] at h5
  have A0 := Lib.hid ((VarA.new w HeldT #[.int .i64 x0, .int .i64 x1, .int .i64 x2, .slice a3 r3.length p3, .slice a4 r4.length p4, .int .i64 x5]).alloc (.cells #[.int .i64 0, .int .i64 0, .int .i64 0, .slice none 0 0, .slice none 0 0, .int .i64 0] HeldT))
  have rr := Lib.hid h5
  have BY := Lib.hid (((Below.refl w.heap.size w).alloc (Nat.le_refl _) (.cells #[.int .i64 x0, .int .i64 x1, .int .i64 x2, .slice a3 r3.length p3, .slice a4 r4.length p4, .int .i64 x5] HeldT)).alloc (by simp) (.cells #[.int .i64 0, .int .i64 0, .int .i64 0, .slice none 0 0, .slice none 0 0, .int .i64 0] HeldT))
  have hz : Hid (((w.alloc (.cells #[.int .i64 x0, .int .i64 x1, .int .i64 x2, .slice a3 r3.length p3, .slice a4 r4.length p4, .int .i64 x5] HeldT)).alloc (.cells #[.int .i64 0, .int .i64 0, .int .i64 0, .slice none 0 0, .slice none 0 0, .int .i64 0] HeldT)).heap.size = w.heap.size + 2) := Lib.hid (by simp)
  have H3 := Lib.hid h3
  have H4 := Lib.hid h4
  clear h3 h4 h5 e1
  obtain ⟨Q, HQ⟩ : ∃ Q : Ending → World → Prop, Hid (Q = HeldMade (x0, x1, x2, r3, r4, x5) w) := ⟨_, Lib.hid rfl⟩
  rw [← HQ.out]
  go_enter Try.func29, Try.ntmps29
  go_upto_region 1 with fail
  generalize ((w.alloc (.cells #[.int .i64 x0, .int .i64 x1, .int .i64 x2, .slice a3 r3.length p3, .slice a4 r4.length p4, .int .i64 x5] HeldT)).alloc (.cells #[.int .i64 0, .int .i64 0, .int .i64 0, .slice none 0 0, .slice none 0 0, .int .i64 0] HeldT)) = Y at *
  have c4 : Y.cell? ⟨w.heap.size, 4, none⟩ = some (.slice a4 r4.length p4) := A0.out.cell 4
  go_upto_region 2 with (at_make; refine wpList_make_full _ rfl _ _ 33 rfl (w.heap.size + 2) 4 i4 (.bool false) 1 Try.underlying33 hi4 hz4 hs4 .i64 .i64 _ _ r4.length rfl rfl rfl rfl (by rw [hb4]; omega) (by unfold maxLen; omega) (by have := hz.out; omega) ?_)
  intro w1 hown1 hg1
  rw [hz.out] at hown1 ⊢
  have hown : layBoolS.own w1 (w.heap.size + 2) [w.heap.size + 2] [.slice (some ⟨w.heap.size + 2, 0, none⟩) r4.length r4.length] (List.replicate r4.length false) := rows_made (cs := #[.bool false]) (by rw [show r4.length * Lay.bool.k = r4.length from Nat.mul_one _]; exact hown1) rfl (bool_own.2 ⟨rfl, rfl⟩)
  have hbel : Below Y.heap.size Y w1 := below_grown hg1 (fun k h => by cases h) (Nat.le_refl _)
  replace A0 := Lib.hid (A0.out.next hbel)
  replace rr := Lib.hid (rr.out.next hbel)
  replace BY := Lib.hid (BY.out.trans (hbel.mono (by have := hz.out; omega)))
  obtain ⟨w2, hrun, hown2, hchg⟩ := run_copy_made (P := Try.prog) w1 33 3 4 Lay.bool flatBool Try.underlying33 bool_size (w.heap.size + 2) (w.heap.size + 2) r4.length [w.heap.size + 2] (List.replicate r4.length false) r4 (by simp) hown _ (layBoolS.below H4.out BY.out)
  have k4 : w1.cell? ⟨w.heap.size, 4, none⟩ = some (.slice a4 r4.length p4) := A0.out.cell 4
  have hs1 : w.heap.size + 2 ≤ w1.heap.size := by have := rr.out.lt; omega
  have hb2 : Below (w.heap.size + 2) w1 w2 := hchg.below (by simp) hs1
  have hzz : Hid (w.heap.size + 2 ≤ w1.heap.size) := Lib.hid hs1
  have A2 := Lib.hid (A0.out.next' hb2 (by omega))
  have r2 := Lib.hid (rr.out.next' hb2 (by omega))
  have B2 := Lib.hid (BY.out.trans (hb2.mono (by omega)))
  have O4 : Hid (layBoolS.own w2 (w.heap.size + 2) [w.heap.size + 2] [.slice (some ⟨w.heap.size + 2, 0, none⟩) r4.length r4.length] r4) := Lib.hid hown2
  have HZ2 : Hid (w.heap.size + 2 ≤ w2.heap.size) := Lib.hid (Nat.le_trans hs1 hb2.size)
  clear hown1 hg1 hown hbel hown2 hchg hb2 hs1 hz c4 A0 rr BY
  go_upto_region 3 with (at_builtin; refine wpList_copyK w1 rfl _ _ _ _ rfl _ _ rfl rfl hrun ?_)
  clear hrun k4 hzz w1
  have qv : ∀ X Y, (Hid (VarA w.heap.size HeldT #[.int .i64 x0, .int .i64 x1, .int .i64 x2, .slice a3 r3.length p3, .slice a4 r4.length p4, .int .i64 x5] X ∧ Below w.heap.size w X)) → Below X.heap.size X Y → (Hid (VarA w.heap.size HeldT #[.int .i64 x0, .int .i64 x1, .int .i64 x2, .slice a3 r3.length p3, .slice a4 r4.length p4, .int .i64 x5] Y ∧ Below w.heap.size w Y)) := fun X Y h hb => Lib.hid ⟨h.out.1.next hb, h.out.2.trans (hb.mono h.out.2.size)⟩
  have E0 : Hid (VarA w.heap.size HeldT #[.int .i64 x0, .int .i64 x1, .int .i64 x2, .slice a3 r3.length p3, .slice a4 r4.length p4, .int .i64 x5] w2.drew ∧ Below w.heap.size w w2.drew) := Lib.hid ⟨A2.out.drew, B2.out.drew⟩
  replace r2 := Lib.hid r2.out.drew
  replace O4 := Lib.hid (layBoolS.next O4.out (Below.refl w2.heap.size w2).drew)
  replace HZ2 : Hid (w.heap.size + 2 ≤ w2.drew.heap.size) := HZ2
  go_wp2_with fail
  clear A2 B2
  refine wp_region_held_drew (S := fun X => Hid (VarA w.heap.size HeldT #[.int .i64 x0, .int .i64 x1, .int .i64 x2, .slice a3 r3.length p3, .slice a4 r4.length p4, .int .i64 x5] X ∧ Below w.heap.size w X)) (by kernel_rfl) E0 (fun hHeld => ?_)
  clear E0
  have FRB : Hid (w.heap.size + 2 < w2.drew.heap.size) := Lib.hid (layBoolS.blocks O4.out (w.heap.size + 2) (by simp)).2
  generalize w2.drew = X0 at *
  refine wpAnyH_take (i := 0) (v := ?_) rfl (by kernel_rfl) (by kernel_rfl) (by kernel_rfl) (fun _ _ _ h => h) (Or.inl ⟨by kernel_rfl, ?_⟩) hHeld ?_
  rotate_left
  · intro X hX
    first | (go_simp; done) | (go_simp; with_reducible rfl)
  try simp only [Act.put, List.getElem_toArray, List.getElem_cons_zero, List.setIfInBounds_toArray, List.set_cons_zero, List.set_cons_succ]
  refine wpAnyH_take (i := 1) (v := ?_) rfl (by kernel_rfl) (by kernel_rfl) (by kernel_rfl) (fun _ _ _ h => h) (Or.inl ⟨by kernel_rfl, ?_⟩) hHeld ?_
  rotate_left
  · intro X hX
    have y0 : X.cell? ⟨w.heap.size, 0, none⟩ = some (.int .i64 x0) := hX.out.1.cell 0
    first | (go_simp; done) | (go_simp; with_reducible rfl)
  try simp only [Act.put, List.getElem_toArray, List.getElem_cons_succ, List.getElem_cons_zero, List.setIfInBounds_toArray, List.set_cons_zero, List.set_cons_succ]
  refine wpAnyH_take (i := 2) (v := ?_) rfl (by kernel_rfl) (by kernel_rfl) (by kernel_rfl) (fun _ _ _ h => h) (Or.inl ⟨by kernel_rfl, ?_⟩) hHeld ?_
  rotate_left
  · intro X hX
    first | (go_simp; done) | (go_simp; with_reducible rfl)
  try simp only [Act.put, List.getElem_toArray, List.getElem_cons_succ, List.getElem_cons_zero, List.setIfInBounds_toArray, List.set_cons_zero, List.set_cons_succ]
  refine wpAnyH_take (i := 3) (v := ?_) rfl (by kernel_rfl) (by kernel_rfl) (by kernel_rfl) (fun _ _ _ h => h) (Or.inl ⟨by kernel_rfl, ?_⟩) hHeld ?_
  rotate_left
  · intro X hX
    have y1 : X.cell? ⟨w.heap.size, 1, none⟩ = some (.int .i64 x1) := hX.out.1.cell 1
    first | (go_simp; done) | (go_simp; with_reducible rfl)
  try simp only [Act.put, List.getElem_toArray, List.getElem_cons_succ, List.getElem_cons_zero, List.setIfInBounds_toArray, List.set_cons_zero, List.set_cons_succ]
  refine wpAnyH_take (i := 4) (v := ?_) rfl (by kernel_rfl) (by kernel_rfl) (by kernel_rfl) (fun _ _ _ h => h) (Or.inl ⟨by kernel_rfl, ?_⟩) hHeld ?_
  rotate_left
  · intro X hX
    first | (go_simp; done) | (go_simp; with_reducible rfl)
  try simp only [Act.put, List.getElem_toArray, List.getElem_cons_succ, List.getElem_cons_zero, List.setIfInBounds_toArray, List.set_cons_zero, List.set_cons_succ]
  refine wpAnyH_take (i := 5) (v := ?_) rfl (by kernel_rfl) (by kernel_rfl) (by kernel_rfl) (fun _ _ _ h => h) (Or.inl ⟨by kernel_rfl, ?_⟩) hHeld ?_
  rotate_left
  · intro X hX
    have y2 : X.cell? ⟨w.heap.size, 2, none⟩ = some (.int .i64 x2) := hX.out.1.cell 2
    first | (go_simp; done) | (go_simp; with_reducible rfl)
  try simp only [Act.put, List.getElem_toArray, List.getElem_cons_succ, List.getElem_cons_zero, List.setIfInBounds_toArray, List.set_cons_zero, List.set_cons_succ]
  refine wpAnyH_take (i := 6) (v := ?_) rfl (by kernel_rfl) (by kernel_rfl) (by kernel_rfl) (fun _ _ _ h => h) (Or.inl ⟨by kernel_rfl, ?_⟩) hHeld ?_
  rotate_left
  · intro X hX
    first | (go_simp; done) | (go_simp; with_reducible rfl)
  try simp only [Act.put, List.getElem_toArray, List.getElem_cons_succ, List.getElem_cons_zero, List.setIfInBounds_toArray, List.set_cons_zero, List.set_cons_succ]
  refine wpAnyH_take (i := 7) (v := ?_) rfl (by kernel_rfl) (by kernel_rfl) (by kernel_rfl) (fun _ _ _ h => h) (Or.inl ⟨by kernel_rfl, ?_⟩) hHeld ?_
  rotate_left
  · intro X hX
    have y3 : X.cell? ⟨w.heap.size, 3, none⟩ = some (.slice a3 r3.length p3) := hX.out.1.cell 3
    first | (go_simp; done) | (go_simp; with_reducible rfl)
  try simp only [Act.put, List.getElem_toArray, List.getElem_cons_succ, List.getElem_cons_zero, List.setIfInBounds_toArray, List.set_cons_zero, List.set_cons_succ]
  refine wpAnyH_take (i := 9) (v := ?_) rfl (by kernel_rfl) (by kernel_rfl) (by kernel_rfl) (fun _ _ _ h => h) (Or.inl ⟨by kernel_rfl, ?_⟩) hHeld ?_
  rotate_left
  · intro X hX
    first | (go_simp; done) | (go_simp; with_reducible rfl)
  try simp only [Act.put, List.getElem_toArray, List.getElem_cons_succ, List.getElem_cons_zero, List.setIfInBounds_toArray, List.set_cons_zero, List.set_cons_succ]
  refine wpAnyH_take (i := 10) (v := ?_) rfl (by kernel_rfl) (by kernel_rfl) (by kernel_rfl) (fun _ _ _ h => h) (Or.inl ⟨by kernel_rfl, ?_⟩) hHeld ?_
  rotate_left
  · intro X hX
    first | (go_simp; done) | (go_simp; with_reducible rfl)
  try simp only [Act.put, List.getElem_toArray, List.getElem_cons_succ, List.getElem_cons_zero, List.setIfInBounds_toArray, List.set_cons_zero, List.set_cons_succ]
  refine wpAnyH_take (i := 11) (v := ?_) rfl (by kernel_rfl) (by kernel_rfl) (by kernel_rfl) (fun _ _ _ h => h) (Or.inl ⟨by kernel_rfl, ?_⟩) hHeld ?_
  rotate_left
  · intro X hX
    have y5 : X.cell? ⟨w.heap.size, 5, none⟩ = some (.int .i64 x5) := hX.out.1.cell 5
    first | (go_simp; done) | (go_simp; with_reducible rfl)
  try simp only [Act.put, List.getElem_toArray, List.getElem_cons_succ, List.getElem_cons_zero, List.setIfInBounds_toArray, List.set_cons_zero, List.set_cons_succ]
  refine wpAnyH_ready (rs := [8]) (by kernel_rfl) (by simp) ?_
  refine AllReadyH.cons rfl (fun K hK => ?_) AllReadyH.nil
  go_simp
  go_wp2_with (go_at_call 40; refine (copyOfTexts_any HG _ r3 l3 z3 X0 (layStringS.below H3.out hHeld.out.2)).mono ?_; rintro e X1 ⟨g3, k3, rfl, o3, hb0⟩; have hS := qv _ _ hHeld hb0; have hb := Lib.hid hb0; have O3 := Lib.hid o3; clear hb0 o3)
  refine hK.out _ _ hS (fun hHeld => ?_)
  clear hK K hS
  replace r2 := Lib.hid (r2.out.next hb.out)
  replace O4 := Lib.hid (layBoolS.next O4.out hb.out)
  have G3 : Hid (w.heap.size + 2 < g3 ∧ g3 < X1.heap.size) := Lib.hid (by have h9 := layStringS.blocks O3.out g3 (by simp); have h8 := (layBoolS.blocks O4.out (w.heap.size + 2) (by simp)).2; have h7 := HZ2.out; exact ⟨by have h6 := h9.1; have := FRB.out; omega, h9.2⟩)
  clear hb
  try simp only [Act.put, List.getElem_toArray, List.getElem_cons_succ, List.getElem_cons_zero, List.setIfInBounds_toArray, List.set_cons_zero, List.set_cons_succ]
  refine wpAnyH_take (i := 12) (v := ?_) rfl (by kernel_rfl) (by kernel_rfl) (by kernel_rfl) (fun _ _ _ h => h) (Or.inl ⟨by kernel_rfl, ?_⟩) hHeld ?_
  rotate_left
  · intro X hX
    first | (go_simp; done) | (go_simp; with_reducible rfl)
  try simp only [Act.put, List.getElem_toArray, List.getElem_cons_succ, List.getElem_cons_zero, List.setIfInBounds_toArray, List.set_cons_zero, List.set_cons_succ]
  refine wpAnyH_ready (rs := [13]) (by kernel_rfl) (by simp) ?_
  refine AllReadyH.cons rfl (fun K hK => ?_) AllReadyH.nil
  have r0_ := r2.out.cell 0
  have r1_ := r2.out.cell 1
  have r2_ := r2.out.cell 2
  have r3_ := r2.out.cell 3
  have r4_ := r2.out.cell 4
  have r5_ := r2.out.cell 5
  have g0_ := r2.out.free 0
  have g1_ := r2.out.free 1
  have g2_ := r2.out.free 2
  have g3_ := r2.out.free 3
  have g4_ := r2.out.free 4
  have g5_ := r2.out.free 5
  go_simp
  have ho : Only (w.heap.size + 1) X1 ((((((X1.setCell ⟨w.heap.size + 1, 0, none⟩ (.int .i64 x0)).setCell ⟨w.heap.size + 1, 1, none⟩ (.int .i64 x1)).setCell ⟨w.heap.size + 1, 2, none⟩ (.int .i64 x2)).setCell ⟨w.heap.size + 1, 3, none⟩ (.slice (some ⟨g3, 0, none⟩) r3.length k3)).setCell ⟨w.heap.size + 1, 4, none⟩ (.slice (some ⟨w.heap.size + 2, 0, none⟩) r4.length r4.length)).setCell ⟨w.heap.size + 1, 5, none⟩ (.int .i64 x5)) := six_only X1 (w.heap.size + 1) _ _ _ _ _ _
  have hb2 : Below w.heap.size w ((((((X1.setCell ⟨w.heap.size + 1, 0, none⟩ (.int .i64 x0)).setCell ⟨w.heap.size + 1, 1, none⟩ (.int .i64 x1)).setCell ⟨w.heap.size + 1, 2, none⟩ (.int .i64 x2)).setCell ⟨w.heap.size + 1, 3, none⟩ (.slice (some ⟨g3, 0, none⟩) r3.length k3)).setCell ⟨w.heap.size + 1, 4, none⟩ (.slice (some ⟨w.heap.size + 2, 0, none⟩) r4.length r4.length)).setCell ⟨w.heap.size + 1, 5, none⟩ (.int .i64 x5)) := hHeld.out.2.trans (ho.below (show w.heap.size ≤ w.heap.size + 1 by omega) hHeld.out.2.size)
  refine hK.out _ _ (Lib.hid ⟨hHeld.out.1.only ho (by omega), hb2⟩) (fun hHeld => ?_)
  clear hK K r0_ g0_ r1_ g1_ r2_ g2_ r3_ g3_ r4_ g4_ r5_ g5_
  have RS := Lib.hid (r2.out.six (.int .i64 x0) (.int .i64 x1) (.int .i64 x2) (.slice (some ⟨g3, 0, none⟩) r3.length k3) (.slice (some ⟨w.heap.size + 2, 0, none⟩) r4.length r4.length) (.int .i64 x5))
  have E : Hid (Q (.returned (.agg #[.int .i64 x0, .int .i64 x1, .int .i64 x2, .slice (some ⟨g3, 0, none⟩) r3.length k3, .slice (some ⟨w.heap.size + 2, 0, none⟩) r4.length r4.length, .int .i64 x5])) ((((((X1.setCell ⟨w.heap.size + 1, 0, none⟩ (.int .i64 x0)).setCell ⟨w.heap.size + 1, 1, none⟩ (.int .i64 x1)).setCell ⟨w.heap.size + 1, 2, none⟩ (.int .i64 x2)).setCell ⟨w.heap.size + 1, 3, none⟩ (.slice (some ⟨g3, 0, none⟩) r3.length k3)).setCell ⟨w.heap.size + 1, 4, none⟩ (.slice (some ⟨w.heap.size + 2, 0, none⟩) r4.length r4.length)).setCell ⟨w.heap.size + 1, 5, none⟩ (.int .i64 x5))) := by rw [HQ.out]; exact Lib.hid ⟨_, _, [g3] ++ [w.heap.size + 2], rfl, (by have := G3.out; simp; omega), layHeld_own.2 ⟨_, _, [g3], [w.heap.size + 2], rfl, rfl, layStringS.lower (layStringS.keep O3.out (fun a ha => ho.block a (layStringS.blocks O3.out a ha).2 (by rw [List.mem_singleton] at ha; have := G3.out; omega))) (by have := HZ2.out; omega), layBoolS.lower (layBoolS.keep O4.out (fun a ha => ho.block a (layBoolS.blocks O4.out a ha).2 (by rw [List.mem_singleton] at ha; omega))) (by omega)⟩, hb2⟩
  clear ho hb2
  generalize ((((((X1.setCell ⟨w.heap.size + 1, 0, none⟩ (.int .i64 x0)).setCell ⟨w.heap.size + 1, 1, none⟩ (.int .i64 x1)).setCell ⟨w.heap.size + 1, 2, none⟩ (.int .i64 x2)).setCell ⟨w.heap.size + 1, 3, none⟩ (.slice (some ⟨g3, 0, none⟩) r3.length k3)).setCell ⟨w.heap.size + 1, 4, none⟩ (.slice (some ⟨w.heap.size + 2, 0, none⟩) r4.length r4.length)).setCell ⟨w.heap.size + 1, 5, none⟩ (.int .i64 x5)) = X2 at *
  try simp only [Act.put, List.getElem_toArray, List.getElem_cons_succ, List.getElem_cons_zero, List.setIfInBounds_toArray, List.set_cons_zero, List.set_cons_succ]
  refine wpAnyH_done (by kernel_rfl) ?_ _
  have j0 := RS.out.cell 0
  have j1 := RS.out.cell 1
  have j2 := RS.out.cell 2
  have j3 := RS.out.cell 3
  have j4 := RS.out.cell 4
  have j5 := RS.out.cell 5
  clear hHeld r2
  go_wp2_with fail
  try simp only [Exit.inBlock, Exit.then]
  exact bodyPost_ret (v := .agg #[.int .i64 x0, .int .i64 x1, .int .i64 x2, .slice (some ⟨g3, 0, none⟩) r3.length k3, .slice (some ⟨w.heap.size + 2, 0, none⟩) r4.length r4.length, .int .i64 x5]) (by simp [results, Try.results29, go_sem, j0, j1, j2, j3, j4, j5]) rfl E.out

end Go.Proofs.Ythiicpbedgcmlaa
