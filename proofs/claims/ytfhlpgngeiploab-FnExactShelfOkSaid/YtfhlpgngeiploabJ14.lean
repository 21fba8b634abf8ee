/-
  The exact law on ShelfOk, out of one answer that both give.
  The exact law on ShelfOk, at every argument.
-/
import Derived.Test.YtfhlpgngeiploabJ11
import Derived.Test.YtfhlpgngeiploabJ13
import Derived.Test.YtfhlpgngeiploabJ08
import Derived.Test.YtfhlpgngeiploabJ12
namespace Go.Proofs.Ytfhlpgngeiploab
open Go.RowKit

set_option maxRecDepth 100000 in
set_option maxHeartbeats 3200000 in
theorem lawShelfOkF (v : Value) (xs : List HeldD) (hR : RoomHeldS xs) (b : Bool) (hI : FitsHeldS xs → ∀ (v : Value) (X : World), layHeldS.rd X [v] xs → Calls Try.prog 9 #[.agg #[v]] X fun e Y => e = .returned (.bool b) ∧ Below X.heap.size X Y) (hS : FitsHeldS xs → ∀ (v : Value) (X : World), layHeldS.rd X [v] xs → Calls Try.prog 7 #[.agg #[v]] X fun e Y => e = .returned (.bool b) ∧ Below X.heap.size X Y)
    (w : World) (ha : layHeldS.rd w [v] xs) :
    Calls Try.prog 3 #[.agg #[v]] w fun e w' => e = .returned (.bool true) ∧ Below w.heap.size w w' := by
  obtain ⟨a, p, rfl⟩ := rows_form ha
  have HA := Lib.hid ha
  have HI := Lib.hid hI
  have HS := Lib.hid hS
  have M := Lib.hid hR
  have hbb : (b != b) = false := by cases b <;> rfl
  have A0 := Lib.hid (VarA.new w LShT #[.slice a xs.length p])
  have B0 := Lib.hid ((Below.refl w.heap.size w).alloc (Nat.le_refl _) (.cells #[.slice a xs.length p] LShT))
  clear hI hS ha hR
  go_enter Try.func3, Try.ntmps3
  go_upto_region 1 with fail
  generalize w.alloc (.cells #[.slice a xs.length p] LShT) = Y0 at *
  have c0 : Y0.cell? ⟨w.heap.size, 0, none⟩ = some (.slice a xs.length p) := A0.out.cell 0
  have KZ := Lib.hid (szShelf_any _ xs 1048576 (by omega) (by omega) M.out Y0 (layHeldS.below HA.out B0.out))
  go_wp2_with fail
  refine (KZ.out).mono ?_
  rintro e Y1 ⟨⟨z, rfl, hz⟩, hb⟩
  replace A0 := Lib.hid (A0.out.next hb)
  replace B0 := Lib.hid (B0.out.trans (hb.mono B0.out.size))
  clear hb KZ c0
  rcases hz with rfl | ⟨hz0, hz1, hfit⟩
  · go_wp2_with fail
    go_ret
    exact ⟨rfl, B0.out⟩
  have hz2 : ¬ (z < 0) := by omega
  have HF1 := Lib.hid hfit
  have TT : Hid (∀ X, Below w.heap.size w X → Calls Try.prog 8 #[.agg #[.slice a xs.length p]] X (ShelfMade X xs)) := Lib.hid (fun X hX => toShelf_any _ xs HF1.out X (layHeldS.below HA.out hX))
  have TE : Hid (∀ u q X, layHeldS.rd X [u] xs → layHeldS.rd X [q] xs → Calls Try.prog 10 #[.agg #[u], .agg #[q]] X fun e Y => e = .returned (.bool true) ∧ Below X.heap.size X Y) := Lib.hid (fun u q X h1 h2 => eqShelf_same u q xs (by have := HF1.out.1; omega) (fun x hx => ⟨by have := (HF1.out.2.1 x hx).1.1; omega, by have := (HF1.out.2.1 x hx).2; unfold FitsBool at this; omega⟩) X h1 h2)
  clear hfit hz0 hz1
  have c0 : Y1.cell? ⟨w.heap.size, 0, none⟩ = some (.slice a xs.length p) := A0.out.cell 0
  go_wp2_with fail
  refine (TT.out Y1 B0.out).mono ?_
  rintro e Y2 ⟨u, f, rfl, hd, o1, hb⟩
  obtain ⟨ta, tk, rfl⟩ := rows_form (layHeldS.read o1)
  have KS := Lib.hid (HS.out HF1.out _ Y2 (layHeldS.read o1))
  replace A0 := Lib.hid (A0.out.next hb)
  replace B0 := Lib.hid (B0.out.trans (hb.mono B0.out.size))
  clear hb o1 hd f c0
  go_wp2_with fail
  refine (KS.out).mono ?_
  rintro e Y3 ⟨rfl, hb⟩
  replace A0 := Lib.hid (A0.out.next hb)
  replace B0 := Lib.hid (B0.out.trans (hb.mono B0.out.size))
  clear hb KS
  go_upto_region 6 with fail
  have c0 : Y3.cell? ⟨w.heap.size, 0, none⟩ = some (.slice a xs.length p) := A0.out.cell 0
  go_wp2_with fail
  refine (TT.out Y3 B0.out).mono ?_
  rintro e Y4 ⟨u, f, rfl, hd, o1, hb⟩
  obtain ⟨xa, xk, rfl⟩ := rows_form (layHeldS.read o1)
  have hal : Below Y4.heap.size Y4 (Y4.alloc (.cells #[.slice xa xs.length xk] ShelfT)) := (Below.refl _ _).alloc (Nat.le_refl _) _
  have RX := Lib.hid (layHeldS.below (layHeldS.read o1) hal)
  have VX := Lib.hid (VarA.new Y4 ShelfT #[.slice xa xs.length xk])
  replace A0 := Lib.hid ((A0.out.next hb).next hal)
  replace B0 := Lib.hid ((B0.out.trans (hb.mono B0.out.size)).trans (hal.mono (Nat.le_trans B0.out.size hb.size)))
  clear hb hal o1 hd f c0
  go_upto_region 7 with fail
  generalize Y4.alloc (.cells #[.slice xa xs.length xk] ShelfT) = Y5 at *
  generalize Y4.heap.size = gx at *
  have c0 : Y5.cell? ⟨gx, 0, none⟩ = some (.slice xa xs.length xk) := VX.out.cell 0
  have KI := Lib.hid (HI.out HF1.out _ Y5 RX.out)
  go_wp2_with fail
  refine (KI.out).mono ?_
  rintro e Y6 ⟨rfl, hb⟩
  replace A0 := Lib.hid (A0.out.next hb)
  replace B0 := Lib.hid (B0.out.trans (hb.mono B0.out.size))
  replace VX := Lib.hid (VX.out.next hb)
  replace RX := Lib.hid (layHeldS.below RX.out hb)
  clear hb KI c0
  have qv : ∀ X Y, (Hid (VarA w.heap.size LShT #[.slice a xs.length p] X ∧ VarA gx ShelfT #[.slice xa xs.length xk] X ∧ Below w.heap.size w X ∧ layHeldS.rd X [.slice xa xs.length xk] xs)) → Below X.heap.size X Y → (Hid (VarA w.heap.size LShT #[.slice a xs.length p] Y ∧ VarA gx ShelfT #[.slice xa xs.length xk] Y ∧ Below w.heap.size w Y ∧ layHeldS.rd Y [.slice xa xs.length xk] xs)) := fun X Y h hb => Lib.hid ⟨h.out.1.next hb, h.out.2.1.next hb, h.out.2.2.1.trans (hb.mono h.out.2.2.1.size), layHeldS.below h.out.2.2.2 hb⟩
  have hdr : Below Y6.heap.size Y6 Y6.drew := (Below.refl _ _).drew
  have E0 : Hid (VarA w.heap.size LShT #[.slice a xs.length p] Y6.drew ∧ VarA gx ShelfT #[.slice xa xs.length xk] Y6.drew ∧ Below w.heap.size w Y6.drew ∧ layHeldS.rd Y6.drew [.slice xa xs.length xk] xs) := Lib.hid ⟨A0.out.drew, VX.out.drew, B0.out.drew, layHeldS.below RX.out hdr⟩
  go_wp2_with fail
  clear hdr A0 VX B0 RX
  refine wp_region_held_drew (S := fun X => Hid (VarA w.heap.size LShT #[.slice a xs.length p] X ∧ VarA gx ShelfT #[.slice xa xs.length xk] X ∧ Below w.heap.size w X ∧ layHeldS.rd X [.slice xa xs.length xk] xs)) (by kernel_rfl) E0 (fun hHeld => ?_)
  clear E0
  generalize Y6.drew = X0 at *
  refine wpAnyH_take (i := 0) (v := ?_) rfl (by kernel_rfl) (by kernel_rfl) (by kernel_rfl) (fun _ _ _ h => h) (Or.inl ⟨by kernel_rfl, ?_⟩) hHeld ?_
  rotate_left
  · intro X hX
    have yy0 : X.cell? ⟨gx, 0, none⟩ = some (.slice xa xs.length xk) := hX.out.2.1.cell 0
    first | (go_simp; done) | (go_simp; with_reducible rfl)
  try simp only [Act.put, List.getElem_toArray, List.getElem_cons_zero, List.setIfInBounds_toArray, List.set_cons_zero, List.set_cons_succ]
  refine wpAnyH_take (i := 1) (v := ?_) rfl (by kernel_rfl) (by kernel_rfl) (by kernel_rfl) (fun _ _ _ h => h) (Or.inl ⟨by kernel_rfl, ?_⟩) hHeld ?_
  rotate_left
  · intro X hX
    have yy0 : X.cell? ⟨w.heap.size, 0, none⟩ = some (.slice a xs.length p) := hX.out.1.cell 0
    first | (go_simp; done) | (go_simp; with_reducible rfl)
  try simp only [Act.put, List.getElem_toArray, List.getElem_cons_succ, List.getElem_cons_zero, List.setIfInBounds_toArray, List.set_cons_zero, List.set_cons_succ]
  refine wpAnyH_ready (rs := [2]) (by kernel_rfl) (by simp) ?_
  refine AllReadyH.cons rfl (fun K hK => ?_) AllReadyH.nil
  go_simp
  go_wp2_with (go_at_call 8; refine (TT.out X0 hHeld.out.2.2.1).mono ?_; rintro e X1 ⟨u, f, rfl, hd, o1, hb0⟩; obtain ⟨ya, yk, rfl⟩ := rows_form (layHeldS.read o1); have hS := qv _ _ hHeld hb0)
  refine hK.out _ _ hS (fun hHeld => ?_)
  clear hK K hS
  have RY : Hid (layHeldS.rd X1 [.slice ya xs.length yk] xs) := Lib.hid (layHeldS.read o1)
  clear o1 hd f hb0
  try simp only [Act.put, List.getElem_toArray, List.getElem_cons_succ, List.getElem_cons_zero, List.setIfInBounds_toArray, List.set_cons_zero, List.set_cons_succ]
  refine wpAnyH_ready (rs := [3]) (by kernel_rfl) (by simp) ?_
  refine AllReadyH.cons rfl (fun K hK => ?_) AllReadyH.nil
  go_simp
  go_wp2_with (go_at_call 10; refine (TE.out _ _ X1 hHeld.out.2.2.2 RY.out).mono ?_; rintro e X2 ⟨rfl, hb0⟩; have hS := qv _ _ hHeld hb0)
  refine hK.out _ _ hS (fun hHeld => ?_)
  clear hK K hS hb0
  try simp only [Act.put, List.getElem_toArray, List.getElem_cons_succ, List.getElem_cons_zero, List.setIfInBounds_toArray, List.set_cons_zero, List.set_cons_succ]
  refine wpAnyH_take (i := 4) (v := ?_) rfl (by kernel_rfl) (by kernel_rfl) (by kernel_rfl) (fun _ _ _ h => h) (Or.inl ⟨by kernel_rfl, ?_⟩) hHeld ?_
  rotate_left
  · intro X hX
    first | (go_simp; done) | (go_simp; with_reducible rfl)
  try simp only [Act.put, List.getElem_toArray, List.getElem_cons_succ, List.getElem_cons_zero, List.setIfInBounds_toArray, List.set_cons_zero, List.set_cons_succ]
  refine wpAnyH_done (by kernel_rfl) ?_ _
  have BZ := Lib.hid hHeld.out.2.2.1
  clear hHeld
  go_wp2_with fail
  try simp only [Exit.inBlock, Exit.then]
  go_ret
  exact ⟨rfl, BZ.out⟩

end Go.Proofs.Ytfhlpgngeiploab
namespace Go.Proofs.Ytfhlpgngeiploab
open Go.RowKit

theorem lawShelfOk (v : Value) (xs : List HeldD) (hR : RoomHeldS xs) (hg : ∀ x ∈ xs, HdG x) (w : World) (ha : layHeldS.rd w [v] xs) :
    Calls Try.prog 3 #[.agg #[v]] w fun e w' => e = .returned (.bool true) ∧ Below w.heap.size w w' := by
  obtain ⟨b, hbb⟩ : ∃ b : Bool, b = true ↔ ShelfP xs := by
    by_cases h : ShelfP xs
    · exact ⟨true, fun _ => h, fun _ => rfl⟩
    · exact ⟨false, fun e => (by cases e), fun e => absurd e h⟩
  exact lawShelfOkF v xs hR b (fun hf v X h => implShelfOk_any v xs b hbb hf hg X h) (fun hf v X h => specShelfOk_bool v xs b hbb (by have := hf.1; omega) X h) w ha

end Go.Proofs.Ytfhlpgngeiploab
