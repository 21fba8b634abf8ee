/-
  The given HearGreet.
-/
import Derived.Test.YtkjjdoadjhjmbauGreatDoorJ35
import Derived.Test.YtkjjdoadjhjmbauGreatDoorJ36
import Derived.Test.YtkjjdoadjhjmbauGreatDoorJ24
namespace Go.Proofs.YtkjjdoadjhjmbauGreatDoor
open Go.RowKit

section
variable {w : World} {x0 x1 x2 x3 x4 : Int} {m x6 : ByteArray} {X : World}
theorem HV.yours (h : HV w x0 x1 x2 x3 x4 m x6 X) (t : ByteArray) : HV w x0 x1 x2 x3 x4 m t (X.setCell ⟨w.heap.size, 6, none⟩ (.string t)) := ⟨h.g.set 6 _, h.r.off 6 _ (by omega), h.below.setCell (p := ⟨w.heap.size, 6, none⟩) (Nat.le_refl _) _⟩
end
/-- A text of nine bytes that opens with a p. -/
theorem nine_parts {s : ByteArray} (hz : s.size = 9) (h0 : s[0]'(by omega) = 112) : s = (⟨#[112]⟩ : ByteArray) ++ s.extract 1 9 := by
  have h1 := ByteArray.extract_eq_extract_append_extract (a := s) (i := 0) (k := 9) 1 (by omega) (by omega)
  have h2 : s.extract 0 1 = ⟨#[112]⟩ := by
    rw [ByteArray.extract_add_one (by omega), h0]
    rfl
  rw [h2] at h1
  rw [← h1, ← hz, ByteArray.extract_zero_size]
theorem nine_first (r : ByteArray) (h : 0 < ((⟨#[112]⟩ : ByteArray) ++ r).size) : ((⟨#[112]⟩ : ByteArray) ++ r)[0] = 112 := by
  rw [ByteArray.getElem_append_left (by decide)]
  rfl
theorem nine_right (r : ByteArray) (hr : r.size = 8) : ((⟨#[112]⟩ : ByteArray) ++ r).extract 1 9 = r := ByteArray.extract_append_eq_right rfl (by rw [hr]; rfl)
set_option maxRecDepth 100000 in
set_option maxHeartbeats 3200000 in
theorem specHear_any (x0 x1 x2 x3 x4 : Int) (x5 x6 : ByteArray) (s : ByteArray) (hx0 : -9223372036854775808 ≤ x0 ∧ x0 ≤ 9223372036854775807) (h5 : x5.size ≤ 100000000) (h6 : x6.size ≤ 100000000) (hs : s.size ≤ 100000000) (y4 : Int) (y6 t : ByteArray) (hh : HearIs x0 x1 x2 x4 x5 x6 s y4 y6 t) (w : World) :
    Calls Tryz.prog 6 #[.agg #[.int .i64 x0, .int .i64 x1, .int .i64 x2, .int .i64 x3, .int .i64 x4, .string x5, .string x6], .string s] w fun e w' => e = .returned (.tuple #[.agg #[.int .i64 x0, .int .i64 x1, .int .i64 x2, .int .i64 x3, .int .i64 y4, .string x5, .string y6], .string t]) ∧ Below w.heap.size w w' := by
  have h2 := VarA.new (w.alloc (.cells #[.int .i64 x0, .int .i64 x1, .int .i64 x2, .int .i64 x3, .int .i64 x4, .string x5, .string x6] GreeterT)) GreeterT #[.int .i64 0, .int .i64 0, .int .i64 0, .int .i64 0, .int .i64 0, .string ⟨#[]⟩, .string ⟨#[]⟩]
  rw [show (w.alloc (.cells #[.int .i64 x0, .int .i64 x1, .int .i64 x2, .int .i64 x3, .int .i64 x4, .string x5, .string x6] GreeterT)).heap.size = w.heap.size + 1 by simp] at h2
  have H0 : Hid (HV w x0 x1 x2 x3 x4 x5 x6 ((w.alloc (.cells #[.int .i64 x0, .int .i64 x1, .int .i64 x2, .int .i64 x3, .int .i64 x4, .string x5, .string x6] GreeterT)).alloc (.cells #[.int .i64 0, .int .i64 0, .int .i64 0, .int .i64 0, .int .i64 0, .string ⟨#[]⟩, .string ⟨#[]⟩] GreeterT))) := Lib.hid ⟨(VarA.new w GreeterT _).alloc _, h2, ((Below.refl w.heap.size w).alloc (Nat.le_refl _) _).alloc (by simp) _⟩
  clear h2
  have HH := Lib.hid hh
  clear hh
  go_enter Tryz.func6, Tryz.ntmps6
  go_upto_region 1 with fail
  generalize (w.alloc (.cells #[.int .i64 x0, .int .i64 x1, .int .i64 x2, .int .i64 x3, .int .i64 x4, .string x5, .string x6] GreeterT)).alloc (.cells #[.int .i64 0, .int .i64 0, .int .i64 0, .int .i64 0, .int .i64 0, .string ⟨#[]⟩, .string ⟨#[]⟩] GreeterT) = Y0 at *
  have c4 : Y0.cell? ⟨w.heap.size, 4, none⟩ = some (.int .i64 x4) := H0.out.g.cell 4
  rcases HH.out with ⟨rfl, n, ho, rfl, hy, hp⟩ | ⟨rfl, ⟨n, ho⟩, rfl, hy, rfl⟩ | ⟨rfl, b, hb, hy4, hy, rfl⟩ | ⟨n1, n2, hy4, hy, rfl⟩
  · clear HH
    obtain rfl : s = y6 := hy.symm
    clear hy
    have HP := Lib.hid hp
    clear hp
    have K1 := Lib.hid (specOther_any x0 x1 x2 x3 1 x5 x6 s n true ho Y0)
    have e0 : Y0.cell? ⟨w.heap.size, 0, none⟩ = some (.int .i64 x0) := H0.out.g.cell 0
    have e1 : Y0.cell? ⟨w.heap.size, 1, none⟩ = some (.int .i64 x1) := H0.out.g.cell 1
    have e2 : Y0.cell? ⟨w.heap.size, 2, none⟩ = some (.int .i64 x2) := H0.out.g.cell 2
    have e3 : Y0.cell? ⟨w.heap.size, 3, none⟩ = some (.int .i64 x3) := H0.out.g.cell 3
    have e4 : Y0.cell? ⟨w.heap.size, 4, none⟩ = some (.int .i64 1) := H0.out.g.cell 4
    have e5 : Y0.cell? ⟨w.heap.size, 5, none⟩ = some (.string x5) := H0.out.g.cell 5
    have e6 : Y0.cell? ⟨w.heap.size, 6, none⟩ = some (.string x6) := H0.out.g.cell 6
    clear ho c4
    go_wp2_with fail
    refine K1.out.mono ?_
    rintro e Y1 ⟨rfl, hb⟩
    have H1 := Lib.hid (H0.out.next hb)
    clear hb K1 e0 e1 e2 e3 e4 e5 e6 H0
    have c4 : Y1.cell? ⟨w.heap.size, 4, none⟩ = some (.int .i64 1) := H1.out.g.cell 4
    have f4 := H1.out.g.free 4
    have c6 : Y1.cell? ⟨w.heap.size, 6, none⟩ = some (.string x6) := H1.out.g.cell 6
    have f6 := H1.out.g.free 6
    have H2 := Lib.hid ((H1.out.yours s).step 2)
    go_upto_region 8 with fail
    generalize (Y1.setCell ⟨w.heap.size, 6, none⟩ (.string s)).setCell ⟨w.heap.size, 4, none⟩ (.int .i64 2) = V2 at *
    clear c4 c6 f4 f6 H1
    have d0 : V2.cell? ⟨(w.heap.size + 1), 0, none⟩ = some (.int .i64 0) := H2.out.r.cell 0
    have d1 : V2.cell? ⟨(w.heap.size + 1), 1, none⟩ = some (.int .i64 0) := H2.out.r.cell 1
    have d2 : V2.cell? ⟨(w.heap.size + 1), 2, none⟩ = some (.int .i64 0) := H2.out.r.cell 2
    have d3 : V2.cell? ⟨(w.heap.size + 1), 3, none⟩ = some (.int .i64 0) := H2.out.r.cell 3
    have d4 : V2.cell? ⟨(w.heap.size + 1), 4, none⟩ = some (.int .i64 0) := H2.out.r.cell 4
    have d5 : V2.cell? ⟨(w.heap.size + 1), 5, none⟩ = some (.string ⟨#[]⟩) := H2.out.r.cell 5
    have d6 : V2.cell? ⟨(w.heap.size + 1), 6, none⟩ = some (.string ⟨#[]⟩) := H2.out.r.cell 6
    have f0 := H2.out.r.free 0
    have f1 := H2.out.r.free 1
    have f2 := H2.out.r.free 2
    have f3 := H2.out.r.free 3
    have f4 := H2.out.r.free 4
    have f5 := H2.out.r.free 5
    have f6 := H2.out.r.free 6
    have qv : ∀ X Y, (Hid (VarA w.heap.size GreeterT #[.int .i64 x0, .int .i64 x1, .int .i64 x2, .int .i64 x3, .int .i64 2, .string x5, .string s] X ∧ Below w.heap.size w X)) → Below X.heap.size X Y → (Hid (VarA w.heap.size GreeterT #[.int .i64 x0, .int .i64 x1, .int .i64 x2, .int .i64 x3, .int .i64 2, .string x5, .string s] Y ∧ Below w.heap.size w Y)) := fun X Y h hb => Lib.hid ⟨h.out.1.next hb, h.out.2.trans (hb.mono h.out.2.size)⟩
    have E0 : Hid (VarA w.heap.size GreeterT #[.int .i64 x0, .int .i64 x1, .int .i64 x2, .int .i64 x3, .int .i64 2, .string x5, .string s] V2.drew ∧ Below w.heap.size w V2.drew) := Lib.hid ⟨H2.out.g.drew, H2.out.below.drew⟩
    have SN : ∀ X, (Hid (VarA w.heap.size GreeterT #[.int .i64 x0, .int .i64 x1, .int .i64 x2, .int .i64 x3, .int .i64 2, .string x5, .string s] X ∧ Below w.heap.size w X)) → (Hid (VarA w.heap.size GreeterT #[.int .i64 x0, .int .i64 x1, .int .i64 x2, .int .i64 x3, .int .i64 2, .string x5, .string s] (((((((X.setCell ⟨w.heap.size + 1, 0, none⟩ (.int .i64 x0)).setCell ⟨w.heap.size + 1, 1, none⟩ (.int .i64 x1)).setCell ⟨w.heap.size + 1, 2, none⟩ (.int .i64 x2)).setCell ⟨w.heap.size + 1, 3, none⟩ (.int .i64 x3)).setCell ⟨w.heap.size + 1, 4, none⟩ (.int .i64 2)).setCell ⟨w.heap.size + 1, 5, none⟩ (.string x5)).setCell ⟨w.heap.size + 1, 6, none⟩ (.string s)) ∧ Below w.heap.size w (((((((X.setCell ⟨w.heap.size + 1, 0, none⟩ (.int .i64 x0)).setCell ⟨w.heap.size + 1, 1, none⟩ (.int .i64 x1)).setCell ⟨w.heap.size + 1, 2, none⟩ (.int .i64 x2)).setCell ⟨w.heap.size + 1, 3, none⟩ (.int .i64 x3)).setCell ⟨w.heap.size + 1, 4, none⟩ (.int .i64 2)).setCell ⟨w.heap.size + 1, 5, none⟩ (.string x5)).setCell ⟨w.heap.size + 1, 6, none⟩ (.string s)))) := fun X h => Lib.hid ⟨(((((((h.out.1).off 0 _ (by omega)).off 1 _ (by omega)).off 2 _ (by omega)).off 3 _ (by omega)).off 4 _ (by omega)).off 5 _ (by omega)).off 6 _ (by omega), below_put7 h.out.2 (Nat.le_succ _) (.int .i64 x0) (.int .i64 x1) (.int .i64 x2) (.int .i64 x3) (.int .i64 2) (.string x5) (.string s)⟩
    have rr := Lib.hid H2.out.r.drew
    have KP : Hid (∀ X, (Hid (VarA w.heap.size GreeterT #[.int .i64 x0, .int .i64 x1, .int .i64 x2, .int .i64 x3, .int .i64 2, .string x5, .string s] X ∧ Below w.heap.size w X)) → Calls Tryz.prog 23 #[.agg #[.int .i64 x0, .int .i64 x1, .int .i64 x2, .int .i64 x3, .int .i64 2, .string x5, .string s]] X fun e Y => e = .returned (.string t) ∧ (Hid (VarA w.heap.size GreeterT #[.int .i64 x0, .int .i64 x1, .int .i64 x2, .int .i64 x3, .int .i64 2, .string x5, .string s] Y ∧ Below w.heap.size w Y)) ∧ Hid (Below X.heap.size X Y)) := Lib.hid (fun X hX => by
      refine (specProof_any x0 x1 x2 x3 2 x5 s hx0 h5 hs t HP.out X).mono ?_
      rintro e Y ⟨rfl, hb⟩
      exact ⟨rfl, qv _ _ hX hb, Lib.hid hb⟩)
    clear H2 d0 f0 d1 f1 d2 f2 d3 f3 d4 f4 d5 f5 d6 f6
    go_cut [5] (fun z wx => z = .string t ∧ VarA (w.heap.size + 1) GreeterT #[.int .i64 x0, .int .i64 x1, .int .i64 x2, .int .i64 x3, .int .i64 2, .string x5, .string s] wx ∧ Below w.heap.size w wx)
    case first =>
      refine wp_region_held_drew (S := fun X => Hid (VarA w.heap.size GreeterT #[.int .i64 x0, .int .i64 x1, .int .i64 x2, .int .i64 x3, .int .i64 2, .string x5, .string s] X ∧ Below w.heap.size w X)) (by kernel_rfl) E0 (fun hHeld => ?_)
      clear E0
      generalize V2.drew = X0 at *
      refine wpAnyH_take (i := 0) (v := ?_) rfl (by kernel_rfl) (by kernel_rfl) (by kernel_rfl) (fun _ _ _ h => h) (Or.inl ⟨by kernel_rfl, ?_⟩) hHeld ?_
      rotate_left
      · intro X hX
        have y0 : X.cell? ⟨w.heap.size, 0, none⟩ = some (.int .i64 x0) := hX.out.1.cell 0
        have y1 : X.cell? ⟨w.heap.size, 1, none⟩ = some (.int .i64 x1) := hX.out.1.cell 1
        have y2 : X.cell? ⟨w.heap.size, 2, none⟩ = some (.int .i64 x2) := hX.out.1.cell 2
        have y3 : X.cell? ⟨w.heap.size, 3, none⟩ = some (.int .i64 x3) := hX.out.1.cell 3
        have y4 : X.cell? ⟨w.heap.size, 4, none⟩ = some (.int .i64 2) := hX.out.1.cell 4
        have y5 : X.cell? ⟨w.heap.size, 5, none⟩ = some (.string x5) := hX.out.1.cell 5
        have y6 : X.cell? ⟨w.heap.size, 6, none⟩ = some (.string s) := hX.out.1.cell 6
        first | (go_simp; done) | (go_simp; with_reducible rfl)
      try simp only [Act.put, List.getElem_toArray, List.getElem_cons_zero, List.setIfInBounds_toArray, List.set_cons_zero, List.set_cons_succ]
      refine wpAnyH_take (i := 1) (v := ?_) rfl (by kernel_rfl) (by kernel_rfl) (by kernel_rfl) (fun _ _ _ h => h) (Or.inl ⟨by kernel_rfl, ?_⟩) hHeld ?_
      rotate_left
      · intro X hX
        have y0 : X.cell? ⟨w.heap.size, 0, none⟩ = some (.int .i64 x0) := hX.out.1.cell 0
        have y1 : X.cell? ⟨w.heap.size, 1, none⟩ = some (.int .i64 x1) := hX.out.1.cell 1
        have y2 : X.cell? ⟨w.heap.size, 2, none⟩ = some (.int .i64 x2) := hX.out.1.cell 2
        have y3 : X.cell? ⟨w.heap.size, 3, none⟩ = some (.int .i64 x3) := hX.out.1.cell 3
        have y4 : X.cell? ⟨w.heap.size, 4, none⟩ = some (.int .i64 2) := hX.out.1.cell 4
        have y5 : X.cell? ⟨w.heap.size, 5, none⟩ = some (.string x5) := hX.out.1.cell 5
        have y6 : X.cell? ⟨w.heap.size, 6, none⟩ = some (.string s) := hX.out.1.cell 6
        first | (go_simp; done) | (go_simp; with_reducible rfl)
      try simp only [Act.put, List.getElem_toArray, List.getElem_cons_succ, List.getElem_cons_zero, List.setIfInBounds_toArray, List.set_cons_zero, List.set_cons_succ]
      refine wpAnyH_ready (rs := [2]) (by kernel_rfl) (by simp) ?_
      refine AllReadyH.cons rfl (fun K hK => ?_) AllReadyH.nil
      go_simp
      go_wp2_with (go_at_call 23; refine (KP.out _ hHeld).mono ?_; rintro e X1 ⟨rfl, hS, hb⟩)
      refine hK.out _ _ hS (fun hHeld => ?_)
      clear hK K hS
      replace rr := Lib.hid (rr.out.next hb.out)
      clear hb
      try simp only [Act.put, List.getElem_toArray, List.getElem_cons_succ, List.getElem_cons_zero, List.setIfInBounds_toArray, List.set_cons_zero, List.set_cons_succ]
      refine wpAnyH_ready (rs := [3]) (by kernel_rfl) (by simp) ?_
      refine AllReadyH.cons rfl (fun K hK => ?_) AllReadyH.nil
      have d0 : X1.cell? ⟨(w.heap.size + 1), 0, none⟩ = some (.int .i64 0) := rr.out.cell 0
      have d1 : X1.cell? ⟨(w.heap.size + 1), 1, none⟩ = some (.int .i64 0) := rr.out.cell 1
      have d2 : X1.cell? ⟨(w.heap.size + 1), 2, none⟩ = some (.int .i64 0) := rr.out.cell 2
      have d3 : X1.cell? ⟨(w.heap.size + 1), 3, none⟩ = some (.int .i64 0) := rr.out.cell 3
      have d4 : X1.cell? ⟨(w.heap.size + 1), 4, none⟩ = some (.int .i64 0) := rr.out.cell 4
      have d5 : X1.cell? ⟨(w.heap.size + 1), 5, none⟩ = some (.string ⟨#[]⟩) := rr.out.cell 5
      have d6 : X1.cell? ⟨(w.heap.size + 1), 6, none⟩ = some (.string ⟨#[]⟩) := rr.out.cell 6
      have f0 := rr.out.free 0
      have f1 := rr.out.free 1
      have f2 := rr.out.free 2
      have f3 := rr.out.free 3
      have f4 := rr.out.free 4
      have f5 := rr.out.free 5
      have f6 := rr.out.free 6
      go_simp
      refine hK.out _ _ (SN _ hHeld) (fun hHeld => ?_)
      replace rr := Lib.hid (rr.out.put7 (.int .i64 x0) (.int .i64 x1) (.int .i64 x2) (.int .i64 x3) (.int .i64 2) (.string x5) (.string s))
      clear hK K d0 f0 d1 f1 d2 f2 d3 f3 d4 f4 d5 f5 d6 f6
      try simp only [Act.put, List.getElem_toArray, List.getElem_cons_succ, List.getElem_cons_zero, List.setIfInBounds_toArray, List.set_cons_zero, List.set_cons_succ]
      refine wpAnyH_take (i := 4) (v := ?_) rfl (by kernel_rfl) (by kernel_rfl) (by kernel_rfl) (fun _ _ _ h => h) (Or.inl ⟨by kernel_rfl, ?_⟩) hHeld ?_
      rotate_left
      · intro X hX
        first | (go_simp; done) | (go_simp; with_reducible rfl)
      try simp only [Act.put, List.getElem_toArray, List.getElem_cons_succ, List.getElem_cons_zero, List.setIfInBounds_toArray, List.set_cons_zero, List.set_cons_succ]
      refine wpAnyH_done (by kernel_rfl) ?_ _
      have hz := hHeld.out.2
      clear hHeld
      go_wp2_with fail
      go_meet
      exact ⟨rfl, rr.out, hz⟩
    case rest =>
      obtain ⟨rfl, hv, hbw⟩ := hcut
      have j0 := hv.cell 0
      have j1 := hv.cell 1
      have j2 := hv.cell 2
      have j3 := hv.cell 3
      have j4 := hv.cell 4
      have j5 := hv.cell 5
      have j6 := hv.cell 6
      go_wp2_with fail
      exact bodyPost_ret (v := .tuple #[.agg #[.int .i64 x0, .int .i64 x1, .int .i64 x2, .int .i64 x3, .int .i64 2, .string x5, .string s], .string t]) (by simp [results, Tryz.results6, go_sem, j0, j1, j2, j3, j4, j5, j6]) rfl (by exact ⟨rfl, hbw⟩)
  · clear HH
    obtain rfl : x6 = y6 := hy.symm
    clear hy
    have K1 := Lib.hid (specOther_any x0 x1 x2 x3 1 x5 x6 s n false ho Y0)
    have e0 : Y0.cell? ⟨w.heap.size, 0, none⟩ = some (.int .i64 x0) := H0.out.g.cell 0
    have e1 : Y0.cell? ⟨w.heap.size, 1, none⟩ = some (.int .i64 x1) := H0.out.g.cell 1
    have e2 : Y0.cell? ⟨w.heap.size, 2, none⟩ = some (.int .i64 x2) := H0.out.g.cell 2
    have e3 : Y0.cell? ⟨w.heap.size, 3, none⟩ = some (.int .i64 x3) := H0.out.g.cell 3
    have e4 : Y0.cell? ⟨w.heap.size, 4, none⟩ = some (.int .i64 1) := H0.out.g.cell 4
    have e5 : Y0.cell? ⟨w.heap.size, 5, none⟩ = some (.string x5) := H0.out.g.cell 5
    have e6 : Y0.cell? ⟨w.heap.size, 6, none⟩ = some (.string x6) := H0.out.g.cell 6
    clear ho c4
    go_wp2_with fail
    refine K1.out.mono ?_
    rintro e Y1 ⟨rfl, hb⟩
    have H1 := Lib.hid (H0.out.next hb)
    clear hb K1 e0 e1 e2 e3 e4 e5 e6 H0
    have c4 : Y1.cell? ⟨w.heap.size, 4, none⟩ = some (.int .i64 1) := H1.out.g.cell 4
    have f4 := H1.out.g.free 4
    have H2 := Lib.hid (H1.out.step 4)
    go_upto_region 5 with fail
    generalize Y1.setCell ⟨w.heap.size, 4, none⟩ (.int .i64 4) = V2 at *
    clear c4 f4 H1
    have e0 : V2.cell? ⟨w.heap.size, 0, none⟩ = some (.int .i64 x0) := H2.out.g.cell 0
    have e1 : V2.cell? ⟨w.heap.size, 1, none⟩ = some (.int .i64 x1) := H2.out.g.cell 1
    have e2 : V2.cell? ⟨w.heap.size, 2, none⟩ = some (.int .i64 x2) := H2.out.g.cell 2
    have e3 : V2.cell? ⟨w.heap.size, 3, none⟩ = some (.int .i64 x3) := H2.out.g.cell 3
    have e4 : V2.cell? ⟨w.heap.size, 4, none⟩ = some (.int .i64 4) := H2.out.g.cell 4
    have e5 : V2.cell? ⟨w.heap.size, 5, none⟩ = some (.string x5) := H2.out.g.cell 5
    have e6 : V2.cell? ⟨w.heap.size, 6, none⟩ = some (.string x6) := H2.out.g.cell 6
    have d0 : V2.cell? ⟨(w.heap.size + 1), 0, none⟩ = some (.int .i64 0) := H2.out.r.cell 0
    have d1 : V2.cell? ⟨(w.heap.size + 1), 1, none⟩ = some (.int .i64 0) := H2.out.r.cell 1
    have d2 : V2.cell? ⟨(w.heap.size + 1), 2, none⟩ = some (.int .i64 0) := H2.out.r.cell 2
    have d3 : V2.cell? ⟨(w.heap.size + 1), 3, none⟩ = some (.int .i64 0) := H2.out.r.cell 3
    have d4 : V2.cell? ⟨(w.heap.size + 1), 4, none⟩ = some (.int .i64 0) := H2.out.r.cell 4
    have d5 : V2.cell? ⟨(w.heap.size + 1), 5, none⟩ = some (.string ⟨#[]⟩) := H2.out.r.cell 5
    have d6 : V2.cell? ⟨(w.heap.size + 1), 6, none⟩ = some (.string ⟨#[]⟩) := H2.out.r.cell 6
    have f0 := (H2.out.r).free 0
    have f1 := (H2.out.r).free 1
    have f2 := (H2.out.r).free 2
    have f3 := (H2.out.r).free 3
    have f4 := (H2.out.r).free 4
    have f5 := (H2.out.r).free 5
    have f6 := (H2.out.r).free 6
    have R9 := (H2.out.r).put7 (.int .i64 x0) (.int .i64 x1) (.int .i64 x2) (.int .i64 x3) (.int .i64 4) (.string x5) (.string x6)
    have j0 := R9.cell 0
    have j1 := R9.cell 1
    have j2 := R9.cell 2
    have j3 := R9.cell 3
    have j4 := R9.cell 4
    have j5 := R9.cell 5
    have j6 := R9.cell 6
    have BZ := Lib.hid (below_put7 H2.out.below (Nat.le_succ _) (.int .i64 x0) (.int .i64 x1) (.int .i64 x2) (.int .i64 x3) (.int .i64 4) (.string x5) (.string x6))
    clear R9
    go_wp2_with fail
    exact bodyPost_ret (v := .tuple #[.agg #[.int .i64 x0, .int .i64 x1, .int .i64 x2, .int .i64 x3, .int .i64 4, .string x5, .string x6], .string ⟨#[]⟩]) (by simp [results, Tryz.results6, go_sem, j0, j1, j2, j3, j4, j5, j6]) rfl (by exact ⟨rfl, BZ.out⟩)
  · clear HH
    obtain rfl : x6 = y6 := hy.symm
    have HC := Lib.hid hb
    have HY := Lib.hid hy4
    clear hb hy hy4
    have f4 := H0.out.g.free 4
    have H1 := Lib.hid (H0.out.step 4)
    have HF : Hid (b = false → y4 = 4) := Lib.hid (fun e => by rw [HY.out, e]; rfl)
    have HT3 : Hid (b = true → y4 = 3) := Lib.hid (fun e => by rw [HY.out, e]; rfl)
    have HN : Hid ((∀ E S : Nat, E < 1073741789 → S < 1073741789 → s ≠ (⟨#[112]⟩ : ByteArray) ++ (numB E ++ numB S)) → b = false) := Lib.hid (fun h => by
      cases b with
      | false => rfl
      | true =>
        obtain ⟨E, S, h1, h2, h3, -⟩ := HC.out.1 rfl
        exact absurd h3 (h E S h1 h2))
    go_upto_region 11 with fail
    generalize Y0.setCell ⟨w.heap.size, 4, none⟩ (.int .i64 4) = V1 at *
    clear c4 f4 H0
    by_cases hz : s.size = 9
    rotate_left
    · have hbf : b = false := HN.out (fun E S _ _ e => hz (by rw [e]; rfl))
      obtain rfl := HF.out hbf
      have k1 : ((s.size : Int) == 9) = false := by rw [beq_eq_false_iff_ne]; omega
      clear hz
      go_upto_region 15 with fail
      have e0 : V1.cell? ⟨w.heap.size, 0, none⟩ = some (.int .i64 x0) := H1.out.g.cell 0
      have e1 : V1.cell? ⟨w.heap.size, 1, none⟩ = some (.int .i64 x1) := H1.out.g.cell 1
      have e2 : V1.cell? ⟨w.heap.size, 2, none⟩ = some (.int .i64 x2) := H1.out.g.cell 2
      have e3 : V1.cell? ⟨w.heap.size, 3, none⟩ = some (.int .i64 x3) := H1.out.g.cell 3
      have e4 : V1.cell? ⟨w.heap.size, 4, none⟩ = some (.int .i64 4) := H1.out.g.cell 4
      have e5 : V1.cell? ⟨w.heap.size, 5, none⟩ = some (.string x5) := H1.out.g.cell 5
      have e6 : V1.cell? ⟨w.heap.size, 6, none⟩ = some (.string x6) := H1.out.g.cell 6
      have d0 : V1.cell? ⟨(w.heap.size + 1), 0, none⟩ = some (.int .i64 0) := H1.out.r.cell 0
      have d1 : V1.cell? ⟨(w.heap.size + 1), 1, none⟩ = some (.int .i64 0) := H1.out.r.cell 1
      have d2 : V1.cell? ⟨(w.heap.size + 1), 2, none⟩ = some (.int .i64 0) := H1.out.r.cell 2
      have d3 : V1.cell? ⟨(w.heap.size + 1), 3, none⟩ = some (.int .i64 0) := H1.out.r.cell 3
      have d4 : V1.cell? ⟨(w.heap.size + 1), 4, none⟩ = some (.int .i64 0) := H1.out.r.cell 4
      have d5 : V1.cell? ⟨(w.heap.size + 1), 5, none⟩ = some (.string ⟨#[]⟩) := H1.out.r.cell 5
      have d6 : V1.cell? ⟨(w.heap.size + 1), 6, none⟩ = some (.string ⟨#[]⟩) := H1.out.r.cell 6
      have f0 := (H1.out.r).free 0
      have f1 := (H1.out.r).free 1
      have f2 := (H1.out.r).free 2
      have f3 := (H1.out.r).free 3
      have f4 := (H1.out.r).free 4
      have f5 := (H1.out.r).free 5
      have f6 := (H1.out.r).free 6
      have R9 := (H1.out.r).put7 (.int .i64 x0) (.int .i64 x1) (.int .i64 x2) (.int .i64 x3) (.int .i64 4) (.string x5) (.string x6)
      have j0 := R9.cell 0
      have j1 := R9.cell 1
      have j2 := R9.cell 2
      have j3 := R9.cell 3
      have j4 := R9.cell 4
      have j5 := R9.cell 5
      have j6 := R9.cell 6
      have BZ := Lib.hid (below_put7 H1.out.below (Nat.le_succ _) (.int .i64 x0) (.int .i64 x1) (.int .i64 x2) (.int .i64 x3) (.int .i64 4) (.string x5) (.string x6))
      clear R9
      go_wp2_with fail
      exact bodyPost_ret (v := .tuple #[.agg #[.int .i64 x0, .int .i64 x1, .int .i64 x2, .int .i64 x3, .int .i64 4, .string x5, .string x6], .string ⟨#[]⟩]) (by simp [results, Tryz.results6, go_sem, j0, j1, j2, j3, j4, j5, j6]) rfl (by exact ⟨rfl, BZ.out⟩)
    have k1 : ((s.size : Int) == 9) = true := by rw [hz]; rfl
    have hlt : 0 < s.size := by omega
    have hlt' : (0 : Int) < (s.size : Int) := by omega
    obtain ⟨x, hx⟩ : ∃ x, s[0] = x := ⟨_, rfl⟩
    by_cases h12 : x = 112
    rotate_left
    · have hbf : b = false := HN.out (fun E S _ _ e => h12 (by subst e; rw [← hx]; exact nine_first _ hlt))
      obtain rfl := HF.out hbf
      have k2 : ((x.toNat : Int) == 112) = false := by
        rw [beq_eq_false_iff_ne]
        intro e
        exact h12 (UInt8.toNat_inj.1 (by rw [show (112 : UInt8).toNat = 112 from rfl]; omega))
      clear hz h12
      go_upto_region 15 with fail
      have e0 : V1.cell? ⟨w.heap.size, 0, none⟩ = some (.int .i64 x0) := H1.out.g.cell 0
      have e1 : V1.cell? ⟨w.heap.size, 1, none⟩ = some (.int .i64 x1) := H1.out.g.cell 1
      have e2 : V1.cell? ⟨w.heap.size, 2, none⟩ = some (.int .i64 x2) := H1.out.g.cell 2
      have e3 : V1.cell? ⟨w.heap.size, 3, none⟩ = some (.int .i64 x3) := H1.out.g.cell 3
      have e4 : V1.cell? ⟨w.heap.size, 4, none⟩ = some (.int .i64 4) := H1.out.g.cell 4
      have e5 : V1.cell? ⟨w.heap.size, 5, none⟩ = some (.string x5) := H1.out.g.cell 5
      have e6 : V1.cell? ⟨w.heap.size, 6, none⟩ = some (.string x6) := H1.out.g.cell 6
      have d0 : V1.cell? ⟨(w.heap.size + 1), 0, none⟩ = some (.int .i64 0) := H1.out.r.cell 0
      have d1 : V1.cell? ⟨(w.heap.size + 1), 1, none⟩ = some (.int .i64 0) := H1.out.r.cell 1
      have d2 : V1.cell? ⟨(w.heap.size + 1), 2, none⟩ = some (.int .i64 0) := H1.out.r.cell 2
      have d3 : V1.cell? ⟨(w.heap.size + 1), 3, none⟩ = some (.int .i64 0) := H1.out.r.cell 3
      have d4 : V1.cell? ⟨(w.heap.size + 1), 4, none⟩ = some (.int .i64 0) := H1.out.r.cell 4
      have d5 : V1.cell? ⟨(w.heap.size + 1), 5, none⟩ = some (.string ⟨#[]⟩) := H1.out.r.cell 5
      have d6 : V1.cell? ⟨(w.heap.size + 1), 6, none⟩ = some (.string ⟨#[]⟩) := H1.out.r.cell 6
      have f0 := (H1.out.r).free 0
      have f1 := (H1.out.r).free 1
      have f2 := (H1.out.r).free 2
      have f3 := (H1.out.r).free 3
      have f4 := (H1.out.r).free 4
      have f5 := (H1.out.r).free 5
      have f6 := (H1.out.r).free 6
      have R9 := (H1.out.r).put7 (.int .i64 x0) (.int .i64 x1) (.int .i64 x2) (.int .i64 x3) (.int .i64 4) (.string x5) (.string x6)
      have j0 := R9.cell 0
      have j1 := R9.cell 1
      have j2 := R9.cell 2
      have j3 := R9.cell 3
      have j4 := R9.cell 4
      have j5 := R9.cell 5
      have j6 := R9.cell 6
      have BZ := Lib.hid (below_put7 H1.out.below (Nat.le_succ _) (.int .i64 x0) (.int .i64 x1) (.int .i64 x2) (.int .i64 x3) (.int .i64 4) (.string x5) (.string x6))
      clear R9
      go_wp2_with fail
      exact bodyPost_ret (v := .tuple #[.agg #[.int .i64 x0, .int .i64 x1, .int .i64 x2, .int .i64 x3, .int .i64 4, .string x5, .string x6], .string ⟨#[]⟩]) (by simp [results, Tryz.results6, go_sem, j0, j1, j2, j3, j4, j5, j6]) rfl (by exact ⟨rfl, BZ.out⟩)
    subst h12
    obtain ⟨r8, hr8⟩ : ∃ r, s.extract 1 s.size = r := ⟨_, rfl⟩
    have HS8 : Hid (s = (⟨#[112]⟩ : ByteArray) ++ r8) := Lib.hid (by
      rw [← hr8]
      conv => lhs; rw [nine_parts hz hx]
      rw [hz])
    have z8 : r8.size = 8 := by rw [← hr8, ByteArray.size_extract]; omega
    obtain ⟨E, S, rb, hrs⟩ := sig_read r8
    have HRS := Lib.hid hrs
    have K1 := Lib.hid (specReadSig_is r8 E S rb hrs V1)
    have k3 : (1 : Int) ≤ (s.size : Int) := by omega
    clear hz z8 hrs
    go_wp2_with fail
    refine K1.out.mono ?_
    rintro e V2 ⟨rfl, hb⟩
    have H2 := Lib.hid (H1.out.next hb)
    clear hb K1 H1
    have H3 := Lib.hid (H2.out.next ((Below.refl _ V2).alloc (Nat.le_refl _) (.cells #[.int .i64 (E : Nat), .int .i64 (S : Nat)] SigT)))
    have GS := Lib.hid (VarA.new V2 SigT #[.int .i64 (E : Nat), .int .i64 (S : Nat)])
    go_upto_region 13 with fail
    generalize V2.alloc (.cells #[.int .i64 (E : Nat), .int .i64 (S : Nat)] SigT) = V3 at *
    generalize V2.heap.size = gs at *
    clear H2 hlt hlt' hx k1 k3 hr8
    cases rb with
    | false =>
      have hbf : b = false := HN.out (fun E' S' h1 h2 e => by
        rcases HRS.out with ⟨h, -⟩ | ⟨-, -, -, h⟩
        · cases h
        · exact h E' S' h1 h2 (ByteArray.append_right_inj _ |>.1 (HS8.out.symm.trans e)))
      obtain rfl := HF.out hbf
      have c0 : V3.cell? ⟨w.heap.size, 0, none⟩ = some (.int .i64 x0) := H3.out.g.cell 0
      have c1 : V3.cell? ⟨w.heap.size, 1, none⟩ = some (.int .i64 x1) := H3.out.g.cell 1
      have c2 : V3.cell? ⟨w.heap.size, 2, none⟩ = some (.int .i64 x2) := H3.out.g.cell 2
      have c3 : V3.cell? ⟨w.heap.size, 3, none⟩ = some (.int .i64 x3) := H3.out.g.cell 3
      have c4 : V3.cell? ⟨w.heap.size, 4, none⟩ = some (.int .i64 4) := H3.out.g.cell 4
      have c5 : V3.cell? ⟨w.heap.size, 5, none⟩ = some (.string x5) := H3.out.g.cell 5
      have c6 : V3.cell? ⟨w.heap.size, 6, none⟩ = some (.string x6) := H3.out.g.cell 6
      have s0 := GS.out.cell 0
      have s1 := GS.out.cell 1
      go_quiet (fail)
      have H4 := Lib.hid (H3.out.next (below_drewN (Below.refl _ _) nq))
      generalize V3.drewN nq = V4 at *
      clear c0 c1 c2 c3 c4 c5 c6 s0 s1
      go_upto_region 15 with fail
      have e0 : V4.cell? ⟨w.heap.size, 0, none⟩ = some (.int .i64 x0) := H4.out.g.cell 0
      have e1 : V4.cell? ⟨w.heap.size, 1, none⟩ = some (.int .i64 x1) := H4.out.g.cell 1
      have e2 : V4.cell? ⟨w.heap.size, 2, none⟩ = some (.int .i64 x2) := H4.out.g.cell 2
      have e3 : V4.cell? ⟨w.heap.size, 3, none⟩ = some (.int .i64 x3) := H4.out.g.cell 3
      have e4 : V4.cell? ⟨w.heap.size, 4, none⟩ = some (.int .i64 4) := H4.out.g.cell 4
      have e5 : V4.cell? ⟨w.heap.size, 5, none⟩ = some (.string x5) := H4.out.g.cell 5
      have e6 : V4.cell? ⟨w.heap.size, 6, none⟩ = some (.string x6) := H4.out.g.cell 6
      have d0 : V4.cell? ⟨(w.heap.size + 1), 0, none⟩ = some (.int .i64 0) := H4.out.r.cell 0
      have d1 : V4.cell? ⟨(w.heap.size + 1), 1, none⟩ = some (.int .i64 0) := H4.out.r.cell 1
      have d2 : V4.cell? ⟨(w.heap.size + 1), 2, none⟩ = some (.int .i64 0) := H4.out.r.cell 2
      have d3 : V4.cell? ⟨(w.heap.size + 1), 3, none⟩ = some (.int .i64 0) := H4.out.r.cell 3
      have d4 : V4.cell? ⟨(w.heap.size + 1), 4, none⟩ = some (.int .i64 0) := H4.out.r.cell 4
      have d5 : V4.cell? ⟨(w.heap.size + 1), 5, none⟩ = some (.string ⟨#[]⟩) := H4.out.r.cell 5
      have d6 : V4.cell? ⟨(w.heap.size + 1), 6, none⟩ = some (.string ⟨#[]⟩) := H4.out.r.cell 6
      have f0 := (H4.out.r).free 0
      have f1 := (H4.out.r).free 1
      have f2 := (H4.out.r).free 2
      have f3 := (H4.out.r).free 3
      have f4 := (H4.out.r).free 4
      have f5 := (H4.out.r).free 5
      have f6 := (H4.out.r).free 6
      have R9 := (H4.out.r).put7 (.int .i64 x0) (.int .i64 x1) (.int .i64 x2) (.int .i64 x3) (.int .i64 4) (.string x5) (.string x6)
      have j0 := R9.cell 0
      have j1 := R9.cell 1
      have j2 := R9.cell 2
      have j3 := R9.cell 3
      have j4 := R9.cell 4
      have j5 := R9.cell 5
      have j6 := R9.cell 6
      have BZ := Lib.hid (below_put7 H4.out.below (Nat.le_succ _) (.int .i64 x0) (.int .i64 x1) (.int .i64 x2) (.int .i64 x3) (.int .i64 4) (.string x5) (.string x6))
      clear R9
      go_wp2_with fail
      exact bodyPost_ret (v := .tuple #[.agg #[.int .i64 x0, .int .i64 x1, .int .i64 x2, .int .i64 x3, .int .i64 4, .string x5, .string x6], .string ⟨#[]⟩]) (by simp [results, Tryz.results6, go_sem, j0, j1, j2, j3, j4, j5, j6]) rfl (by exact ⟨rfl, BZ.out⟩)
    | true =>
      obtain ⟨hE, hS, hr⟩ : E < 1073741789 ∧ S < 1073741789 ∧ r8 = numB E ++ numB S := by
        rcases HRS.out with ⟨-, h1, h2, h3⟩ | ⟨h, -⟩
        · exact ⟨h1, h2, h3⟩
        · cases h
      obtain ⟨tr, TR⟩ : ∃ t, Hid (t = transB x0 x5 x6) := ⟨_, Lib.hid rfl⟩
      obtain ⟨z, hzw⟩ : ∃ z, IntKind.i64.wrap (3 - x0) = z := ⟨_, rfl⟩
      obtain ⟨ob, OB⟩ : ∃ t, Hid (t = oneB (3 - x0)) := ⟨_, Lib.hid rfl⟩
      have hzb : oneB z = ob := by rw [← hzw, wrap_three, OB.out]
      have hzi := wrap_three_in x0
      rw [hzw] at hzi
      have zt : tr.size ≤ 200000000 := by rw [TR.out, trans_size]; omega
      have zo : ob.size = 1 := by rw [OB.out]; rfl
      have m1 : ∀ X, (Op.stringOp .add tr ob).run Tryz.prog X = .ok (.string (tr ++ ob)) X := fun X => run_string_add_sum X tr ob (by omega)
      have zm : (tr ++ ob).size ≤ 300000000 := by rw [ByteArray.size_append]; omega
      have hbc : b = true ↔ inGroup x2 = true ∧ E = chalP (backP x2.toNat E S) x2.toNat (tr ++ ob) := by
        rw [TR.out, OB.out]
        constructor
        · intro h
          obtain ⟨E', S', h1, h2, h3, h4, h5⟩ := HC.out.1 h
          have e9 : numB E' ++ numB S' = numB E ++ numB S := by
            rw [← hr]
            exact (ByteArray.append_right_inj _ |>.1 (HS8.out.symm.trans h3)).symm
          have eE : E' = E := numB_lt (by omega) (by omega) (by have h9 := congrArg (fun q : ByteArray => q.extract 0 4) e9; simpa only [sig_left] using h9)
          have eS : S' = S := numB_lt (by omega) (by omega) (by have h9 := congrArg (fun q : ByteArray => q.extract 4 8) e9; simpa only [sig_right] using h9)
          subst eE eS
          exact ⟨h4, h5⟩
        · rintro ⟨h1, h2⟩
          exact HC.out.2 ⟨E, S, hE, hS, by rw [← hr]; exact HS8.out, h1, h2⟩
      have E0 : Hid (V3.drew.cell? ⟨w.heap.size, 0, none⟩ = some (.int .i64 x0) ∧ V3.drew.cell? ⟨w.heap.size, 1, none⟩ = some (.int .i64 x1) ∧ V3.drew.cell? ⟨w.heap.size, 2, none⟩ = some (.int .i64 x2) ∧ V3.drew.cell? ⟨w.heap.size, 3, none⟩ = some (.int .i64 x3) ∧ V3.drew.cell? ⟨w.heap.size, 4, none⟩ = some (.int .i64 4) ∧ V3.drew.cell? ⟨w.heap.size, 5, none⟩ = some (.string x5) ∧ V3.drew.cell? ⟨w.heap.size, 6, none⟩ = some (.string x6) ∧ V3.drew.cell? ⟨gs, 0, none⟩ = some (.int .i64 (E : Nat)) ∧ V3.drew.cell? ⟨gs, 1, none⟩ = some (.int .i64 (S : Nat)) ∧ Below V3.heap.size V3 V3.drew) := Lib.hid ⟨H3.out.g.drew.cell 0, H3.out.g.drew.cell 1, H3.out.g.drew.cell 2, H3.out.g.drew.cell 3, H3.out.g.drew.cell 4, H3.out.g.drew.cell 5, H3.out.g.drew.cell 6, GS.out.drew.cell 0, GS.out.drew.cell 1, (Below.refl _ _).drew⟩
      have qv : ∀ X Y, (X.cell? ⟨w.heap.size, 0, none⟩ = some (.int .i64 x0) ∧ X.cell? ⟨w.heap.size, 1, none⟩ = some (.int .i64 x1) ∧ X.cell? ⟨w.heap.size, 2, none⟩ = some (.int .i64 x2) ∧ X.cell? ⟨w.heap.size, 3, none⟩ = some (.int .i64 x3) ∧ X.cell? ⟨w.heap.size, 4, none⟩ = some (.int .i64 4) ∧ X.cell? ⟨w.heap.size, 5, none⟩ = some (.string x5) ∧ X.cell? ⟨w.heap.size, 6, none⟩ = some (.string x6) ∧ X.cell? ⟨gs, 0, none⟩ = some (.int .i64 (E : Nat)) ∧ X.cell? ⟨gs, 1, none⟩ = some (.int .i64 (S : Nat)) ∧ Below V3.heap.size V3 X) → Below X.heap.size X Y → (Y.cell? ⟨w.heap.size, 0, none⟩ = some (.int .i64 x0) ∧ Y.cell? ⟨w.heap.size, 1, none⟩ = some (.int .i64 x1) ∧ Y.cell? ⟨w.heap.size, 2, none⟩ = some (.int .i64 x2) ∧ Y.cell? ⟨w.heap.size, 3, none⟩ = some (.int .i64 x3) ∧ Y.cell? ⟨w.heap.size, 4, none⟩ = some (.int .i64 4) ∧ Y.cell? ⟨w.heap.size, 5, none⟩ = some (.string x5) ∧ Y.cell? ⟨w.heap.size, 6, none⟩ = some (.string x6) ∧ Y.cell? ⟨gs, 0, none⟩ = some (.int .i64 (E : Nat)) ∧ Y.cell? ⟨gs, 1, none⟩ = some (.int .i64 (S : Nat)) ∧ Below V3.heap.size V3 Y) := fun X Y h hb => by
        obtain ⟨h0, h1, h2, h3, h4, h5, h6, h7, h8, h9⟩ := h
        have hg : w.heap.size < X.heap.size := cell_size (p := ⟨w.heap.size, 0, none⟩) h0
        have hq : gs < X.heap.size := cell_size (p := ⟨gs, 0, none⟩) h7
        exact ⟨by rw [hb.cell (p := ⟨w.heap.size, 0, none⟩) hg]; exact h0, by rw [hb.cell (p := ⟨w.heap.size, 1, none⟩) hg]; exact h1, by rw [hb.cell (p := ⟨w.heap.size, 2, none⟩) hg]; exact h2, by rw [hb.cell (p := ⟨w.heap.size, 3, none⟩) hg]; exact h3, by rw [hb.cell (p := ⟨w.heap.size, 4, none⟩) hg]; exact h4, by rw [hb.cell (p := ⟨w.heap.size, 5, none⟩) hg]; exact h5, by rw [hb.cell (p := ⟨w.heap.size, 6, none⟩) hg]; exact h6, by rw [hb.cell (p := ⟨gs, 0, none⟩) hq]; exact h7, by rw [hb.cell (p := ⟨gs, 1, none⟩) hq]; exact h8, h9.trans (hb.mono h9.size)⟩
      have KT : Hid (∀ X, (X.cell? ⟨w.heap.size, 0, none⟩ = some (.int .i64 x0) ∧ X.cell? ⟨w.heap.size, 1, none⟩ = some (.int .i64 x1) ∧ X.cell? ⟨w.heap.size, 2, none⟩ = some (.int .i64 x2) ∧ X.cell? ⟨w.heap.size, 3, none⟩ = some (.int .i64 x3) ∧ X.cell? ⟨w.heap.size, 4, none⟩ = some (.int .i64 4) ∧ X.cell? ⟨w.heap.size, 5, none⟩ = some (.string x5) ∧ X.cell? ⟨w.heap.size, 6, none⟩ = some (.string x6) ∧ X.cell? ⟨gs, 0, none⟩ = some (.int .i64 (E : Nat)) ∧ X.cell? ⟨gs, 1, none⟩ = some (.int .i64 (S : Nat)) ∧ Below V3.heap.size V3 X) → Calls Tryz.prog 26 #[.agg #[.int .i64 x0, .int .i64 x1, .int .i64 x2, .int .i64 x3, .int .i64 4, .string x5, .string x6]] X fun e Y => e = .returned (.string tr) ∧ (Y.cell? ⟨w.heap.size, 0, none⟩ = some (.int .i64 x0) ∧ Y.cell? ⟨w.heap.size, 1, none⟩ = some (.int .i64 x1) ∧ Y.cell? ⟨w.heap.size, 2, none⟩ = some (.int .i64 x2) ∧ Y.cell? ⟨w.heap.size, 3, none⟩ = some (.int .i64 x3) ∧ Y.cell? ⟨w.heap.size, 4, none⟩ = some (.int .i64 4) ∧ Y.cell? ⟨w.heap.size, 5, none⟩ = some (.string x5) ∧ Y.cell? ⟨w.heap.size, 6, none⟩ = some (.string x6) ∧ Y.cell? ⟨gs, 0, none⟩ = some (.int .i64 (E : Nat)) ∧ Y.cell? ⟨gs, 1, none⟩ = some (.int .i64 (S : Nat)) ∧ Below V3.heap.size V3 Y)) := Lib.hid (fun X hX => by
        refine (specTranscript_any x0 x1 x2 x3 4 x5 x6 h5 h6 X).mono ?_
        rintro e Y ⟨rfl, hb⟩
        exact ⟨by rw [TR.out], qv _ _ hX hb⟩)
      have KB : Hid (∀ X, (X.cell? ⟨w.heap.size, 0, none⟩ = some (.int .i64 x0) ∧ X.cell? ⟨w.heap.size, 1, none⟩ = some (.int .i64 x1) ∧ X.cell? ⟨w.heap.size, 2, none⟩ = some (.int .i64 x2) ∧ X.cell? ⟨w.heap.size, 3, none⟩ = some (.int .i64 x3) ∧ X.cell? ⟨w.heap.size, 4, none⟩ = some (.int .i64 4) ∧ X.cell? ⟨w.heap.size, 5, none⟩ = some (.string x5) ∧ X.cell? ⟨w.heap.size, 6, none⟩ = some (.string x6) ∧ X.cell? ⟨gs, 0, none⟩ = some (.int .i64 (E : Nat)) ∧ X.cell? ⟨gs, 1, none⟩ = some (.int .i64 (S : Nat)) ∧ Below V3.heap.size V3 X) → Calls Tryz.prog 27 #[.int .i64 z] X fun e Y => e = .returned (.string ob) ∧ (Y.cell? ⟨w.heap.size, 0, none⟩ = some (.int .i64 x0) ∧ Y.cell? ⟨w.heap.size, 1, none⟩ = some (.int .i64 x1) ∧ Y.cell? ⟨w.heap.size, 2, none⟩ = some (.int .i64 x2) ∧ Y.cell? ⟨w.heap.size, 3, none⟩ = some (.int .i64 x3) ∧ Y.cell? ⟨w.heap.size, 4, none⟩ = some (.int .i64 4) ∧ Y.cell? ⟨w.heap.size, 5, none⟩ = some (.string x5) ∧ Y.cell? ⟨w.heap.size, 6, none⟩ = some (.string x6) ∧ Y.cell? ⟨gs, 0, none⟩ = some (.int .i64 (E : Nat)) ∧ Y.cell? ⟨gs, 1, none⟩ = some (.int .i64 (S : Nat)) ∧ Below V3.heap.size V3 Y)) := Lib.hid (fun X hX => by
        refine (specByteZ_any z hzi.1 hzi.2 X).mono ?_
        rintro e Y ⟨rfl, hb⟩
        exact ⟨by rw [hzb], qv _ _ hX hb⟩)
      have KC : Hid (∀ X, (X.cell? ⟨w.heap.size, 0, none⟩ = some (.int .i64 x0) ∧ X.cell? ⟨w.heap.size, 1, none⟩ = some (.int .i64 x1) ∧ X.cell? ⟨w.heap.size, 2, none⟩ = some (.int .i64 x2) ∧ X.cell? ⟨w.heap.size, 3, none⟩ = some (.int .i64 x3) ∧ X.cell? ⟨w.heap.size, 4, none⟩ = some (.int .i64 4) ∧ X.cell? ⟨w.heap.size, 5, none⟩ = some (.string x5) ∧ X.cell? ⟨w.heap.size, 6, none⟩ = some (.string x6) ∧ X.cell? ⟨gs, 0, none⟩ = some (.int .i64 (E : Nat)) ∧ X.cell? ⟨gs, 1, none⟩ = some (.int .i64 (S : Nat)) ∧ Below V3.heap.size V3 X) → Calls Tryz.prog 25 #[.int .i64 x2, .string (tr ++ ob), .agg #[.int .i64 (E : Nat), .int .i64 (S : Nat)]] X fun e Y => e = .returned (.bool b) ∧ (Y.cell? ⟨w.heap.size, 0, none⟩ = some (.int .i64 x0) ∧ Y.cell? ⟨w.heap.size, 1, none⟩ = some (.int .i64 x1) ∧ Y.cell? ⟨w.heap.size, 2, none⟩ = some (.int .i64 x2) ∧ Y.cell? ⟨w.heap.size, 3, none⟩ = some (.int .i64 x3) ∧ Y.cell? ⟨w.heap.size, 4, none⟩ = some (.int .i64 4) ∧ Y.cell? ⟨w.heap.size, 5, none⟩ = some (.string x5) ∧ Y.cell? ⟨w.heap.size, 6, none⟩ = some (.string x6) ∧ Y.cell? ⟨gs, 0, none⟩ = some (.int .i64 (E : Nat)) ∧ Y.cell? ⟨gs, 1, none⟩ = some (.int .i64 (S : Nat)) ∧ Below V3.heap.size V3 Y)) := Lib.hid (fun X hX => by
        refine (specCheck_is x2 (tr ++ ob) E S hE hS zm b hbc X).mono ?_
        rintro e Y ⟨rfl, hb⟩
        exact ⟨rfl, qv _ _ hX hb⟩)
      clear zt zo zm hzb hzi hbc hE hS hr HRS HC HN HS8 qv GS
      go_cut [60] (fun z wx => z = .bool b ∧ Below V3.heap.size V3 wx)
      case first =>
        go_region_held3 (fun X => X.cell? ⟨w.heap.size, 0, none⟩ = some (.int .i64 x0) ∧ X.cell? ⟨w.heap.size, 1, none⟩ = some (.int .i64 x1) ∧ X.cell? ⟨w.heap.size, 2, none⟩ = some (.int .i64 x2) ∧ X.cell? ⟨w.heap.size, 3, none⟩ = some (.int .i64 x3) ∧ X.cell? ⟨w.heap.size, 4, none⟩ = some (.int .i64 4) ∧ X.cell? ⟨w.heap.size, 5, none⟩ = some (.string x5) ∧ X.cell? ⟨w.heap.size, 6, none⟩ = some (.string x6) ∧ X.cell? ⟨gs, 0, none⟩ = some (.int .i64 (E : Nat)) ∧ X.cell? ⟨gs, 1, none⟩ = some (.int .i64 (S : Nat)) ∧ Below V3.heap.size V3 X) (first | (with_reducible assumption) | (with_reducible exact E0.out)) (first | (go_at_call 26; refine (KT.out _ (by assumption)).mono ?_; rintro e v1 ⟨rfl, hS⟩) | (go_at_call 27; refine (KB.out _ (by assumption)).mono ?_; rintro e v1 ⟨rfl, hS⟩) | (go_at_call 25; refine (KC.out _ (by assumption)).mono ?_; rintro e v1 ⟨rfl, hS⟩))
        all_goals
          go_wp2_with fail
          go_meet
          exact ⟨rfl, hS.2.2.2.2.2.2.2.2.2⟩
      case rest =>
        obtain ⟨rfl, hbw⟩ := hcut
        have H4 := Lib.hid (H3.out.next hbw)
        clear KT KB KC E0 hbw H3
        cases b with
        | false =>
          obtain rfl := HF.out rfl
          go_upto_region 15 with fail
          have e0 : wc.cell? ⟨w.heap.size, 0, none⟩ = some (.int .i64 x0) := H4.out.g.cell 0
          have e1 : wc.cell? ⟨w.heap.size, 1, none⟩ = some (.int .i64 x1) := H4.out.g.cell 1
          have e2 : wc.cell? ⟨w.heap.size, 2, none⟩ = some (.int .i64 x2) := H4.out.g.cell 2
          have e3 : wc.cell? ⟨w.heap.size, 3, none⟩ = some (.int .i64 x3) := H4.out.g.cell 3
          have e4 : wc.cell? ⟨w.heap.size, 4, none⟩ = some (.int .i64 4) := H4.out.g.cell 4
          have e5 : wc.cell? ⟨w.heap.size, 5, none⟩ = some (.string x5) := H4.out.g.cell 5
          have e6 : wc.cell? ⟨w.heap.size, 6, none⟩ = some (.string x6) := H4.out.g.cell 6
          have d0 : wc.cell? ⟨(w.heap.size + 1), 0, none⟩ = some (.int .i64 0) := H4.out.r.cell 0
          have d1 : wc.cell? ⟨(w.heap.size + 1), 1, none⟩ = some (.int .i64 0) := H4.out.r.cell 1
          have d2 : wc.cell? ⟨(w.heap.size + 1), 2, none⟩ = some (.int .i64 0) := H4.out.r.cell 2
          have d3 : wc.cell? ⟨(w.heap.size + 1), 3, none⟩ = some (.int .i64 0) := H4.out.r.cell 3
          have d4 : wc.cell? ⟨(w.heap.size + 1), 4, none⟩ = some (.int .i64 0) := H4.out.r.cell 4
          have d5 : wc.cell? ⟨(w.heap.size + 1), 5, none⟩ = some (.string ⟨#[]⟩) := H4.out.r.cell 5
          have d6 : wc.cell? ⟨(w.heap.size + 1), 6, none⟩ = some (.string ⟨#[]⟩) := H4.out.r.cell 6
          have f0 := (H4.out.r).free 0
          have f1 := (H4.out.r).free 1
          have f2 := (H4.out.r).free 2
          have f3 := (H4.out.r).free 3
          have f4 := (H4.out.r).free 4
          have f5 := (H4.out.r).free 5
          have f6 := (H4.out.r).free 6
          have R9 := (H4.out.r).put7 (.int .i64 x0) (.int .i64 x1) (.int .i64 x2) (.int .i64 x3) (.int .i64 4) (.string x5) (.string x6)
          have j0 := R9.cell 0
          have j1 := R9.cell 1
          have j2 := R9.cell 2
          have j3 := R9.cell 3
          have j4 := R9.cell 4
          have j5 := R9.cell 5
          have j6 := R9.cell 6
          have BZ := Lib.hid (below_put7 H4.out.below (Nat.le_succ _) (.int .i64 x0) (.int .i64 x1) (.int .i64 x2) (.int .i64 x3) (.int .i64 4) (.string x5) (.string x6))
          clear R9
          go_wp2_with fail
          exact bodyPost_ret (v := .tuple #[.agg #[.int .i64 x0, .int .i64 x1, .int .i64 x2, .int .i64 x3, .int .i64 4, .string x5, .string x6], .string ⟨#[]⟩]) (by simp [results, Tryz.results6, go_sem, j0, j1, j2, j3, j4, j5, j6]) rfl (by exact ⟨rfl, BZ.out⟩)
        | true =>
          obtain rfl := HT3.out rfl
          have c4 : wc.cell? ⟨w.heap.size, 4, none⟩ = some (.int .i64 4) := H4.out.g.cell 4
          have f4 := H4.out.g.free 4
          have H5 := Lib.hid (H4.out.step 3)
          go_upto_region 15 with fail
          generalize wc.setCell ⟨w.heap.size, 4, none⟩ (.int .i64 3) = V5 at *
          clear c4 f4 H4
          have e0 : V5.cell? ⟨w.heap.size, 0, none⟩ = some (.int .i64 x0) := H5.out.g.cell 0
          have e1 : V5.cell? ⟨w.heap.size, 1, none⟩ = some (.int .i64 x1) := H5.out.g.cell 1
          have e2 : V5.cell? ⟨w.heap.size, 2, none⟩ = some (.int .i64 x2) := H5.out.g.cell 2
          have e3 : V5.cell? ⟨w.heap.size, 3, none⟩ = some (.int .i64 x3) := H5.out.g.cell 3
          have e4 : V5.cell? ⟨w.heap.size, 4, none⟩ = some (.int .i64 3) := H5.out.g.cell 4
          have e5 : V5.cell? ⟨w.heap.size, 5, none⟩ = some (.string x5) := H5.out.g.cell 5
          have e6 : V5.cell? ⟨w.heap.size, 6, none⟩ = some (.string x6) := H5.out.g.cell 6
          have d0 : V5.cell? ⟨(w.heap.size + 1), 0, none⟩ = some (.int .i64 0) := H5.out.r.cell 0
          have d1 : V5.cell? ⟨(w.heap.size + 1), 1, none⟩ = some (.int .i64 0) := H5.out.r.cell 1
          have d2 : V5.cell? ⟨(w.heap.size + 1), 2, none⟩ = some (.int .i64 0) := H5.out.r.cell 2
          have d3 : V5.cell? ⟨(w.heap.size + 1), 3, none⟩ = some (.int .i64 0) := H5.out.r.cell 3
          have d4 : V5.cell? ⟨(w.heap.size + 1), 4, none⟩ = some (.int .i64 0) := H5.out.r.cell 4
          have d5 : V5.cell? ⟨(w.heap.size + 1), 5, none⟩ = some (.string ⟨#[]⟩) := H5.out.r.cell 5
          have d6 : V5.cell? ⟨(w.heap.size + 1), 6, none⟩ = some (.string ⟨#[]⟩) := H5.out.r.cell 6
          have f0 := (H5.out.r).free 0
          have f1 := (H5.out.r).free 1
          have f2 := (H5.out.r).free 2
          have f3 := (H5.out.r).free 3
          have f4 := (H5.out.r).free 4
          have f5 := (H5.out.r).free 5
          have f6 := (H5.out.r).free 6
          have R9 := (H5.out.r).put7 (.int .i64 x0) (.int .i64 x1) (.int .i64 x2) (.int .i64 x3) (.int .i64 3) (.string x5) (.string x6)
          have j0 := R9.cell 0
          have j1 := R9.cell 1
          have j2 := R9.cell 2
          have j3 := R9.cell 3
          have j4 := R9.cell 4
          have j5 := R9.cell 5
          have j6 := R9.cell 6
          have BZ := Lib.hid (below_put7 H5.out.below (Nat.le_succ _) (.int .i64 x0) (.int .i64 x1) (.int .i64 x2) (.int .i64 x3) (.int .i64 3) (.string x5) (.string x6))
          clear R9
          go_wp2_with fail
          exact bodyPost_ret (v := .tuple #[.agg #[.int .i64 x0, .int .i64 x1, .int .i64 x2, .int .i64 x3, .int .i64 3, .string x5, .string x6], .string ⟨#[]⟩]) (by simp [results, Tryz.results6, go_sem, j0, j1, j2, j3, j4, j5, j6]) rfl (by exact ⟨rfl, BZ.out⟩)
  · obtain rfl : x4 = y4 := hy4.symm
    obtain rfl : x6 = y6 := hy.symm
    clear hy hy4
    have k1 : (x4 == 1) = false := by rw [beq_eq_false_iff_ne]; exact n1
    have k2 : (x4 == 2) = false := by rw [beq_eq_false_iff_ne]; exact n2
    clear n1 n2 HH
    go_upto_region 15 with fail
    clear c4
    have e0 : Y0.cell? ⟨w.heap.size, 0, none⟩ = some (.int .i64 x0) := H0.out.g.cell 0
    have e1 : Y0.cell? ⟨w.heap.size, 1, none⟩ = some (.int .i64 x1) := H0.out.g.cell 1
    have e2 : Y0.cell? ⟨w.heap.size, 2, none⟩ = some (.int .i64 x2) := H0.out.g.cell 2
    have e3 : Y0.cell? ⟨w.heap.size, 3, none⟩ = some (.int .i64 x3) := H0.out.g.cell 3
    have e4 : Y0.cell? ⟨w.heap.size, 4, none⟩ = some (.int .i64 x4) := H0.out.g.cell 4
    have e5 : Y0.cell? ⟨w.heap.size, 5, none⟩ = some (.string x5) := H0.out.g.cell 5
    have e6 : Y0.cell? ⟨w.heap.size, 6, none⟩ = some (.string x6) := H0.out.g.cell 6
    have d0 : Y0.cell? ⟨(w.heap.size + 1), 0, none⟩ = some (.int .i64 0) := H0.out.r.cell 0
    have d1 : Y0.cell? ⟨(w.heap.size + 1), 1, none⟩ = some (.int .i64 0) := H0.out.r.cell 1
    have d2 : Y0.cell? ⟨(w.heap.size + 1), 2, none⟩ = some (.int .i64 0) := H0.out.r.cell 2
    have d3 : Y0.cell? ⟨(w.heap.size + 1), 3, none⟩ = some (.int .i64 0) := H0.out.r.cell 3
    have d4 : Y0.cell? ⟨(w.heap.size + 1), 4, none⟩ = some (.int .i64 0) := H0.out.r.cell 4
    have d5 : Y0.cell? ⟨(w.heap.size + 1), 5, none⟩ = some (.string ⟨#[]⟩) := H0.out.r.cell 5
    have d6 : Y0.cell? ⟨(w.heap.size + 1), 6, none⟩ = some (.string ⟨#[]⟩) := H0.out.r.cell 6
    have f0 := (H0.out.r).free 0
    have f1 := (H0.out.r).free 1
    have f2 := (H0.out.r).free 2
    have f3 := (H0.out.r).free 3
    have f4 := (H0.out.r).free 4
    have f5 := (H0.out.r).free 5
    have f6 := (H0.out.r).free 6
    have R9 := (H0.out.r).put7 (.int .i64 x0) (.int .i64 x1) (.int .i64 x2) (.int .i64 x3) (.int .i64 x4) (.string x5) (.string x6)
    have j0 := R9.cell 0
    have j1 := R9.cell 1
    have j2 := R9.cell 2
    have j3 := R9.cell 3
    have j4 := R9.cell 4
    have j5 := R9.cell 5
    have j6 := R9.cell 6
    have BZ := Lib.hid (below_put7 H0.out.below (Nat.le_succ _) (.int .i64 x0) (.int .i64 x1) (.int .i64 x2) (.int .i64 x3) (.int .i64 x4) (.string x5) (.string x6))
    clear R9
    go_wp2_with fail
    exact bodyPost_ret (v := .tuple #[.agg #[.int .i64 x0, .int .i64 x1, .int .i64 x2, .int .i64 x3, .int .i64 x4, .string x5, .string x6], .string ⟨#[]⟩]) (by simp [results, Tryz.results6, go_sem, j0, j1, j2, j3, j4, j5, j6]) rfl (by exact ⟨rfl, BZ.out⟩)

end Go.Proofs.YtkjjdoadjhjmbauGreatDoor
