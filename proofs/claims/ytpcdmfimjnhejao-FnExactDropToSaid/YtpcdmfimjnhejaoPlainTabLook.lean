/-
  Which route counts, asked of the table from the greatest length down; no program is spoken of here.
-/
import Derived.Test.YtpcdmfimjnhejaoPlainTable
import Derived.Test.YtpcdmfimjnhejaoLookSpec
namespace Go.Proofs.Ytpcdmfimjnhejao

/-- What the routes up to some have said. -/
theorem look_inv (x : Int) (xs : List Rt) : ∀ k, k ≤ xs.length → (∀ r ∈ xs.take k, inB r.1 r.2.1 x = true → r.2.1 ≤ (lookTo x (xs.take k)).1) ∧
    ((lookTo x (xs.take k) = (-1, 0)) ∨ ∃ r ∈ xs.take k, inB r.1 r.2.1 x = true ∧ lookTo x (xs.take k) = (r.2.1, r.2.2)) := by
  intro k
  induction k with
  | zero => intro _; exact ⟨by simp, Or.inl rfl⟩
  | succ k ih =>
    intro hk
    have hk' : k < xs.length := hk
    obtain ⟨h1, h2⟩ := ih (by omega)
    rw [lookTo_take x xs k hk']
    have hmem : ∀ r, r ∈ xs.take (k + 1) ↔ r ∈ xs.take k ∨ r = xs[k] := fun r => by
      rw [List.take_add_one, List.getElem?_eq_getElem hk', List.mem_append]
      simp
    unfold lookStep
    by_cases hc : (inB xs[k].1 xs[k].2.1 x && decide ((lookTo x (xs.take k)).1 < xs[k].2.1)) = true
    · rw [if_pos hc]
      rw [Bool.and_eq_true, decide_eq_true_iff] at hc
      refine ⟨fun r hr hi => ?_, Or.inr ⟨xs[k], (hmem _).2 (Or.inr rfl), hc.1, rfl⟩⟩
      rcases (hmem r).1 hr with h | h
      · have := h1 r h hi
        show r.2.1 ≤ xs[k].2.1
        omega
      · rw [h]
        exact Int.le_refl _
    · rw [if_neg hc]
      refine ⟨fun r hr hi => ?_, ?_⟩
      · rcases (hmem r).1 hr with h | h
        · exact h1 r h hi
        · rw [h] at hi ⊢
          rw [Bool.and_eq_true, decide_eq_true_iff] at hc
          exact Int.not_lt.1 fun h => hc ⟨hi, h⟩
      · rcases h2 with h | ⟨r, hr, hi, e⟩
        · exact Or.inl h
        · exact Or.inr ⟨r, (hmem r).2 (Or.inl hr), hi, e⟩

theorem look_inv_all (x : Int) (xs : List Rt) : (∀ r ∈ xs, inB r.1 r.2.1 x = true → r.2.1 ≤ (lookTo x xs).1) ∧ ((lookTo x xs = (-1, 0)) ∨ ∃ r ∈ xs, inB r.1 r.2.1 x = true ∧ lookTo x xs = (r.2.1, r.2.2)) := by
  have := look_inv x xs xs.length (Nat.le_refl _)
  rwa [List.take_length] at this

theorem in_first {a n x : Int} (h : inB a n x = true) : 0 ≤ n ∧ n ≤ 32 ∧ a = (firstP x.toNat n.toNat : Int) := by
  unfold inB prefB at h
  simp only [Bool.and_eq_true, decide_eq_true_iff, beq_iff_eq] at h
  omega

/-- The first that is found counts. -/
theorem look_found (xs : List Rt) (x : Int) (h : RoutesP xs) (hx0 : 0 ≤ x) (hx1 : x ≤ 4294967295) (n : Nat) (t : Int) (ht : tabP xs (firstP x.toNat n) n = some t)
    (hm : ∀ m : Nat, n < m → m ≤ 32 → tabP xs (firstP x.toNat m) m = none) : (lookTo x xs).2 = t := by
  obtain ⟨hok, hs, _⟩ := (routesP_iff xs).1 h
  have hmem := (tab_mem xs hs _ _ _).1 ht
  have hr := hok _ hmem
  have hin : inB (firstP x.toNat n : Int) (n : Int) x = true := by
    unfold inB
    rw [(prefB_iff _ _).2 hr.1]
    simp [hx0, hx1]
  obtain ⟨h1, h2⟩ := look_inv_all x xs
  have hle := h1 _ hmem hin
  rcases h2 with e | ⟨r, hrm, hri, e⟩
  · rw [e] at hle
    have : (n : Int) ≤ -1 := hle
    omega
  · rw [e] at hle ⊢
    have hle' : (n : Int) ≤ r.2.1 := hle
    obtain ⟨g1, g2, g3⟩ := in_first hri
    obtain ⟨m, hmn⟩ : ∃ m : Nat, r.2.1 = m := ⟨r.2.1.toNat, by omega⟩
    have hrt := (tab_mem xs hs r.1 r.2.1 r.2.2).2 hrm
    rw [hmn] at g2 g3 hle' hrt
    rw [g3] at hrt
    simp only [Int.toNat_natCast] at hrt
    by_cases hnm : m = n
    · rw [hnm, ht] at hrt
      exact (Option.some.inj hrt).symm
    · rw [hm m (by omega) (by omega)] at hrt
      cases hrt

/-- None is found. -/
theorem look_none (xs : List Rt) (x : Int) (h : RoutesP xs) (hm : ∀ m : Nat, m ≤ 32 → tabP xs (firstP x.toNat m) m = none) : (lookTo x xs).2 = 0 := by
  obtain ⟨hok, hs, _⟩ := (routesP_iff xs).1 h
  obtain ⟨h1, h2⟩ := look_inv_all x xs
  rcases h2 with e | ⟨r, hrm, hri, e⟩
  · rw [e]
  · exfalso
    obtain ⟨g1, g2, g3⟩ := in_first hri
    obtain ⟨m, hmn⟩ : ∃ m : Nat, r.2.1 = m := ⟨r.2.1.toNat, by omega⟩
    have hrt := (tab_mem xs hs r.1 r.2.1 r.2.2).2 hrm
    rw [hmn] at g2 g3 hrt
    rw [g3] at hrt
    simp only [Int.toNat_natCast] at hrt
    rw [hm m (by omega)] at hrt
    cases hrt

/-- An address that is none is in no route. -/
theorem look_wrong (xs : List Rt) (x : Int) (hx : ¬ (0 ≤ x ∧ x ≤ 4294967295)) : (lookTo x xs).2 = 0 := by
  obtain ⟨h1, h2⟩ := look_inv_all x xs
  rcases h2 with e | ⟨r, hrm, hri, e⟩
  · rw [e]
  · exfalso
    unfold inB at hri
    simp only [Bool.and_eq_true, decide_eq_true_iff] at hri
    exact hx ⟨hri.1.1.2, hri.1.2⟩

end Go.Proofs.Ytpcdmfimjnhejao
