/-
  Routes as a table by address and length; no program is spoken of here.
-/
import Derived.Test.YtpcdmfimjnhejaoPlainRoutes
import Derived.Test.YtpcdmfimjnhejaoKitMap
namespace Go.Proofs.Ytpcdmfimjnhejao

/-- A route laid into a table. -/
def tabPut (F : Int → Int → Option Int) (r : Rt) : Int → Int → Option Int := upd F r.1 (upd (F r.1) r.2.1 (some r.2.2))
def tabP (xs : List Rt) : Int → Int → Option Int := xs.foldl tabPut fun _ _ => none

theorem tabP_snoc (xs : List Rt) (r : Rt) : tabP (xs ++ [r]) = tabPut (tabP xs) r := by simp [tabP, List.foldl_append]
theorem tabP_take (xs : List Rt) (k : Nat) (h : k < xs.length) : tabP (xs.take (k + 1)) = tabPut (tabP (xs.take k)) xs[k] := by
  rw [List.take_add_one, List.getElem?_eq_getElem h]
  exact tabP_snoc _ _
theorem tabPut_at (F : Int → Int → Option Int) (r : Rt) (a n : Int) : tabPut F r a n = if a = r.1 ∧ n = r.2.1 then some r.2.2 else F a n := by
  unfold tabPut upd
  by_cases h1 : a = r.1
  · by_cases h2 : n = r.2.1
    · simp [h1, h2]
    · simp [h1, h2]
  · simp [h1]
/-- A route struck from a table. -/
def tabDel (F : Int → Int → Option Int) (a n : Int) : Int → Int → Option Int := upd F a (upd (F a) n none)
theorem tabDel_at (F : Int → Int → Option Int) (a n b m : Int) : tabDel F a n b m = if b = a ∧ m = n then none else F b m := by
  unfold tabDel upd
  by_cases h1 : b = a
  · by_cases h2 : m = n
    · simp [h1, h2]
    · simp [h1, h2]
  · simp [h1]

theorem ahead_irr (x : Rt) : ¬ AheadR x x := fun h => ahead_not h h

/-- What stands in the table of routes that ascend. -/
theorem tab_mem (xs : List Rt) (hs : xs.Pairwise AheadR) (a n t : Int) : tabP xs a n = some t ↔ (a, n, t) ∈ xs := by
  have main : ∀ k, k ≤ xs.length → (tabP (xs.take k) a n = some t ↔ (a, n, t) ∈ xs.take k) := by
    intro k
    induction k with
    | zero => intro _; simp [tabP]
    | succ k ih =>
      intro hk
      have hk' : k < xs.length := hk
      rw [tabP_take xs k hk', tabPut_at, List.take_add_one, List.getElem?_eq_getElem hk', List.mem_append]
      simp only [Option.toList_some, List.mem_singleton]
      by_cases h : a = xs[k].1 ∧ n = xs[k].2.1
      · rw [if_pos h]
        constructor
        · intro e
          right
          rw [h.1, h.2, ← Option.some.inj e]
        · rintro (hm | e)
          · exfalso
            obtain ⟨j, hj, e⟩ := List.getElem_of_mem hm
            rw [List.length_take] at hj
            rw [List.getElem_take] at e
            have := List.pairwise_iff_getElem.1 hs j k (by omega) hk' (by omega)
            rw [e] at this
            unfold AheadR at this
            rw [h.1, h.2] at this
            exact ahead_not this this
          · rw [← e]
      · rw [if_neg h, ih (by omega)]
        constructor
        · exact Or.inl
        · rintro (hm | e)
          · exact hm
          · exact absurd ⟨congrArg (·.1) e, congrArg (·.2.1) e⟩ h
  have := main xs.length (Nat.le_refl _)
  rwa [List.take_length] at this

/-- Routes that ascend are told by their table. -/
theorem tab_unique {xs ys : List Rt} (hx : xs.Pairwise AheadR) (hy : ys.Pairwise AheadR) (h : ∀ a n t, (a, n, t) ∈ ys ↔ tabP xs a n = some t) : ys = xs :=
  asc_unique ahead_irr (fun h1 h2 => ahead_trans h1 h2) hy hx fun x => by
    rw [← tab_mem xs hx x.1 x.2.1 x.2.2]
    exact h x.1 x.2.1 x.2.2

theorem ahead_or {a n b m : Int} (h : ¬ (a = b ∧ n = m)) : Ahead a n b m ∨ Ahead b m a n := by
  unfold Ahead
  omega

theorem put_mem (xs : List Rt) (r x : Rt) : x ∈ putP xs r ↔ x = r ∨ (x ∈ xs ∧ ¬ (x.1 = r.1 ∧ x.2.1 = r.2.1)) := by
  unfold putP
  rw [List.mem_append, List.mem_append, List.mem_filter, List.mem_filter, List.mem_singleton, aheadOf_iff, behind_iff]
  constructor
  · rintro ((⟨h1, h2⟩ | h) | ⟨h1, h2⟩)
    · refine Or.inr ⟨h1, fun e => ?_⟩
      unfold AheadR at h2
      rw [e.1, e.2] at h2
      exact ahead_not h2 h2
    · exact Or.inl h
    · refine Or.inr ⟨h1, fun e => ?_⟩
      unfold AheadR at h2
      rw [e.1, e.2] at h2
      exact ahead_not h2 h2
  · rintro (h | ⟨h1, h2⟩)
    · exact Or.inl (Or.inr h)
    · rcases ahead_or h2 with h | h
      · exact Or.inl (Or.inl ⟨h1, h⟩)
      · exact Or.inr ⟨h1, h⟩

/-- The table of what is put. -/
theorem tab_put (xs : List Rt) (r : Rt) (hs : xs.Pairwise AheadR) : tabP (putP xs r) = tabPut (tabP xs) r := by
  funext a n
  rw [Option.ext_iff]
  intro t
  rw [tab_mem _ (put_sorted xs r hs), put_mem, tabPut_at, ← tab_mem xs hs]
  by_cases h : a = r.1 ∧ n = r.2.1
  · rw [if_pos h]
    constructor
    · rintro (e | ⟨_, h'⟩)
      · rw [← e]
      · exact absurd h h'
    · intro e
      left
      rw [h.1, h.2, ← Option.some.inj e]
  · rw [if_neg h]
    constructor
    · rintro (e | ⟨h', _⟩)
      · exact absurd ⟨congrArg (·.1) e, congrArg (·.2.1) e⟩ h
      · exact h'
    · intro e
      exact Or.inr ⟨e, h⟩

theorem drop_sorted (xs : List Rt) (a n : Int) (hs : xs.Pairwise AheadR) : (dropP xs a n).Pairwise AheadR := hs.filter _

/-- The table of what is left. -/
theorem tab_drop (xs : List Rt) (a n : Int) (hs : xs.Pairwise AheadR) : tabP (dropP xs a n) = tabDel (tabP xs) a n := by
  funext b m
  rw [Option.ext_iff]
  intro t
  rw [tab_mem _ (drop_sorted xs a n hs), tabDel_at]
  unfold dropP
  rw [List.mem_filter, other_iff, ← tab_mem xs hs]
  by_cases h : b = a ∧ m = n
  · rw [if_pos h]
    constructor
    · rintro ⟨_, h'⟩
      exact absurd h h'
    · intro e
      cases e
  · rw [if_neg h]
    constructor
    · rintro ⟨h', _⟩
      exact h'
    · intro e
      exact ⟨e, h⟩

/-- Whether something is struck. -/
theorem drop_none (xs : List Rt) (a n : Int) (hs : xs.Pairwise AheadR) (h : tabP xs a n = none) : dropP xs a n = xs := by
  unfold dropP
  rw [List.filter_eq_self]
  intro x hx
  rw [other_iff]
  intro e
  have := (tab_mem xs hs a n x.2.2).2 (by rw [← e.1, ← e.2]; exact hx)
  rw [h] at this
  cases this
theorem drop_some (xs : List Rt) (a n t : Int) (hs : xs.Pairwise AheadR) (h : tabP xs a n = some t) : (dropP xs a n).length < xs.length := by
  have hm := (tab_mem xs hs a n t).1 h
  have : ¬ (dropP xs a n).length = xs.length := fun e => by
    have h2 := List.length_filter_eq_length_iff.1 e (a, n, t) hm
    rw [other_iff] at h2
    exact h2 ⟨rfl, rfl⟩
  have h3 : (dropP xs a n).length ≤ xs.length := List.length_filter_le _ _
  omega

end Go.Proofs.Ytpcdmfimjnhejao
