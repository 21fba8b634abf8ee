/-
  The routes of a table told in their order: addresses that ascend, lengths that ascend; no program is spoken of here.
-/
import Derived.Test.YtpcdmfimjnhejaoPlainTable
namespace Go.Proofs.Ytpcdmfimjnhejao

/-- All routes of the first k addresses. -/
def ToldTo (F : Int → Int → Option Int) (ss : List Int) (k : Nat) (ls : List Rt) : Prop :=
  ls.Pairwise AheadR ∧ ∀ a n t, (a, n, t) ∈ ls ↔ (∃ i, i < k ∧ ss[i]? = some a) ∧ F a n = some t
/-- And those of one more address, of its first j lengths. -/
def ToldIn (F : Int → Int → Option Int) (ss : List Int) (k : Nat) (a : Int) (ns : List Int) (j : Nat) (ls : List Rt) : Prop :=
  ls.Pairwise AheadR ∧ ∀ a' n t, (a', n, t) ∈ ls ↔ ((∃ i, i < k ∧ ss[i]? = some a') ∧ F a' n = some t) ∨ (a' = a ∧ (∃ i, i < j ∧ ns[i]? = some n) ∧ F a n = some t)

theorem told_none (F : Int → Int → Option Int) (ss : List Int) : ToldTo F ss 0 [] :=
  ⟨List.Pairwise.nil, fun a n t => by
    constructor
    · intro h
      cases h
    · rintro ⟨⟨i, hi, _⟩, _⟩
      omega⟩

theorem told_begin {F : Int → Int → Option Int} {ss : List Int} {k : Nat} {ls : List Rt} (h : ToldTo F ss k ls) (a : Int) (ns : List Int) : ToldIn F ss k a ns 0 ls :=
  ⟨h.1, fun a' n t => by
    rw [h.2]
    constructor
    · exact Or.inl
    · rintro (h | ⟨_, ⟨i, hi, _⟩, _⟩)
      · exact h
      · omega⟩

theorem asc_at {ss : List Int} (h : ss.Pairwise (· < ·)) {i k : Nat} {x y : Int} (hik : i < k) (hx : ss[i]? = some x) (hy : ss[k]? = some y) : x < y := by
  obtain ⟨hi, rfl⟩ := List.getElem?_eq_some_iff.1 hx
  obtain ⟨hk, rfl⟩ := List.getElem?_eq_some_iff.1 hy
  exact List.pairwise_iff_getElem.1 h i k hi hk hik

theorem told_step {F : Int → Int → Option Int} {ss ns : List Int} {k j : Nat} {a n t : Int} {ls : List Rt} (hs : ss.Pairwise (· < ·)) (hn : ns.Pairwise (· < ·)) (ha : ss[k]? = some a) (hj : ns[j]? = some n) (ht : F a n = some t)
    (h : ToldIn F ss k a ns j ls) : ToldIn F ss k a ns (j + 1) (ls ++ [(a, n, t)]) := by
  refine ⟨?_, fun a' n' t' => ?_⟩
  · rw [List.pairwise_append]
    refine ⟨h.1, List.pairwise_singleton _ _, fun x hx y hy => ?_⟩
    rw [List.mem_singleton] at hy
    subst hy
    obtain ⟨xa, xn, xt⟩ := x
    rcases (h.2 xa xn xt).1 hx with ⟨⟨i, hi, hi'⟩, _⟩ | ⟨rfl, ⟨i, hi, hi'⟩, _⟩
    · exact Or.inl (asc_at hs hi hi' ha)
    · exact Or.inr ⟨rfl, asc_at hn hi hi' hj⟩
  · rw [List.mem_append, h.2, List.mem_singleton]
    constructor
    · rintro ((h | ⟨h1, ⟨i, hi, hi'⟩, h3⟩) | h)
      · exact Or.inl h
      · exact Or.inr ⟨h1, ⟨i, by omega, hi'⟩, h3⟩
      · injection h with e1 e2
        injection e2 with e2 e3
        subst e1
        subst e2
        subst e3
        exact Or.inr ⟨rfl, ⟨j, by omega, hj⟩, ht⟩
    · rintro (h | ⟨rfl, ⟨i, hi, hi'⟩, h3⟩)
      · exact Or.inl (Or.inl h)
      · rcases Nat.lt_or_ge i j with h1 | h1
        · exact Or.inl (Or.inr ⟨rfl, ⟨i, h1, hi'⟩, h3⟩)
        · have : i = j := by omega
          subst this
          rw [hj] at hi'
          have := Option.some.inj hi'
          subst this
          rw [ht] at h3
          have := Option.some.inj h3
          subst this
          exact Or.inr rfl

theorem told_end {F : Int → Int → Option Int} {ss ns : List Int} {k : Nat} {a : Int} {ls : List Rt} (ha : ss[k]? = some a) (hn : ∀ n, n ∈ ns ↔ (F a n).isSome = true)
    (h : ToldIn F ss k a ns ns.length ls) : ToldTo F ss (k + 1) ls := by
  refine ⟨h.1, fun a' n t => ?_⟩
  rw [h.2]
  constructor
  · rintro (⟨⟨i, hi, hi'⟩, h2⟩ | ⟨rfl, _, h3⟩)
    · exact ⟨⟨i, by omega, hi'⟩, h2⟩
    · exact ⟨⟨k, by omega, ha⟩, h3⟩
  · rintro ⟨⟨i, hi, hi'⟩, h2⟩
    rcases Nat.lt_or_ge i k with h1 | h1
    · exact Or.inl ⟨⟨i, h1, hi'⟩, h2⟩
    · have : i = k := by omega
      subst this
      rw [ha] at hi'
      have := Option.some.inj hi'
      subst this
      have hm := (hn n).2 (by rw [h2]; rfl)
      obtain ⟨m, hm1, hm2⟩ := List.getElem_of_mem hm
      exact Or.inr ⟨rfl, ⟨m, hm1, by rw [List.getElem?_eq_getElem hm1, hm2]⟩, h2⟩

theorem told_all {F : Int → Int → Option Int} {ss : List Int} {ls : List Rt} (hs : ∀ a n t, F a n = some t → a ∈ ss) (h : ToldTo F ss ss.length ls) :
    ls.Pairwise AheadR ∧ ∀ a n t, (a, n, t) ∈ ls ↔ F a n = some t := by
  refine ⟨h.1, fun a n t => ?_⟩
  rw [h.2]
  constructor
  · exact fun h => h.2
  · intro ht
    obtain ⟨m, hm1, hm2⟩ := List.getElem_of_mem (hs a n t ht)
    exact ⟨⟨m, hm1, by rw [List.getElem?_eq_getElem hm1, hm2]⟩, ht⟩

end Go.Proofs.Ytpcdmfimjnhejao
