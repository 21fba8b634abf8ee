/-
  What right routes are, and stay: in order, put, dropped; no program is spoken of here.
-/
import Derived.Test.YtkfcoldjgijpcapDropSpec
namespace Go.Proofs.Ytkfcoldjgijpcap
open Go.RowKit

theorem ahead_trans {a n b m c k : Int} (h1 : Ahead a n b m) (h2 : Ahead b m c k) : Ahead a n c k := by
  unfold Ahead at *
  omega
theorem ahead_not {a n b m : Int} (h1 : Ahead a n b m) : ¬ Ahead b m a n := by
  unfold Ahead at *
  omega
def AheadR (x y : Rt) : Prop := Ahead x.1 x.2.1 y.1 y.2.1
theorem aheadOf_iff (r x : Rt) : aheadOf r x = true ↔ AheadR x r := aheadB_iff _ _ _ _
theorem behind_iff (r x : Rt) : behind r x = true ↔ AheadR r x := aheadB_iff _ _ _ _
theorem other_iff (a n : Int) (x : Rt) : other a n x = true ↔ ¬ (x.1 = a ∧ x.2.1 = n) := by
  unfold other
  rw [Bool.not_eq_true', Bool.and_eq_false_iff, beq_eq_false_iff_ne, beq_eq_false_iff_ne]
  constructor
  · rintro (h | h) ⟨h1, h2⟩
    · exact h h1
    · exact h h2
  · intro h
    by_cases h1 : x.1 = a
    · exact .inr fun h2 => h ⟨h1, h2⟩
    · exact .inl h1
theorem GoodTo.tail {x : Rt} {xs : List Rt} (h : GoodTo (x :: xs) (x :: xs).length) : GoodTo xs xs.length := fun j hj y hy => by
  have h1 := h (j + 1) (by simpa using hj) y (by simpa using hy)
  refine ⟨h1.1, fun z hz hzz => h1.2 z (by omega) ?_⟩
  obtain ⟨i, rfl⟩ : ∃ i, j = i + 1 := ⟨j - 1, by omega⟩
  simpa using hzz
theorem sorted_of_good : ∀ (xs : List Rt), GoodTo xs xs.length → xs.Pairwise AheadR
  | [], _ => List.Pairwise.nil
  | x :: xs, h => by
    have ih := sorted_of_good xs h.tail
    refine List.Pairwise.cons (fun y hy => ?_) ih
    match xs, h, ih, hy with
    | z :: zs, h, ih, hy =>
      have h1 : AheadR x z := (h 1 (by simp) z (by simp)).2 x (by omega) (by simp)
      rcases List.mem_cons.1 hy with rfl | hy
      · exact h1
      · exact ahead_trans h1 (List.rel_of_pairwise_cons ih hy)
theorem ok_of_good (xs : List Rt) (h : GoodTo xs xs.length) (x : Rt) (hx : x ∈ xs) : RtOk x := by
  obtain ⟨j, hj, rfl⟩ := List.mem_iff_getElem.1 hx
  exact (h j hj _ (List.getElem?_eq_getElem hj)).1
theorem good_of_sorted (xs : List Rt) (hs : xs.Pairwise AheadR) (hok : ∀ x ∈ xs, RtOk x) : GoodTo xs xs.length := fun j hj x hx => by
  obtain ⟨_, rfl⟩ := List.getElem?_eq_some_iff.1 hx
  refine ⟨hok _ (List.getElem_mem _), fun y h0 hy => ?_⟩
  obtain ⟨_, rfl⟩ := List.getElem?_eq_some_iff.1 hy
  exact List.pairwise_iff_getElem.1 hs (j - 1) j (by omega) hj (by omega)
/-- Right routes: each right, in order, at most twelve. -/
theorem routesP_iff (xs : List Rt) : RoutesP xs ↔ (∀ x ∈ xs, RtOk x) ∧ xs.Pairwise AheadR ∧ xs.length ≤ 12 :=
  ⟨fun h => ⟨ok_of_good xs h.1, sorted_of_good xs h.1, h.2⟩, fun h => ⟨good_of_sorted xs h.2.1 h.1, h.2.2⟩⟩
theorem put_sorted (xs : List Rt) (r : Rt) (hs : xs.Pairwise AheadR) : (putP xs r).Pairwise AheadR := by
  unfold putP
  rw [List.pairwise_append]
  refine ⟨?_, hs.filter _, ?_⟩
  · rw [List.pairwise_append]
    refine ⟨hs.filter _, List.pairwise_singleton _ _, fun x hx y hy => ?_⟩
    rw [List.mem_singleton.1 hy]
    exact (aheadOf_iff r x).1 (List.mem_filter.1 hx).2
  · intro x hx y hy
    have h2 := (behind_iff r y).1 (List.mem_filter.1 hy).2
    rcases List.mem_append.1 hx with h | h
    · exact ahead_trans ((aheadOf_iff r x).1 (List.mem_filter.1 h).2) h2
    · rw [List.mem_singleton.1 h]
      exact h2
theorem two_filters (p q : Rt → Bool) (h : ∀ x, p x = true → q x = true → False) : ∀ xs : List Rt, (xs.filter p).length + (xs.filter q).length ≤ xs.length
  | [] => by simp
  | x :: xs => by
    have ih := two_filters p q h xs
    have hx := h x
    rw [List.filter_cons, List.filter_cons, List.length_cons]
    split <;> split <;> simp_all <;> omega
theorem put_length (xs : List Rt) (r : Rt) : (putP xs r).length ≤ xs.length + 1 := by
  have h := two_filters (aheadOf r) (behind r) (fun x h1 h2 => ahead_not ((aheadOf_iff r x).1 h1) ((behind_iff r x).1 h2)) xs
  unfold putP
  simp only [List.length_append, List.length_cons, List.length_nil]
  omega
theorem put_right (xs : List Rt) (r : Rt) (h : RoutesP xs) (hr : RtOk r) (hl : xs.length ≤ 11) : RoutesP (putP xs r) := by
  rw [routesP_iff] at h ⊢
  refine ⟨fun x hx => ?_, put_sorted xs r h.2.1, by have := put_length xs r; omega⟩
  unfold putP at hx
  rcases List.mem_append.1 hx with hx | hx
  · rcases List.mem_append.1 hx with hx | hx
    · exact h.1 x (List.mem_filter.1 hx).1
    · rw [List.mem_singleton.1 hx]
      exact hr
  · exact h.1 x (List.mem_filter.1 hx).1
/-- What is put and dropped again: the others. -/
theorem drop_put (xs : List Rt) (r : Rt) : dropP (putP xs r) r.1 r.2.1 = xs.filter (aheadOf r) ++ xs.filter (behind r) := by
  unfold dropP putP
  have e1 : (xs.filter (aheadOf r)).filter (other r.1 r.2.1) = xs.filter (aheadOf r) := List.filter_eq_self.2 fun x hx => by
    have h := (aheadOf_iff r x).1 (List.mem_filter.1 hx).2
    rw [other_iff]
    unfold AheadR Ahead at h
    omega
  have e2 : (xs.filter (behind r)).filter (other r.1 r.2.1) = xs.filter (behind r) := List.filter_eq_self.2 fun x hx => by
    have h := (behind_iff r x).1 (List.mem_filter.1 hx).2
    rw [other_iff]
    unfold AheadR Ahead at h
    omega
  have e3 : [r].filter (other r.1 r.2.1) = [] := by simp [other]
  rw [List.filter_append, List.filter_append, e1, e2, e3, List.append_nil]
theorem drop_put_length (xs : List Rt) (r : Rt) : (dropP (putP xs r) r.1 r.2.1).length + 1 = (putP xs r).length := by
  rw [drop_put]
  unfold putP
  simp only [List.length_append, List.length_cons, List.length_nil]
  omega
theorem drop_right (xs : List Rt) (a n : Int) (h : RoutesP xs) : RoutesP (dropP xs a n) := by
  rw [routesP_iff] at h ⊢
  have hl := List.length_filter_le (other a n) xs
  exact ⟨fun x hx => h.1 x (List.mem_filter.1 hx).1, h.2.1.filter _, by unfold dropP; omega⟩

end Go.Proofs.Ytkfcoldjgijpcap
