/-
  Numbers that are taken once, in plain words; no program is spoken of here.
  What is taken once, in plain words: none twice, each near what was taken ahead, all of a row.
  Right numbers that were seen, one behind another; no program is spoken of here.
-/
import Derived.Test.YtogninaejehinavRows
namespace Go.Proofs.Ytogninaejehinav

/-- Descending numbers. -/
def DescZ : List Int → Prop
  | [] => True
  | [_] => True
  | x :: y :: l => y < x ∧ DescZ (y :: l)
/-- The first one, 0 without one. -/
def topZ : List Int → Int
  | [] => 0
  | x :: _ => x
/-- Right numbers that were seen. -/
def SeenP (seen : List Int) : Prop := seen.length ≤ 6 ∧ (∀ x ∈ seen, 1 ≤ x ∧ x ≤ 1000000000) ∧ DescZ seen ∧ ∀ x ∈ seen, topZ seen - 6 < x
/-- Whether a number is fresh. -/
def FreshP (seen : List Int) (n : Int) : Prop := SeenP seen ∧ (1 ≤ n ∧ n ≤ 1000000000) ∧ n ∉ seen ∧ topZ seen - 6 < n
/-- With a number in its place. -/
def putD (n : Int) (seen : List Int) : List Int := seen.filter (fun x => decide (n < x)) ++ [n] ++ seen.filter (fun x => decide (x < n))
/-- Without those that are not above the first less six. -/
def nearZ (l : List Int) : List Int := l.filter (fun x => decide (topZ l - 6 < x))
/-- What was seen behind a number. -/
def NoteIs (seen : List Int) (n : Int) (r : List Int) : Prop := (FreshP seen n ∧ r = nearZ (putD n seen)) ∨ (¬ FreshP seen n ∧ r = seen)
theorem note_is (seen : List Int) (n : Int) : ∃ r, NoteIs seen n r := by
  by_cases h : FreshP seen n
  · exact ⟨_, .inl ⟨h, rfl⟩⟩
  · exact ⟨_, .inr ⟨h, rfl⟩⟩
/-- Which numbers of a list are taken, from what was seen on. -/
def TakesIs : List Int → List Int → List Int → Prop
  | [], _, r => r = []
  | n :: l, seen, r => (FreshP seen n ∧ ∃ s t, NoteIs seen n s ∧ TakesIs l s t ∧ r = n :: t) ∨ (¬ FreshP seen n ∧ TakesIs l seen r)
theorem takes_is (l seen : List Int) : ∃ r, TakesIs l seen r := by
  induction l generalizing seen with
  | nil => exact ⟨[], rfl⟩
  | cons n l ih =>
    by_cases h : FreshP seen n
    · obtain ⟨s, hs⟩ := note_is seen n
      obtain ⟨t, ht⟩ := ih s
      exact ⟨_, .inl ⟨h, s, t, hs, ht, rfl⟩⟩
    · obtain ⟨r, hr⟩ := ih seen
      exact ⟨r, .inr ⟨h, hr⟩⟩
theorem desc_tail {x : Int} {l : List Int} (h : DescZ (x :: l)) : DescZ l := by
  cases l with
  | nil => trivial
  | cons y l => exact h.2
theorem desc_head {x : Int} {l : List Int} (h : DescZ (x :: l)) : ∀ y ∈ l, y < x := by
  induction l generalizing x with
  | nil => intro y hy; cases hy
  | cons z l ih =>
    intro y hy
    rcases List.mem_cons.1 hy with rfl | hy
    · exact h.1
    · have := ih h.2 y hy
      have := h.1
      omega
theorem desc_cons {x : Int} {l : List Int} (h : DescZ l) (hx : ∀ y ∈ l, y < x) : DescZ (x :: l) := by
  cases l with
  | nil => trivial
  | cons y l => exact ⟨hx y List.mem_cons_self, h⟩
theorem desc_filter {l : List Int} (p : Int → Bool) (h : DescZ l) : DescZ (l.filter p) := by
  induction l with
  | nil => trivial
  | cons x l ih =>
    rw [List.filter_cons]
    split
    · exact desc_cons (ih (desc_tail h)) (fun y hy => desc_head h y (List.mem_filter.1 hy).1)
    · exact ih (desc_tail h)
theorem desc_append {a b : List Int} (ha : DescZ a) (hb : DescZ b) (h : ∀ x ∈ a, ∀ y ∈ b, y < x) : DescZ (a ++ b) := by
  induction a with
  | nil => exact hb
  | cons x a ih =>
    refine desc_cons (ih (desc_tail ha) (fun y hy => h y (List.mem_cons_of_mem _ hy))) (fun y hy => ?_)
    rcases List.mem_append.1 hy with hy | hy
    · exact desc_head ha y hy
    · exact h x List.mem_cons_self y hy
theorem put_desc {seen : List Int} (n : Int) (h : DescZ seen) : DescZ (putD n seen) := by
  refine desc_append (desc_append (desc_filter _ h) trivial ?_) (desc_filter _ h) ?_
  · intro x hx y hy
    rw [List.mem_singleton.1 hy]
    exact of_decide_eq_true (List.mem_filter.1 hx).2
  · intro x hx y hy
    have hy2 : y < n := of_decide_eq_true (List.mem_filter.1 hy).2
    rcases List.mem_append.1 hx with hx | hx
    · have : n < x := of_decide_eq_true (List.mem_filter.1 hx).2
      omega
    · rw [List.mem_singleton.1 hx]
      exact hy2
theorem put_mem {seen : List Int} {n x : Int} : x ∈ putD n seen ↔ x = n ∨ x ∈ seen ∧ x ≠ n := by
  unfold putD
  simp only [List.mem_append, List.mem_filter, List.mem_singleton, decide_eq_true_eq]
  constructor
  · rintro ((⟨h1, h2⟩ | h) | ⟨h1, h2⟩)
    · exact .inr ⟨h1, by omega⟩
    · exact .inl h
    · exact .inr ⟨h1, by omega⟩
  · rintro (h | ⟨h1, h2⟩)
    · exact .inl (.inr h)
    · rcases Int.lt_or_gt_of_ne h2 with h | h
      · exact .inr ⟨h1, h⟩
      · exact .inl (.inl ⟨h1, h⟩)
/-- Descending numbers above m are at most so many. -/
theorem desc_len {l : List Int} {m : Int} (h : DescZ l) (hm : ∀ x ∈ l, m < x) : (l.length : Int) ≤ max 0 (topZ l - m) := by
  induction l with
  | nil => exact Int.le_max_left _ _
  | cons x l ih =>
    have h1 := ih (desc_tail h) (fun y hy => hm y (List.mem_cons_of_mem _ hy))
    have h2 := hm x List.mem_cons_self
    show ((l.length + 1 : Nat) : Int) ≤ max 0 (x - m)
    cases l with
    | nil => simp; omega
    | cons y l =>
      have h3 := h.1
      have h4 := hm y (List.mem_cons_of_mem _ List.mem_cons_self)
      have h5 : topZ (y :: l) = y := rfl
      rw [h5] at h1
      omega
theorem top_mem {l : List Int} (h : l ≠ []) : topZ l ∈ l := by
  cases l with
  | nil => exact absurd rfl h
  | cons x l => exact List.mem_cons_self
theorem top_most {l : List Int} (h : DescZ l) : ∀ x ∈ l, x ≤ topZ l := by
  cases l with
  | nil => intro x hx; cases hx
  | cons y l =>
    intro x hx
    rcases List.mem_cons.1 hx with rfl | hx
    · exact Int.le_refl _
    · have := desc_head h x hx
      show x ≤ y
      omega
theorem near_top {l : List Int} (h : l ≠ []) : topZ (nearZ l) = topZ l := by
  cases l with
  | nil => exact absurd rfl h
  | cons x l =>
    have e : decide (topZ (x :: l) - 6 < x) = true := decide_eq_true (by show x - 6 < x; omega)
    unfold nearZ
    rw [List.filter_cons, if_pos e]
    rfl
theorem put_ne (n : Int) (seen : List Int) : putD n seen ≠ [] := by
  unfold putD
  simp
/-- What is noted stays right, has the number, and does not take it again. -/
theorem note_right {seen r : List Int} {n : Int} (hf : FreshP seen n) (h : NoteIs seen n r) : SeenP r ∧ n ∈ r ∧ ¬ FreshP r n := by
  rcases h with ⟨-, rfl⟩ | ⟨h, -⟩
  · have hd := put_desc n hf.1.2.2.1
    have hne := put_ne n seen
    have ht := near_top hne
    have hd2 : DescZ (nearZ (putD n seen)) := desc_filter _ hd
    have hall : ∀ x ∈ nearZ (putD n seen), topZ (nearZ (putD n seen)) - 6 < x := fun x hx => by rw [ht]; exact of_decide_eq_true (List.mem_filter.1 hx).2
    have hl := desc_len hd2 hall
    have hnm : n ∈ nearZ (putD n seen) := by
      refine List.mem_filter.2 ⟨put_mem.2 (.inl rfl), decide_eq_true ?_⟩
      have h1 := put_mem.1 (top_mem hne)
      have h2 := hf.2.2.2
      rcases h1 with h1 | ⟨h1, -⟩
      · omega
      · have := top_most hf.1.2.2.1 _ h1
        omega
    refine ⟨⟨by omega, fun x hx => ?_, hd2, hall⟩, hnm, fun h => h.2.2.1 hnm⟩
    rcases put_mem.1 (List.mem_filter.1 hx).1 with rfl | ⟨h1, -⟩
    · exact hf.2.1
    · exact hf.1.2.1 x h1
  · exact absurd hf h
theorem seen_none : SeenP [] := ⟨by simp, by simp, trivial, by simp⟩

end Go.Proofs.Ytogninaejehinav
namespace Go.Proofs.Ytogninaejehinav

/-- Numbers each of which is fresh when its turn comes. -/
def Chain : List Int → List Int → Prop
  | _, [] => True
  | seen, n :: t => FreshP seen n ∧ ∃ s, NoteIs seen n s ∧ Chain s t
theorem takes_chain {l seen r : List Int} (h : TakesIs l seen r) : Chain seen r := by
  induction l generalizing seen r with
  | nil => rw [show r = [] from h]; trivial
  | cons n l ih =>
    rcases h with ⟨hf, s, t, hn, ht, rfl⟩ | ⟨-, h⟩
    · exact ⟨hf, s, hn, ih ht⟩
    · exact ih h
theorem max_top {l : List Int} (h : DescZ l) (hne : l ≠ []) {m : Int} (hm : m ∈ l) (hall : ∀ x ∈ l, x ≤ m) : topZ l = m := by
  have h1 := top_most h m hm
  have h2 := hall _ (top_mem hne)
  omega
/-- The first one behind a number that is noted. -/
theorem note_top {seen r : List Int} {n : Int} (hf : FreshP seen n) (h : NoteIs seen n r) : topZ r = max (topZ seen) n := by
  rcases h with ⟨-, rfl⟩ | ⟨h, -⟩
  · have hne := put_ne n seen
    rw [near_top hne]
    have hd := put_desc n hf.1.2.2.1
    have hn1 := hf.2.1.1
    by_cases hs : seen = []
    · subst hs
      rw [show topZ (putD n []) = n from rfl, show topZ [] = 0 from rfl]
      omega
    · by_cases hlt : topZ seen < n
      · refine (max_top hd hne (put_mem.2 (.inl rfl)) (fun x hx => ?_)).trans (by omega)
        rcases put_mem.1 hx with rfl | ⟨h1, -⟩
        · exact Int.le_refl _
        · have := top_most hf.1.2.2.1 x h1
          omega
      · have hmem := top_mem hs
        have hneq : topZ seen ≠ n := fun e => hf.2.2.1 (e ▸ hmem)
        refine (max_top hd hne (put_mem.2 (.inr ⟨hmem, hneq⟩)) (fun x hx => ?_)).trans (by omega)
        rcases put_mem.1 hx with rfl | ⟨h1, -⟩
        · omega
        · exact top_most hf.1.2.2.1 x h1
  · exact absurd hf h
/-- What was taken ahead is seen, or far behind. -/
def PastP (prev seen : List Int) : Prop := ∀ x ∈ prev, x ∈ seen ∨ x ≤ topZ seen - 6
theorem past_fresh {prev seen : List Int} {n : Int} (h : PastP prev seen) (hf : FreshP seen n) : n ∉ prev := by
  intro hn
  rcases h n hn with h1 | h1
  · exact hf.2.2.1 h1
  · have := hf.2.2.2
    omega
theorem past_note {prev seen r : List Int} {n : Int} (h : PastP prev seen) (hf : FreshP seen n) (hn : NoteIs seen n r) : PastP (prev ++ [n]) r := by
  have ht := note_top hf hn
  have hr := note_right hf hn
  intro x hx
  rcases List.mem_append.1 hx with hx | hx
  · rcases h x hx with h1 | h1
    · by_cases hfar : x ≤ topZ r - 6
      · exact .inr hfar
      · left
        rcases hn with ⟨-, rfl⟩ | ⟨h9, -⟩
        · refine List.mem_filter.2 ⟨?_, decide_eq_true (by rw [near_top (put_ne n seen)] at hfar; omega)⟩
          by_cases e : x = n
          · exact put_mem.2 (.inl e)
          · exact put_mem.2 (.inr ⟨h1, e⟩)
        · exact absurd hf h9
    · right
      omega
  · rw [List.mem_singleton.1 hx]
    exact .inl hr.2.1
/-- A row one by one is taken whole. -/
theorem takes_row {k n : Nat} {seen r : List Int} (hs : SeenP seen) (ht : topZ seen = (k : Int)) (hk : k + n ≤ 1000000000) (h : TakesIs ((List.range n).map fun i => ((k + i + 1 : Nat) : Int)) seen r) : r = (List.range n).map fun i => ((k + i + 1 : Nat) : Int) := by
  induction n generalizing k seen r with
  | zero => exact h
  | succ n ih =>
    have e : (List.range (n + 1)).map (fun i => ((k + i + 1 : Nat) : Int)) = ((k + 1 : Nat) : Int) :: (List.range n).map (fun i => ((k + 1 + i + 1 : Nat) : Int)) := by
      rw [List.range_succ_eq_map, List.map_cons, List.map_map]
      congr 1
      refine List.map_congr_left fun i _ => ?_
      show ((k + (i + 1) + 1 : Nat) : Int) = _
      omega
    rw [e] at h ⊢
    have hf : FreshP seen ((k + 1 : Nat) : Int) := by
      refine ⟨hs, ⟨by omega, by omega⟩, fun hm => ?_, by omega⟩
      have := top_most hs.2.2.1 _ hm
      omega
    rcases h with ⟨-, s, t, hn, htk, rfl⟩ | ⟨h, -⟩
    · have h1 := note_top hf hn
      rw [ih (note_right hf hn).1 (by rw [h1]; omega) (by omega) htk]
    · exact absurd hf h

end Go.Proofs.Ytogninaejehinav
namespace Go.Proofs.Ytogninaejehinav

/-- A number that an int holds. -/
def IntZ (x : Int) : Prop := -9223372036854775808 ≤ x ∧ x ≤ 9223372036854775807
theorem SeenP.ints {xs : List Int} (h : SeenP xs) : ∀ x ∈ xs, IntZ x := fun x hx => by
  have := h.2.1 x hx
  exact ⟨by omega, by omega⟩
theorem desc_iff (xs : List Int) : DescZ xs ↔ ∀ i, (h : i + 1 < xs.length) → xs[i + 1] < xs[i] := by
  induction xs with
  | nil => exact ⟨fun _ i h => absurd h (by simp), fun _ => trivial⟩
  | cons x l ih =>
    cases l with
    | nil => exact ⟨fun _ i h => absurd h (by simp), fun _ => trivial⟩
    | cons y l =>
      constructor
      · rintro ⟨h1, h2⟩ i hi
        cases i with
        | zero => exact h1
        | succ i => exact (ih.1 h2) i (by simpa using hi)
      · intro h
        refine ⟨h 0 (by simp), ih.2 fun i hi => ?_⟩
        exact h (i + 1) (by simpa using hi)
theorem top_get {xs : List Int} (h : 0 < xs.length) : topZ xs = xs[0] := by
  cases xs with
  | nil => exact absurd h (by simp)
  | cons x l => rfl
/-- The first ones are right. -/
def SeenTo (xs : List Int) (j : Nat) : Prop := ∀ i, (hi : i < xs.length) → i < j → (1 ≤ xs[i] ∧ xs[i] ≤ 1000000000) ∧ (∀ h : 0 < i, xs[i] < xs[i - 1]) ∧ topZ xs - 6 < xs[i]
theorem seenP_iff (xs : List Int) : SeenP xs ↔ SeenTo xs xs.length ∧ xs.length ≤ 6 := by
  constructor
  · rintro ⟨h1, h2, h3, h4⟩
    refine ⟨fun i hi _ => ⟨h2 _ (List.getElem_mem hi), fun h => ?_, h4 _ (List.getElem_mem hi)⟩, h1⟩
    obtain ⟨k, rfl⟩ : ∃ k, i = k + 1 := ⟨i - 1, by omega⟩
    exact (desc_iff xs).1 h3 k hi
  · rintro ⟨h1, h2⟩
    refine ⟨h2, fun x hx => ?_, (desc_iff xs).2 fun i hi => (h1 (i + 1) hi hi).2.1 (by omega), fun x hx => ?_⟩
    · obtain ⟨i, hi, rfl⟩ := List.getElem_of_mem hx
      exact (h1 i hi hi).1
    · obtain ⟨i, hi, rfl⟩ := List.getElem_of_mem hx
      exact (h1 i hi hi).2.2
theorem seenTo_next {xs : List Int} {j : Nat} (hj : j < xs.length) (h : SeenTo xs j) (h1 : 1 ≤ xs[j] ∧ xs[j] ≤ 1000000000) (h2 : ∀ h : 0 < j, xs[j] < xs[j - 1]) (h3 : topZ xs - 6 < xs[j]) : SeenTo xs (j + 1) := by
  intro i hi hij
  rcases Nat.lt_or_ge i j with h4 | h4
  · exact h i hi h4
  · obtain rfl : i = j := by omega
    exact ⟨h1, h2, h3⟩
/-- The numbers above n, of the first j; those below. -/
theorem filter_next (p : Int → Bool) (xs : List Int) (j : Nat) (hj : j < xs.length) : (xs.take (j + 1)).filter p = (xs.take j).filter p ++ (if p xs[j] then [xs[j]] else []) := by
  rw [List.take_add_one, List.getElem?_eq_getElem hj, List.filter_append]
  congr 1
  show List.filter p [xs[j]] = _
  rw [List.filter_cons]
  split <;> simp
theorem filter_len (p : Int → Bool) (xs : List Int) (j : Nat) : ((xs.take j).filter p).length ≤ xs.length := by
  have h1 := List.length_filter_le p (xs.take j)
  have h2 : (xs.take j).length ≤ xs.length := by rw [List.length_take]; omega
  omega

end Go.Proofs.Ytogninaejehinav
