/-
  Right pools: what is taken out of one, and what is granted, keeps it right; no program is spoken of here.
  What is granted keeps a pool right; no program is spoken of here.
-/
import Derived.Test.YtphmomlgmnllkapJ22
namespace Go.Proofs.Ytphmomlgmnllkap

/-- What is asked of one lease alone. -/
def LeaseIn (pa pn : Int) (fs : List Fx) (l : Ls) : Prop := insideP pa pn l.1 = true ∧ (1 ≤ l.2.1 ∧ l.2.1 ≤ 99) ∧ (0 ≤ l.2.2 ∧ l.2.2 ≤ 1000000000) ∧ (fixedP fs l.1 = 0 ∨ fixedP fs l.1 = l.2.1)
/-- Leases that are right, by pairs. -/
def LeasesR (pa pn : Int) (ls : List Ls) (fs : List Fx) : Prop := (∀ l ∈ ls, LeaseIn pa pn fs l) ∧ ls.Pairwise (fun x y => x.1 < y.1) ∧ ls.Pairwise (fun x y => x.2.1 ≠ y.2.1)

theorem up_of_next (ls : List Ls) (h : ∀ i l, ls[i]? = some l → ∀ g, 0 < i → ls[i - 1]? = some g → g.1 < l.1) : ∀ (j i : Nat) (x y : Ls), i < j → ls[i]? = some x → ls[j]? = some y → x.1 < y.1 := by
  intro j
  induction j with
  | zero => intro i x y hij; omega
  | succ j ih =>
    intro i x y hij hx hy
    have hj : j < ls.length := by have := (List.getElem?_eq_some_iff.1 hy).1; omega
    have hz : ls[j]? = some ls[j] := List.getElem?_eq_getElem hj
    have h1 := h (j + 1) y hy ls[j] (by omega) hz
    rcases Nat.lt_or_ge i j with h2 | h2
    · have := ih i x ls[j] h2 hx hz
      omega
    · have : i = j := by omega
      subst this
      rw [hz] at hx
      cases hx
      exact h1
theorem pair_of_at {α : Type} (R : α → α → Prop) (xs : List α) (h : ∀ (j i : Nat) (x y : α), i < j → xs[i]? = some x → xs[j]? = some y → R x y) : xs.Pairwise R := by
  rw [List.pairwise_iff_getElem]
  intro i j hi hj hij
  exact h j i _ _ hij (List.getElem?_eq_getElem hi) (List.getElem?_eq_getElem hj)
theorem at_of_pair {α : Type} (R : α → α → Prop) (xs : List α) (h : xs.Pairwise R) (j i : Nat) (x y : α) (hij : i < j) (hx : xs[i]? = some x) (hy : xs[j]? = some y) : R x y := by
  obtain ⟨hi, rfl⟩ := List.getElem?_eq_some_iff.1 hx
  obtain ⟨hj, rfl⟩ := List.getElem?_eq_some_iff.1 hy
  exact List.pairwise_iff_getElem.1 h i j hi hj hij
theorem leases_iff (pa pn : Int) (ls : List Ls) (fs : List Fx) : (∀ i l, ls[i]? = some l → LeaseOk pa pn ls fs i l) ↔ LeasesR pa pn ls fs := by
  constructor
  · intro h
    refine ⟨fun l hl => ?_, pair_of_at _ _ (up_of_next ls fun i l hl => (h i l hl).2.2.2.1), pair_of_at _ _ fun j i x y hij hx hy => (h j y hy).2.2.2.2.2 i hij x hx⟩
    obtain ⟨i, hi⟩ := List.mem_iff_getElem?.1 hl
    obtain ⟨h1, h2, h3, _, h5, _⟩ := h i l hi
    exact ⟨h1, h2, h3, h5⟩
  · rintro ⟨h1, h2, h3⟩ i l hl
    obtain ⟨k1, k2, k3, k4⟩ := h1 l (List.mem_of_getElem? hl)
    exact ⟨k1, k2, k3, fun g hi hg => at_of_pair _ _ h2 i (i - 1) g l (by omega) hg hl, k4, fun j hj x hx => at_of_pair _ _ h3 i j x l hj hx hl⟩
theorem LeasesR.sub {pa pn : Int} {ls rs : List Ls} {fs : List Fx} (h : LeasesR pa pn ls fs) (hs : rs.Sublist ls) : LeasesR pa pn rs fs := ⟨fun l hl => h.1 l (hs.subset hl), h.2.1.sublist hs, h.2.2.sublist hs⟩
theorem PoolOkP.leases {pa pn : Int} {ls : List Ls} {fs : List Fx} (h : PoolOkP pa pn ls fs) : LeasesR pa pn ls fs := (leases_iff pa pn ls fs).1 h.2.2
theorem PoolOkP.with {pa pn : Int} {ls rs : List Ls} {fs : List Fx} (h : PoolOkP pa pn ls fs) (hl : rs.length ≤ 6) (hr : LeasesR pa pn rs fs) : PoolOkP pa pn rs fs := ⟨⟨h.1.1, h.1.2.1, h.1.2.2.1, hl, h.1.2.2.2.2⟩, h.2.1, (leases_iff pa pn rs fs).2 hr⟩
theorem PoolOkP.sub {pa pn : Int} {ls rs : List Ls} {fs : List Fx} (h : PoolOkP pa pn ls fs) (hs : rs.Sublist ls) : PoolOkP pa pn rs fs := h.with (Nat.le_trans hs.length_le h.1.2.2.2.1) (h.leases.sub hs)
/-- What is released, what is over: the rest is right. -/
theorem PoolOkP.filter {pa pn : Int} {ls : List Ls} {fs : List Fx} (h : PoolOkP pa pn ls fs) (p : Ls → Bool) : PoolOkP pa pn (ls.filter p) fs := h.sub List.filter_sublist
theorem PoolOkP.kept {pa pn : Int} {ls : List Ls} {fs : List Fx} (h : PoolOkP pa pn ls fs) (now : Int) : PoolOkP pa pn (keptP now ls) fs := h.filter _
theorem RelTold.right {pa pn : Int} {ls rs : List Ls} {fs : List Fx} {who : Int} {b : Bool} (ht : RelTold pa pn ls fs who rs b) (h : PoolOkP pa pn ls fs) : PoolOkP pa pn rs fs := by
  rcases ht with ⟨_, _, rfl⟩ | ⟨_, rfl, _⟩
  · exact h.filter _
  · exact h

/-- Who holds an address of right leases. -/
theorem holder_mem {pa pn : Int} {ls : List Ls} {fs : List Fx} (h : LeasesR pa pn ls fs) (l : Ls) (hl : l ∈ ls) : holderP ls l.1 = l.2.1 := by
  obtain ⟨i, hi⟩ := List.mem_iff_getElem?.1 hl
  refine holder_at ls l.1 i l hi (fun j hj x hx e => ?_) rfl
  have := at_of_pair _ _ h.2.1 i j x l hj hx hi
  omega
theorem holder_not {ls : List Ls} {a : Int} (h : ∀ l ∈ ls, l.1 ≠ a) : holderP ls a = 0 := holder_none ls a fun _ x hx => h x (List.mem_of_getElem? hx)
theorem holder_zero {pa pn : Int} {ls : List Ls} {fs : List Fx} (h : LeasesR pa pn ls fs) {a : Int} (hz : holderP ls a = 0) : ∀ l ∈ ls, l.1 ≠ a := by
  intro l hl e
  have h1 := holder_mem h l hl
  rw [e, hz] at h1
  have := (h.1 l hl).2.1
  omega
theorem one_addr {pa pn : Int} {ls : List Ls} {fs : List Fx} (h : LeasesR pa pn ls fs) (x y : Ls) (hx : x ∈ ls) (hy : y ∈ ls) (e : x.1 = y.1) : x = y := by
  obtain ⟨i, hi⟩ := List.mem_iff_getElem?.1 hx
  obtain ⟨j, hj⟩ := List.mem_iff_getElem?.1 hy
  rcases Nat.lt_trichotomy i j with h1 | h1 | h1
  · have := at_of_pair _ _ h.2.1 j i x y h1 hi hj
    omega
  · subst h1
    rw [hi] at hj
    cases hj
    rfl
  · have := at_of_pair _ _ h.2.1 i j y x h1 hj hi
    omega
theorem one_who {pa pn : Int} {ls : List Ls} {fs : List Fx} (h : LeasesR pa pn ls fs) (x y : Ls) (hx : x ∈ ls) (hy : y ∈ ls) (e : x.2.1 = y.2.1) : x = y := by
  obtain ⟨i, hi⟩ := List.mem_iff_getElem?.1 hx
  obtain ⟨j, hj⟩ := List.mem_iff_getElem?.1 hy
  rcases Nat.lt_trichotomy i j with h1 | h1 | h1
  · exact absurd e (at_of_pair _ _ h.2.2 j i x y h1 hi hj)
  · subst h1
    rw [hi] at hj
    cases hj
    rfl
  · exact absurd e.symm (at_of_pair _ _ h.2.2 i j y x h1 hj hi)

/-- Expire: how many, who is gone, who stays; and again. -/
theorem kept_gone_len (now : Int) (ls : List Ls) : (keptP now ls).length + (goneP now ls).length = ls.length := by
  unfold keptP goneP
  rw [List.length_map]
  induction ls with
  | nil => rfl
  | cons l ls ih => cases h : keepL now l <;> simp [h] <;> omega
theorem gone_iff {pa pn : Int} {ls : List Ls} {fs : List Fx} (h : LeasesR pa pn ls fs) (now : Int) (l : Ls) (hl : l ∈ ls) : l.2.1 ∈ goneP now ls ↔ l.2.2 ≤ now := by
  unfold goneP
  rw [List.mem_map]
  constructor
  · rintro ⟨x, hx, e⟩
    obtain ⟨h1, h2⟩ := List.mem_filter.1 hx
    have := one_who h x l h1 hl e
    subst this
    simp [keepL] at h2
    exact h2
  · intro h1
    exact ⟨l, List.mem_filter.2 ⟨hl, by simp [keepL]; exact h1⟩, rfl⟩
theorem kept_iff {pa pn : Int} {ls : List Ls} {fs : List Fx} (h : LeasesR pa pn ls fs) (now : Int) (l : Ls) (hl : l ∈ ls) : holderP (keptP now ls) l.1 = l.2.1 ↔ now < l.2.2 := by
  have hk : LeasesR pa pn (keptP now ls) fs := h.sub List.filter_sublist
  by_cases hn : now < l.2.2
  · exact ⟨fun _ => hn, fun _ => holder_mem hk l (List.mem_filter.2 ⟨hl, by simp [keepL]; exact hn⟩)⟩
  · refine ⟨fun e => ?_, fun e => absurd e hn⟩
    have hz : holderP (keptP now ls) l.1 = 0 := holder_not fun x hx e => by
      obtain ⟨h1, h2⟩ := List.mem_filter.1 hx
      have := one_addr h x l h1 hl e
      subst this
      simp [keepL] at h2
      exact hn h2
    rw [hz] at e
    have := (h.1 l hl).2.1
    omega
theorem kept_again (now : Int) (ls : List Ls) : keptP now (keptP now ls) = keptP now ls := by unfold keptP; rw [List.filter_filter]; simp
theorem gone_again (now : Int) (ls : List Ls) : goneP now (keptP now ls) = [] := by
  have h := kept_gone_len now (keptP now ls)
  rw [kept_again] at h
  exact List.length_eq_zero_iff.1 (by omega)

end Go.Proofs.Ytphmomlgmnllkap
namespace Go.Proofs.Ytphmomlgmnllkap

theorem pref_room (a n : Nat) (hn : n ≤ 32) (ha : a ≤ 4294967295) (hm : a % sizeP n = 0) : a + sizeP n ≤ 4294967296 := by
  obtain ⟨q, rfl⟩ := Nat.dvd_of_mod_eq_zero hm
  have hp : sizeP n * 2 ^ n = 4294967296 := by
    unfold sizeP
    rw [← Nat.pow_add, show 32 - n + n = 32 by omega]
  have hs := sizeP_pos n
  have hq : q < 2 ^ n := Nat.lt_of_mul_lt_mul_left (a := sizeP n) (by omega)
  have h1 : sizeP n * (q + 1) ≤ sizeP n * 2 ^ n := Nat.mul_le_mul_left _ hq
  rw [Nat.mul_add, Nat.mul_one] at h1
  omega
theorem first_of (a n x : Nat) (hm : a % sizeP n = 0) (h1 : a ≤ x) (h2 : x < a + sizeP n) : firstP x n = a := by
  have hs := sizeP_pos n
  obtain ⟨q, rfl⟩ := Nat.dvd_of_mod_eq_zero hm
  unfold firstP
  have hq : x / sizeP n = q := Nat.div_eq_of_lt_le (by rw [Nat.mul_comm]; exact h1) (by rw [Nat.add_mul, Nat.one_mul, Nat.mul_comm]; exact h2)
  first
    | rw [hq, Nat.mul_comm]
    | (have h3 := Nat.div_add_mod x (sizeP n); rw [hq] at h3; omega)
theorem inside_of {pa pn a : Int} (h : PrefOk pa pn) (h1 : pa < a) (h2 : a < pa + (sizeP pn.toNat : Nat) - 1) : insideP pa pn a = true := by
  obtain ⟨b, n, rfl, rfl, hb, hn, hm⟩ := h.nats
  obtain ⟨x, rfl⟩ : ∃ x : Nat, a = x := ⟨a.toNat, by omega⟩
  rw [Int.toNat_natCast] at h2
  have hr := pref_room b n hn hb hm
  unfold insideP
  rw [Int.toNat_natCast, Bool.and_eq_true, Bool.and_eq_true, bne_iff_ne, bne_iff_ne]
  refine ⟨⟨(inB_iff _ _ _).2 ⟨h, ⟨by omega, by omega⟩, ?_⟩, by omega⟩, by omega⟩
  rw [Int.toNat_natCast, Int.toNat_natCast, first_of b n x hm (by omega) (by omega)]
theorem inside_in {pa pn a : Int} (h : insideP pa pn a = true) : inB pa pn a = true := by
  unfold insideP at h
  rw [Bool.and_eq_true, Bool.and_eq_true] at h
  exact h.1.1

/-- The address that is found free. -/
theorem free_from_in (ls : List Ls) (fs : List Fx) : ∀ (n : Nat) (s a : Int), freeFrom ls fs n s = a → a ≠ 0 → (s ≤ a ∧ a < s + n) ∧ holderP ls a = 0 ∧ fixedP fs a = 0 := by
  intro n
  induction n with
  | zero => intro s a h hz; exact absurd h.symm hz
  | succ n ih =>
    intro s a h hz
    rw [freeFrom] at h
    split at h
    · next hc =>
      subst h
      exact ⟨⟨by omega, by omega⟩, hc⟩
    · obtain ⟨h1, h2⟩ := ih (s + 1) a h hz
      exact ⟨⟨by omega, by omega⟩, h2⟩
theorem own_mem (fs : List Fx) (who a : Int) (h : ownP fs who = some a) : ∃ f ∈ fs, f.1 = who ∧ f.2 = a := by
  induction fs with
  | nil => cases h
  | cons f fs ih =>
    rw [ownP] at h
    split at h
    · next hc =>
      cases h
      exact ⟨f, List.mem_cons_self, hc, rfl⟩
    · obtain ⟨g, hg, e⟩ := ih h
      exact ⟨g, List.mem_cons_of_mem _ hg, e⟩
theorem free_right {pa pn : Int} {ls : List Ls} {fs : List Fx} {who : Int} (h : PoolOkP pa pn ls fs) (hw : NoOne ls who) (hz : freeP pa pn ls fs who ≠ 0) : insideP pa pn (freeP pa pn ls fs who) = true ∧ (fixedP fs (freeP pa pn ls fs who) = 0 ∨ fixedP fs (freeP pa pn ls fs who) = who) ∧ ∀ l ∈ ls, l.1 ≠ freeP pa pn ls fs who := by
  unfold freeP at hz ⊢
  cases ho : ownP fs who with
  | some a =>
    rw [ho] at hz
    obtain ⟨f, hf, e1, e2⟩ := own_mem fs who a ho
    obtain ⟨i, hi⟩ := List.mem_iff_getElem?.1 hf
    obtain ⟨_, h2, _, h4⟩ := h.2.1 i f hi
    rw [e2] at h2 h4
    rw [e1] at h4
    refine ⟨h2, .inr h4, fun l hl e => ?_⟩
    have h5 := (h.leases.1 l hl).2.2.2
    have h6 := (h.leases.1 l hl).2.1
    obtain ⟨j, hj⟩ := List.mem_iff_getElem?.1 hl
    have h7 := hw j l hj
    have h8 := (h.2.1 i f hi).1
    simp only at e
    rw [e, h4] at h5
    omega
  | none =>
    rw [ho] at hz
    simp only at hz ⊢
    obtain ⟨h1, h2, h3⟩ := free_from_in ls fs _ _ _ rfl hz
    exact ⟨inside_of h.1.1 (by omega) (by omega), .inl h3, holder_zero h.leases h2⟩

/-- A lease is renewed: as a map over all. -/
def renewL (who t : Int) (l : Ls) : Ls := if l.2.1 = who then (l.1, l.2.1, t) else l
theorem renew_addr (who t : Int) (l : Ls) : (renewL who t l).1 = l.1 := by unfold renewL; split <;> rfl
theorem renew_who (who t : Int) (l : Ls) : (renewL who t l).2.1 = l.2.1 := by unfold renewL; split <;> rfl
theorem renew_eq {pa pn : Int} {ls : List Ls} {fs : List Fx} (h : LeasesR pa pn ls fs) (k : Nat) (l : Ls) (t : Int) (hk : ls[k]? = some l) : ls.set k (l.1, l.2.1, t) = ls.map (renewL l.2.1 t) := by
  apply List.ext_getElem?
  intro j
  rw [List.getElem?_map, List.getElem?_set]
  have hkl := (List.getElem?_eq_some_iff.1 hk).1
  by_cases e : k = j
  · subst e
    rw [if_pos rfl, if_pos hkl, hk, Option.map_some, renewL, if_pos rfl]
  · rw [if_neg e]
    cases hj : ls[j]? with
    | none => rfl
    | some x =>
      rw [Option.map_some, renewL, if_neg]
      intro e2
      rcases Nat.lt_or_ge j k with h1 | h1
      · exact at_of_pair _ _ h.2.2 k j x l h1 hj hk e2
      · exact at_of_pair _ _ h.2.2 j k l x (by omega) hk hj e2.symm
theorem LeasesR.renew {pa pn : Int} {ls : List Ls} {fs : List Fx} (h : LeasesR pa pn ls fs) (who t : Int) (ht : 0 ≤ t ∧ t ≤ 1000000000) : LeasesR pa pn (ls.map (renewL who t)) fs := by
  refine ⟨fun x hx => ?_, ?_, ?_⟩
  · obtain ⟨l, hl, rfl⟩ := List.mem_map.1 hx
    obtain ⟨h1, h2, h3, h4⟩ := h.1 l hl
    refine ⟨by rw [renew_addr]; exact h1, by rw [renew_who]; exact h2, ?_, by rw [renew_addr, renew_who]; exact h4⟩
    unfold renewL
    split
    · exact ht
    · exact h3
  · rw [List.pairwise_map]
    exact h.2.1.imp fun {x y} hxy => by rw [renew_addr, renew_addr]; exact hxy
  · rw [List.pairwise_map]
    exact h.2.2.imp fun {x y} hxy => by rw [renew_who, renew_who]; exact hxy
/-- A new lease stands at its place. -/
def withL (ls : List Ls) (a who t : Int) : List Ls := ls.filter (aheadL a) ++ [(a, who, t)] ++ ls.filter (behindL a)
theorem mem_with {ls : List Ls} {a who t : Int} (hn : ∀ l ∈ ls, l.1 ≠ a) (x : Ls) : x ∈ withL ls a who t ↔ x = (a, who, t) ∨ x ∈ ls := by
  unfold withL
  rw [List.mem_append, List.mem_append, List.mem_singleton, List.mem_filter, List.mem_filter]
  constructor
  · rintro ((⟨h, _⟩ | h) | ⟨h, _⟩)
    · exact .inr h
    · exact .inl h
    · exact .inr h
  · rintro (h | h)
    · exact .inl (.inr h)
    · rcases Int.lt_or_gt_of_ne (hn x h) with h1 | h1
      · exact .inl (.inl ⟨h, decide_eq_true h1⟩)
      · exact .inr ⟨h, decide_eq_true h1⟩
theorem with_len {ls : List Ls} {a who t : Int} : (withL ls a who t).length ≤ ls.length + 1 := by
  have h1 : (ls.filter (aheadL a)).length + (ls.filter (behindL a)).length ≤ ls.length := by
    induction ls with
    | nil => exact Nat.le_refl _
    | cons l ls ih =>
      by_cases h1 : l.1 < a
      · have h2 : ¬ a < l.1 := by omega
        simp [aheadL, behindL, h1, h2] at ih ⊢
        omega
      · by_cases h2 : a < l.1
        · simp [aheadL, behindL, h1, h2] at ih ⊢
          omega
        · simp [aheadL, behindL, h1, h2] at ih ⊢
          omega
  unfold withL
  rw [List.length_append, List.length_append, List.length_singleton]
  omega
theorem LeasesR.new {pa pn : Int} {ls : List Ls} {fs : List Fx} (h : LeasesR pa pn ls fs) {a who t : Int} (hi : LeaseIn pa pn fs (a, who, t)) (hn : ∀ l ∈ ls, l.1 ≠ a) (hw : NoOne ls who) : LeasesR pa pn (withL ls a who t) fs := by
  have hw2 : ∀ l ∈ ls, l.2.1 ≠ who := fun l hl => by
    obtain ⟨j, hj⟩ := List.mem_iff_getElem?.1 hl
    exact hw j l hj
  refine ⟨fun x hx => ?_, ?_, ?_⟩
  · rcases (mem_with hn x).1 hx with rfl | h1
    · exact hi
    · exact h.1 x h1
  · unfold withL
    rw [List.pairwise_append, List.pairwise_append]
    refine ⟨⟨h.2.1.sublist List.filter_sublist, List.pairwise_singleton _ _, ?_⟩, h.2.1.sublist List.filter_sublist, ?_⟩
    · intro x hx y hy
      rw [List.mem_singleton] at hy
      subst hy
      exact of_decide_eq_true (List.mem_filter.1 hx).2
    · intro x hx y hy
      have h2 : a < y.1 := of_decide_eq_true (List.mem_filter.1 hy).2
      rcases List.mem_append.1 hx with h1 | h1
      · have h3 : x.1 < a := of_decide_eq_true (List.mem_filter.1 h1).2
        omega
      · rw [List.mem_singleton] at h1
        subst h1
        exact h2
  · unfold withL
    rw [List.pairwise_append, List.pairwise_append]
    refine ⟨⟨h.2.2.sublist List.filter_sublist, List.pairwise_singleton _ _, ?_⟩, h.2.2.sublist List.filter_sublist, ?_⟩
    · intro x hx y hy
      rw [List.mem_singleton] at hy
      subst hy
      exact hw2 x (List.mem_filter.1 hx).1
    · intro x hx y hy
      have h2 := List.mem_filter.1 hy
      rcases List.mem_append.1 hx with h1 | h1
      · have h3 := List.mem_filter.1 h1
        intro e
        have h4 := one_who h x y h3.1 h2.1 e
        subst h4
        have h5 : x.1 < a := of_decide_eq_true h3.2
        have h6 : a < x.1 := of_decide_eq_true h2.2
        omega
      · rw [List.mem_singleton] at h1
        subst h1
        exact fun e => hw2 y h2.1 e.symm
/-- What Grant gives is right. -/
theorem GrTold.right {pa pn : Int} {ls rs : List Ls} {fs : List Fx} {who now a : Int} {b : Bool} (ht : GrTold pa pn ls fs who now rs a b) (h : PoolOkP pa pn ls fs) : PoolOkP pa pn rs fs := by
  rcases ht with ⟨_, _, rfl, _⟩ | ⟨_, hg, k, l, hk, e, _, rfl, _⟩ | ⟨_, hg, hw, h6, hz, rfl, rfl⟩
  · exact h
  · rw [renew_eq h.leases k l _ hk]
    exact h.with (by rw [List.length_map]; exact h.1.2.2.2.1) (h.leases.renew _ _ ⟨by have := hg.2.2; omega, by have := hg.2.2; omega⟩)
  · obtain ⟨h1, h2, h3⟩ := free_right h hw hz
    refine h.with (Nat.le_trans with_len ?_) (h.leases.new (t := now + 20) ⟨h1, hg.2.1, ⟨by have := hg.2.2; show 0 ≤ now + 20; omega, by have := hg.2.2; show now + 20 ≤ _; omega⟩, h2⟩ h3 hw)
    have := h.1.2.2.2.1
    omega

end Go.Proofs.Ytphmomlgmnllkap
