/-
  What is granted keeps a pool right; no program is spoken of here.
  What of a heap's leases is told, in plain words.
  Prefixes compared as values.
-/
import Derived.Test.YtphmomlgmnllkaqJ31
import Derived.Test.YtphmomlgmnllkaqJ25
import Derived.Test.YtphmomlgmnllkaqRows
import Derived.Test.YtphmomlgmnllkaqJ03
import Derived.Laws.StructEq
namespace Go.Proofs.Ytphmomlgmnllkaq

theorem pref_room (a n : Nat) (hn : n ≤ 32) (ha : a ≤ 4294967295) (hm : a % sizeP n = 0) : a + sizeP n ≤ 4294967296 := by
  obtain ⟨q, rfl⟩ := Nat.dvd_of_mod_eq_zero hm
  have hp : sizeP n * 2 ^ n = 4294967296 := by
    unfold sizeP
    rw [← Nat.pow_add, show 32 - n + n = 32 by omega]
  have hs := sizeP_pos n
  have hq : q < 2 ^ n := Nat.lt_of_mul_lt_mul_left (a := sizeP n) (by omega)
  have h1 : sizeP n * (q + 1) ≤ sizeP n * 2 ^ n := Nat.mul_le_mul_left _ hq
  rw [Nat.mul_add, Nat.mul_one] at h1
  omega
theorem first_of (a n x : Nat) (hm : a % sizeP n = 0) (h1 : a ≤ x) (h2 : x < a + sizeP n) : firstP x n = a := by
  have hs := sizeP_pos n
  obtain ⟨q, rfl⟩ := Nat.dvd_of_mod_eq_zero hm
  unfold firstP
  have hq : x / sizeP n = q := Nat.div_eq_of_lt_le (by rw [Nat.mul_comm]; exact h1) (by rw [Nat.add_mul, Nat.one_mul, Nat.mul_comm]; exact h2)
  first
    | rw [hq, Nat.mul_comm]
    | (have h3 := Nat.div_add_mod x (sizeP n); rw [hq] at h3; omega)
theorem inside_of {pa pn a : Int} (h : PrefOk pa pn) (h1 : pa < a) (h2 : a < pa + (sizeP pn.toNat : Nat) - 1) : insideP pa pn a = true := by
  obtain ⟨b, n, rfl, rfl, hb, hn, hm⟩ := h.nats
  obtain ⟨x, rfl⟩ : ∃ x : Nat, a = x := ⟨a.toNat, by omega⟩
  rw [Int.toNat_natCast] at h2
  have hr := pref_room b n hn hb hm
  unfold insideP
  rw [Int.toNat_natCast, Bool.and_eq_true, Bool.and_eq_true, bne_iff_ne, bne_iff_ne]
  refine ⟨⟨(inB_iff _ _ _).2 ⟨h, ⟨by omega, by omega⟩, ?_⟩, by omega⟩, by omega⟩
  rw [Int.toNat_natCast, Int.toNat_natCast, first_of b n x hm (by omega) (by omega)]
theorem inside_in {pa pn a : Int} (h : insideP pa pn a = true) : inB pa pn a = true := by
  unfold insideP at h
  rw [Bool.and_eq_true, Bool.and_eq_true] at h
  exact h.1.1

/-- The address that is found free. -/
theorem free_from_in (ls : List Ls) (fs : List Fx) : ∀ (n : Nat) (s a : Int), freeFrom ls fs n s = a → a ≠ 0 → (s ≤ a ∧ a < s + n) ∧ holderP ls a = 0 ∧ fixedP fs a = 0 := by
  intro n
  induction n with
  | zero => intro s a h hz; exact absurd h.symm hz
  | succ n ih =>
    intro s a h hz
    rw [freeFrom] at h
    split at h
    · next hc =>
      subst h
      exact ⟨⟨by omega, by omega⟩, hc⟩
    · obtain ⟨h1, h2⟩ := ih (s + 1) a h hz
      exact ⟨⟨by omega, by omega⟩, h2⟩
theorem own_mem (fs : List Fx) (who a : Int) (h : ownP fs who = some a) : ∃ f ∈ fs, f.1 = who ∧ f.2 = a := by
  induction fs with
  | nil => cases h
  | cons f fs ih =>
    rw [ownP] at h
    split at h
    · next hc =>
      cases h
      exact ⟨f, List.mem_cons_self, hc, rfl⟩
    · obtain ⟨g, hg, e⟩ := ih h
      exact ⟨g, List.mem_cons_of_mem _ hg, e⟩
theorem free_right {pa pn : Int} {ls : List Ls} {fs : List Fx} {who : Int} (h : PoolOkP pa pn ls fs) (hw : NoOne ls who) (hz : freeP pa pn ls fs who ≠ 0) : insideP pa pn (freeP pa pn ls fs who) = true ∧ (fixedP fs (freeP pa pn ls fs who) = 0 ∨ fixedP fs (freeP pa pn ls fs who) = who) ∧ ∀ l ∈ ls, l.1 ≠ freeP pa pn ls fs who := by
  unfold freeP at hz ⊢
  cases ho : ownP fs who with
  | some a =>
    rw [ho] at hz
    obtain ⟨f, hf, e1, e2⟩ := own_mem fs who a ho
    obtain ⟨i, hi⟩ := List.mem_iff_getElem?.1 hf
    obtain ⟨_, h2, _, h4⟩ := h.2.1 i f hi
    rw [e2] at h2 h4
    rw [e1] at h4
    refine ⟨h2, .inr h4, fun l hl e => ?_⟩
    have h5 := (h.leases.1 l hl).2.2.2
    have h6 := (h.leases.1 l hl).2.1
    obtain ⟨j, hj⟩ := List.mem_iff_getElem?.1 hl
    have h7 := hw j l hj
    have h8 := (h.2.1 i f hi).1
    simp only at e
    rw [e, h4] at h5
    omega
  | none =>
    rw [ho] at hz
    simp only at hz ⊢
    obtain ⟨h1, h2, h3⟩ := free_from_in ls fs _ _ _ rfl hz
    exact ⟨inside_of h.1.1 (by omega) (by omega), .inl h3, holder_zero h.leases h2⟩

/-- A lease is renewed: as a map over all. -/
def renewL (who t : Int) (l : Ls) : Ls := if l.2.1 = who then (l.1, l.2.1, t) else l
theorem renew_addr (who t : Int) (l : Ls) : (renewL who t l).1 = l.1 := by unfold renewL; split <;> rfl
theorem renew_who (who t : Int) (l : Ls) : (renewL who t l).2.1 = l.2.1 := by unfold renewL; split <;> rfl
theorem renew_eq {pa pn : Int} {ls : List Ls} {fs : List Fx} (h : LeasesR pa pn ls fs) (k : Nat) (l : Ls) (t : Int) (hk : ls[k]? = some l) : ls.set k (l.1, l.2.1, t) = ls.map (renewL l.2.1 t) := by
  apply List.ext_getElem?
  intro j
  rw [List.getElem?_map, List.getElem?_set]
  have hkl := (List.getElem?_eq_some_iff.1 hk).1
  by_cases e : k = j
  · subst e
    rw [if_pos rfl, if_pos hkl, hk, Option.map_some, renewL, if_pos rfl]
  · rw [if_neg e]
    cases hj : ls[j]? with
    | none => rfl
    | some x =>
      rw [Option.map_some, renewL, if_neg]
      intro e2
      rcases Nat.lt_or_ge j k with h1 | h1
      · exact at_of_pair _ _ h.2.2 k j x l h1 hj hk e2
      · exact at_of_pair _ _ h.2.2 j k l x (by omega) hk hj e2.symm
theorem LeasesR.renew {pa pn : Int} {ls : List Ls} {fs : List Fx} (h : LeasesR pa pn ls fs) (who t : Int) (ht : 0 ≤ t ∧ t ≤ 1000000000) : LeasesR pa pn (ls.map (renewL who t)) fs := by
  refine ⟨fun x hx => ?_, ?_, ?_⟩
  · obtain ⟨l, hl, rfl⟩ := List.mem_map.1 hx
    obtain ⟨h1, h2, h3, h4⟩ := h.1 l hl
    refine ⟨by rw [renew_addr]; exact h1, by rw [renew_who]; exact h2, ?_, by rw [renew_addr, renew_who]; exact h4⟩
    unfold renewL
    split
    · exact ht
    · exact h3
  · rw [List.pairwise_map]
    exact h.2.1.imp fun {x y} hxy => by rw [renew_addr, renew_addr]; exact hxy
  · rw [List.pairwise_map]
    exact h.2.2.imp fun {x y} hxy => by rw [renew_who, renew_who]; exact hxy
/-- A new lease stands at its place. -/
def withL (ls : List Ls) (a who t : Int) : List Ls := ls.filter (aheadL a) ++ [(a, who, t)] ++ ls.filter (behindL a)
theorem mem_with {ls : List Ls} {a who t : Int} (hn : ∀ l ∈ ls, l.1 ≠ a) (x : Ls) : x ∈ withL ls a who t ↔ x = (a, who, t) ∨ x ∈ ls := by
  unfold withL
  rw [List.mem_append, List.mem_append, List.mem_singleton, List.mem_filter, List.mem_filter]
  constructor
  · rintro ((⟨h, _⟩ | h) | ⟨h, _⟩)
    · exact .inr h
    · exact .inl h
    · exact .inr h
  · rintro (h | h)
    · exact .inl (.inr h)
    · rcases Int.lt_or_gt_of_ne (hn x h) with h1 | h1
      · exact .inl (.inl ⟨h, decide_eq_true h1⟩)
      · exact .inr ⟨h, decide_eq_true h1⟩
theorem with_len {ls : List Ls} {a who t : Int} : (withL ls a who t).length ≤ ls.length + 1 := by
  have h1 : (ls.filter (aheadL a)).length + (ls.filter (behindL a)).length ≤ ls.length := by
    induction ls with
    | nil => exact Nat.le_refl _
    | cons l ls ih =>
      by_cases h1 : l.1 < a
      · have h2 : ¬ a < l.1 := by omega
        simp [aheadL, behindL, h1, h2] at ih ⊢
        omega
      · by_cases h2 : a < l.1
        · simp [aheadL, behindL, h1, h2] at ih ⊢
          omega
        · simp [aheadL, behindL, h1, h2] at ih ⊢
          omega
  unfold withL
  rw [List.length_append, List.length_append, List.length_singleton]
  omega
theorem LeasesR.new {pa pn : Int} {ls : List Ls} {fs : List Fx} (h : LeasesR pa pn ls fs) {a who t : Int} (hi : LeaseIn pa pn fs (a, who, t)) (hn : ∀ l ∈ ls, l.1 ≠ a) (hw : NoOne ls who) : LeasesR pa pn (withL ls a who t) fs := by
  have hw2 : ∀ l ∈ ls, l.2.1 ≠ who := fun l hl => by
    obtain ⟨j, hj⟩ := List.mem_iff_getElem?.1 hl
    exact hw j l hj
  refine ⟨fun x hx => ?_, ?_, ?_⟩
  · rcases (mem_with hn x).1 hx with rfl | h1
    · exact hi
    · exact h.1 x h1
  · unfold withL
    rw [List.pairwise_append, List.pairwise_append]
    refine ⟨⟨h.2.1.sublist List.filter_sublist, List.pairwise_singleton _ _, ?_⟩, h.2.1.sublist List.filter_sublist, ?_⟩
    · intro x hx y hy
      rw [List.mem_singleton] at hy
      subst hy
      exact of_decide_eq_true (List.mem_filter.1 hx).2
    · intro x hx y hy
      have h2 : a < y.1 := of_decide_eq_true (List.mem_filter.1 hy).2
      rcases List.mem_append.1 hx with h1 | h1
      · have h3 : x.1 < a := of_decide_eq_true (List.mem_filter.1 h1).2
        omega
      · rw [List.mem_singleton] at h1
        subst h1
        exact h2
  · unfold withL
    rw [List.pairwise_append, List.pairwise_append]
    refine ⟨⟨h.2.2.sublist List.filter_sublist, List.pairwise_singleton _ _, ?_⟩, h.2.2.sublist List.filter_sublist, ?_⟩
    · intro x hx y hy
      rw [List.mem_singleton] at hy
      subst hy
      exact hw2 x (List.mem_filter.1 hx).1
    · intro x hx y hy
      have h2 := List.mem_filter.1 hy
      rcases List.mem_append.1 hx with h1 | h1
      · have h3 := List.mem_filter.1 h1
        intro e
        have h4 := one_who h x y h3.1 h2.1 e
        subst h4
        have h5 : x.1 < a := of_decide_eq_true h3.2
        have h6 : a < x.1 := of_decide_eq_true h2.2
        omega
      · rw [List.mem_singleton] at h1
        subst h1
        exact fun e => hw2 y h2.1 e.symm
/-- What Grant gives is right. -/
theorem GrTold.right {pa pn : Int} {ls rs : List Ls} {fs : List Fx} {who now a : Int} {b : Bool} (ht : GrTold pa pn ls fs who now rs a b) (h : PoolOkP pa pn ls fs) : PoolOkP pa pn rs fs := by
  rcases ht with ⟨_, _, rfl, _⟩ | ⟨_, hg, k, l, hk, e, _, rfl, _⟩ | ⟨_, hg, hw, h6, hz, rfl, rfl⟩
  · exact h
  · rw [renew_eq h.leases k l _ hk]
    exact h.with (by rw [List.length_map]; exact h.1.2.2.2.1) (h.leases.renew _ _ ⟨by have := hg.2.2; omega, by have := hg.2.2; omega⟩)
  · obtain ⟨h1, h2, h3⟩ := free_right h hw hz
    refine h.with (Nat.le_trans with_len ?_) (h.leases.new (t := now + 20) ⟨h1, hg.2.1, ⟨by have := hg.2.2; show 0 ≤ now + 20; omega, by have := hg.2.2; show now + 20 ≤ _; omega⟩, h2⟩ h3 hw)
    have := h.1.2.2.2.1
    omega

end Go.Proofs.Ytphmomlgmnllkaq
namespace Go.Proofs.Ytphmomlgmnllkaq
open Go.RowKit

theorem who_one {pa pn : Int} {ls : List Ls} {fs : List Fx} (h : LeasesR pa pn ls fs) (x y : Ls) (hx : x ∈ ls) (hy : y ∈ ls) (e : x.2.1 = y.2.1) : x = y := by
  obtain ⟨i, hi⟩ := List.mem_iff_getElem?.1 hx
  obtain ⟨j, hj⟩ := List.mem_iff_getElem?.1 hy
  rcases Nat.lt_trichotomy i j with h1 | h1 | h1
  · exact absurd e (at_of_pair _ _ h.2.2 j i x y h1 hi hj)
  · subst h1
    rw [hi] at hj
    exact Option.some.inj hj
  · exact absurd e.symm (at_of_pair _ _ h.2.2 i j y x h1 hj hi)
theorem LeasesIn.who {pa pn : Int} {ls : List Ls} {fs : List Fx} {nd : Nat → Hd} {ps : List Nat} (h : LeasesIn nd ps ls) (hR : LeasesR pa pn ls fs) (hk : KeyOne nd ps) {p q : Nat} (hp : p ∈ ps) (hq : q ∈ ps) (e : (nd p).1.2.1 = (nd q).1.2.1) : p = q := by
  have h1 := (h _).2 ⟨p, hp, rfl⟩
  have h2 := (h _).2 ⟨q, hq, rfl⟩
  have h3 := who_one hR _ _ h1 h2 e
  exact hk p hp q hq (by unfold keyN; rw [h3])
/-- Without somebody's. -/
theorem LeasesIn.without {pa pn : Int} {ls : List Ls} {fs : List Fx} {nd : Nat → Hd} {ps qs : List Nat} (h : LeasesIn nd ps ls) (hR : LeasesR pa pn ls fs) (hk : KeyOne nd ps) {p : Nat} {who : Int} (hp : p ∈ ps) (e : (nd p).1.2.1 = who) (hq : ∀ x, x ∈ qs ↔ x ∈ ps ∧ x ≠ p) : LeasesIn nd qs (ls.filter fun l => l.2.1 != who) := by
  intro l
  rw [List.mem_filter, bne_iff_ne, h l]
  constructor
  · rintro ⟨⟨q, hq1, rfl⟩, hw⟩
    exact ⟨q, (hq q).2 ⟨hq1, fun e2 => hw (by rw [e2]; exact e)⟩, rfl⟩
  · rintro ⟨q, hq1, rfl⟩
    obtain ⟨h1, h2⟩ := (hq q).1 hq1
    exact ⟨⟨q, h1, rfl⟩, fun hw => h2 (h.who hR hk h1 hp (hw.trans e.symm))⟩
theorem rel_yes {pa pn : Int} {ls : List Ls} {fs : List Fx} {nd : Nat → Hd} {ps : List Nat} {who : Int} (hP : PoolOkP pa pn ls fs) (h : LeasesIn nd ps ls) {p : Nat} (hp : p ∈ ps) (e : (nd p).1.2.1 = who) : RelTold pa pn ls fs who (ls.filter fun l => l.2.1 != who) true := by
  refine .inl ⟨rfl, ⟨hP, fun hl => ?_⟩, rfl⟩
  have h1 := (h _).2 ⟨p, hp, rfl⟩
  have h2 := List.Sublist.eq_of_length (List.filter_sublist (l := ls) (p := fun l => l.2.1 != who)) hl
  rw [← h2] at h1
  have := (List.mem_filter.1 h1).2
  rw [bne_iff_ne] at this
  exact this e
theorem rel_no {pa pn : Int} {ls : List Ls} {fs : List Fx} {nd : Nat → Hd} {ps : List Nat} {who : Int} (h : LeasesIn nd ps ls) (hn : ∀ p ∈ ps, (nd p).1.2.1 ≠ who) : RelTold pa pn ls fs who ls false := by
  refine .inr ⟨rfl, rfl, fun hc => hc.2 ?_⟩
  congr 1
  rw [List.filter_eq_self]
  intro l hl
  obtain ⟨p, hp, rfl⟩ := (h l).1 hl
  rw [bne_iff_ne]
  exact hn p hp
theorem HeapP.rebind {w : World} {base b c : Nat} {nd : Nat → Hd} {v : Value} {ps : List Nat} (h : HeapP w base b nd v ps) (hv : VarA c HpT #[v] w) (hc : base ≤ c) : HeapP w base c nd v ps := ⟨⟨hv, h.hw.row, h.hw.node, h.hw.dup, h.hw.own, hc⟩, h.heap, h.one⟩
theorem asc_filter {ls : List Ls} (h : AscL ls) (p : Ls → Bool) : AscL (ls.filter p) := List.Pairwise.sublist List.filter_sublist h

end Go.Proofs.Ytphmomlgmnllkaq
namespace Go.Proofs.Ytphmomlgmnllkaq
open Go.RowKit

theorem prefFields : Try.prog.underlying 29 = some (.struct (Try.prog.fieldsOf 29)) := by kernel_rfl
theorem prefStood : Try.prog.stoodInHeld 29 = false := by kernel_rfl
theorem prefGuard : Try.prog.eqGuardType Try.prog.depth 29 = false := by kernel_rfl
theorem pref_eq (a b c d : Int) (w : World) : (Op.equalIn 10000 29 (.agg #[.int .i64 a, .int .i64 b]) (.agg #[.int .i64 c, .int .i64 d])).run Try.prog w = .ok (a == c && b == d) w := by
  have u3 := Try.underlying3
  have a3 := Try.isAgg3
  have z3 := Try.sizeOf3
  rw [show (10000 : Nat) = 9999 + 1 from rfl, run_equalIn_agg w 9999 29 _ _ prefFields prefStood]
  simp only [Program.fieldsOf, Try.underlying29]
  go_simp
  by_cases h1 : a = c <;> by_cases h2 : b = d <;> simp [h1, h2]
theorem pref_same (a b : Int) (w : World) : (Op.equalIn 10000 29 (.agg #[.int .i64 a, .int .i64 b]) (.agg #[.int .i64 a, .int .i64 b])).run Try.prog w = .ok true w := by
  rw [pref_eq]
  simp

end Go.Proofs.Ytphmomlgmnllkaq
