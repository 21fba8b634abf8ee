/-
  Plain mathematics of figures taken two by two; no program is spoken of here.
-/
import Derived.Test.YtcnnmpenahihnaaDoorPlainWorth
namespace Go.Proofs.YtcnnmpenahihnaaDoor

/-- What a byte is worth as a figure; -1 when it is none. -/
def worthI (x : UInt8) : Int := if 48 ≤ x.toNat ∧ x.toNat ≤ 57 then (x.toNat : Int) - 48 else if 97 ≤ x.toNat ∧ x.toNat ≤ 102 then (x.toNat : Int) - 87 else -1

theorem worthI_bd (x : UInt8) : -1 ≤ worthI x ∧ worthI x ≤ 15 := by
  unfold worthI
  split
  · omega
  · split <;> omega

theorem worthI_fig (q : Nat) (h : q < 16) : worthI (fig q) = q := by
  unfold worthI
  rw [fig_toNat q h]
  by_cases h1 : q < 10
  · rw [if_pos h1, if_pos (by omega)]; omega
  · rw [if_neg h1, if_neg (by omega), if_pos (by omega)]; omega

theorem fig_of (x : UInt8) (q : Nat) (h : q < 16) (e : (if q < 10 then 48 + q else 87 + q) = x.toNat) : fig q = x := by
  apply UInt8.toNat_inj.1
  rw [fig_toNat q h, e]

theorem worthI_none (x : UInt8) (h : ∀ q, q < 16 → fig q ≠ x) : worthI x = -1 := by
  unfold worthI
  by_cases h1 : 48 ≤ x.toNat ∧ x.toNat ≤ 57
  · exact absurd (fig_of x (x.toNat - 48) (by omega) (by rw [if_pos (by omega)]; omega)) (h _ (by omega))
  · rw [if_neg h1]
    by_cases h2 : 97 ≤ x.toNat ∧ x.toNat ≤ 102
    · exact absurd (fig_of x (x.toNat - 87) (by omega) (by rw [if_neg (by omega)]; omega)) (h _ (by omega))
    · rw [if_neg h2]

/-- The bytes that figures make, two by two. -/
def pairs : List Nat → List UInt8
  | a :: b :: r => UInt8.ofNat (16 * a + b) :: pairs r
  | _ => []

theorem pairs_snoc : ∀ (k : Nat) (qs : List Nat), 2 * k + 1 < qs.length → pairs (qs.take (2 * k + 2)) = pairs (qs.take (2 * k)) ++ [UInt8.ofNat (16 * qs.getD (2 * k) 0 + qs.getD (2 * k + 1) 0)]
  | 0, a :: b :: r, _ => rfl
  | 0, [], h => by simp at h
  | 0, [a], h => by simp at h
  | k + 1, [], h => by simp at h
  | k + 1, [a], h => by simp at h
  | k + 1, a :: b :: r, h => by
    have ih := pairs_snoc k r (by simp at h; omega)
    have e1 : 2 * (k + 1) + 2 = (2 * k + 2) + 1 + 1 := by omega
    have e2 : 2 * (k + 1) = 2 * k + 1 + 1 := by omega
    rw [e1, List.take_succ_cons, List.take_succ_cons]
    show UInt8.ofNat (16 * a + b) :: pairs (r.take (2 * k + 2)) = _
    rw [ih, e2, List.take_succ_cons, List.take_succ_cons]
    rfl

theorem pairs_length : ∀ (k : Nat) (qs : List Nat), 2 * k ≤ qs.length → (pairs (qs.take (2 * k))).length = k
  | 0, _, _ => by simp [pairs]
  | k + 1, qs, h => by
    have ih := pairs_length k qs (by omega)
    have := pairs_snoc k qs (by omega)
    have e : 2 * (k + 1) = 2 * k + 2 := by omega
    rw [e, this, List.length_append, ih]
    rfl

theorem pairs_next (qs : List Nat) (i : Nat) (he : i % 2 = 0) (h : i + 1 < qs.length) : pairs (qs.take (i + 2)) = pairs (qs.take i) ++ [UInt8.ofNat (16 * qs.getD i 0 + qs.getD (i + 1) 0)] := by
  have e : i = 2 * (i / 2) := by omega
  have := pairs_snoc (i / 2) qs (by omega)
  rw [← e] at this
  exact this

theorem pairs_le (qs : List Nat) (i : Nat) (he : i % 2 = 0) (h : i ≤ qs.length) : (pairs (qs.take i)).length ≤ i := by
  have e : i = 2 * (i / 2) := by omega
  have := pairs_length (i / 2) qs (by omega)
  rw [← e] at this
  omega

theorem getD_mem (qs : List Nat) (i : Nat) (h : i < qs.length) : qs.getD i 0 ∈ qs := by
  rw [List.getD_eq_getElem?_getD, List.getElem?_eq_getElem h]
  exact List.getElem_mem h

/-- The byte at a place of a text that is figures and then something else. -/
theorem worth_at (s : ByteArray) (qs : List Nat) (tail : List UInt8) (h1 : ∀ q ∈ qs, q < 16) (h2 : s.data.toList = qs.map fig ++ tail) (i : Nat) (hi : i < s.size) (h : i < qs.length) : worthI s[i] = qs.getD i 0 := by
  rw [byte_at s i hi _ (by rw [h2]; exact at_fig qs tail i h)]
  exact worthI_fig _ (h1 _ (getD_mem qs i h))

theorem worth_end (s : ByteArray) (qs : List Nat) (tail : List UInt8) (h2 : s.data.toList = qs.map fig ++ tail) (h3 : ∀ x r, tail = x :: r → ∀ q, q < 16 → fig q ≠ x) (hi : qs.length < s.size) : worthI (s[qs.length]'hi) = -1 := by
  have hl := congrArg List.length h2
  cases ht : tail with
  | nil => rw [ht] at hl; simp at hl; omega
  | cons x r =>
    rw [byte_at s qs.length hi x (by rw [h2, ht]; exact at_tail qs x r)]
    exact worthI_none x (h3 x r ht)

end Go.Proofs.YtcnnmpenahihnaaDoor
