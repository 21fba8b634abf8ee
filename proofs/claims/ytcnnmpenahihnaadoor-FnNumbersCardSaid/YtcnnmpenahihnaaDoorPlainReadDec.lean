/-
  Plain mathematics of decimal figures that are read: the number, and when the figures are its shortest; no program is spoken of here.
-/
import Derived.Test.YtcnnmpenahihnaaDoorPlainDec
import Derived.Test.YtcnnmpenahihnaaDoorPlainWorth
namespace Go.Proofs.YtcnnmpenahihnaaDoor

/-- Figures from the last on. -/
def valR : List Nat → Nat
  | [] => 0
  | q :: r => q + 10 * valR r

def valD (l : List Nat) : Nat := valR l.reverse

theorem valD_snoc (l : List Nat) (q : Nat) : valD (l ++ [q]) = 10 * valD l + q := by
  unfold valD
  rw [List.reverse_append]
  show q + 10 * valR l.reverse = _
  omega

theorem valR_lt : ∀ (l : List Nat), (∀ q ∈ l, q < 10) → valR l < 10 ^ l.length
  | [], _ => by simp [valR]
  | q :: r, h => by
    have h1 := valR_lt r (fun x hx => h x (by simp [hx]))
    have h2 := h q (by simp)
    simp only [valR, List.length_cons, Nat.pow_succ]
    omega

theorem valR_append_zero : ∀ (l : List Nat), valR (l ++ [0]) = valR l
  | [] => rfl
  | q :: r => by
    show q + 10 * valR (r ++ [0]) = q + 10 * valR r
    rw [valR_append_zero r]

theorem valR_pos : ∀ (l : List Nat), l ≠ [] → l.getLast? ≠ some 0 → 1 ≤ valR l
  | [], h, _ => absurd rfl h
  | [q], _, h => by
    have : q ≠ 0 := fun e => h (by rw [e]; rfl)
    simp [valR]
    omega
  | q :: q2 :: r, _, h => by
    have h1 := valR_pos (q2 :: r) (by simp) (by simpa using h)
    show 1 ≤ q + 10 * valR (q2 :: r)
    omega

theorem dec_val : ∀ (l : List Nat), (∀ q ∈ l, q < 10) → l ≠ [] → (l.length = 1 ∨ l.getLast? ≠ some 0) → Lib.decDigits (valR l) = l.reverse.map fig
  | [], _, h, _ => absurd rfl h
  | [q], h, _, _ => by
    have h1 := h q (by simp)
    have e : valR [q] = q := by simp [valR]
    rw [e, Lib.decDigits_one h1]
    simp [fig, h1]
  | q :: q2 :: r, h, _, hl => by
    have h1 := h q (by simp)
    have hl2 : (q :: q2 :: r).getLast? ≠ some 0 := by
      rcases hl with hl | hl
      · simp at hl
      · exact hl
    have hl3 : (q2 :: r).getLast? ≠ some 0 := by simpa using hl2
    have ih := dec_val (q2 :: r) (fun x hx => h x (by simp at hx ⊢; right; exact hx)) (by simp) (.inr hl3)
    have hp := valR_pos (q2 :: r) (by simp) hl3
    have e : valR (q :: q2 :: r) = q + 10 * valR (q2 :: r) := rfl
    have e1 : valR (q :: q2 :: r) / 10 = valR (q2 :: r) := by rw [e]; omega
    have e2 : valR (q :: q2 :: r) % 10 = q := by rw [e]; omega
    rw [Lib.decDigits, dif_neg (by rw [e]; omega), e1, e2, ih, List.reverse_cons (a := q), List.map_append]
    simp [fig, h1]

theorem dec_length : ∀ (k u : Nat), 1 ≤ k → u < 10 ^ k → (Lib.decDigits u).length ≤ k
  | 0, _, h, _ => by omega
  | 1, u, _, h => by rw [Lib.decDigits_one (by simpa using h)]; simp
  | k + 2, u, _, h => by
    by_cases hs : u < 10
    · rw [Lib.decDigits_one hs]; simp
    · have hk : u / 10 < 10 ^ (k + 1) := by
        rw [Nat.pow_succ] at h
        omega
      have ih := dec_length (k + 1) (u / 10) (by omega) hk
      rw [Lib.decDigits, dif_neg hs, List.length_append]
      simp only [List.length_cons, List.length_nil]
      omega

theorem dec_val_not (l : List Nat) (h : ∀ q ∈ l, q < 10) (h1 : 1 < l.length) (h2 : l.getLast? = some 0) : Lib.decDigits (valR l) ≠ l.reverse.map fig := by
  intro e
  have e2 := congrArg List.length e
  rw [List.length_map, List.length_reverse] at e2
  obtain ⟨r, rfl⟩ : ∃ r, l = r ++ [0] := by
    rw [List.getLast?_eq_some_iff] at h2
    exact h2
  rw [valR_append_zero] at e2
  have h3 := valR_lt r (fun q hq => h q (by simp [hq]))
  have h4 := dec_length r.length (valR r) (by simp at h1; omega) h3
  simp at e2
  omega

/-- The figures are those of their number, just when there is one, or the first is not nought. -/
theorem dec_iff (qs : List Nat) (h : ∀ q ∈ qs, q < 10) (h0 : qs ≠ []) : Lib.decDigits (valD qs) = qs.map fig ↔ (qs.length = 1 ∨ qs.getD 0 0 ≠ 0) := by
  have hl : qs.reverse.getLast? = qs.head? := by simp
  have hd : qs.getD 0 0 = (qs.head?).getD 0 := by cases qs <;> rfl
  have hn : qs.reverse ≠ [] := by simpa using h0
  constructor
  · intro e
    by_cases h1 : qs.length = 1
    · exact .inl h1
    · right
      intro hz
      have hlen : 1 < qs.reverse.length := by
        have : qs.length ≠ 0 := fun e => h0 (List.length_eq_zero_iff.1 e)
        simp; omega
      refine dec_val_not qs.reverse (fun q hq => h q (by simpa using hq)) hlen ?_ (by rw [List.reverse_reverse]; exact e)
      rw [hl]
      cases qs with
      | nil => exact absurd rfl h0
      | cons a r => simp at hz; rw [hz]; rfl
  · intro hv
    have := dec_val qs.reverse (fun q hq => h q (by simpa using hq)) hn (by
      rcases hv with h1 | h1
      · left; simpa using h1
      · right
        rw [hl]
        intro e
        rw [hd, e] at h1
        exact h1 rfl)
    rw [List.reverse_reverse] at this
    exact this

theorem valD_lt (qs : List Nat) (h : ∀ q ∈ qs, q < 10) (hl : qs.length ≤ 10) : valD qs < 10000000000 := by
  have h1 := valR_lt qs.reverse (fun q hq => h q (by simpa using hq))
  have h2 : 10 ^ qs.reverse.length ≤ 10 ^ 10 := Nat.pow_le_pow_right (by omega) (by simpa using hl)
  unfold valD
  have e : (10 : Nat) ^ 10 = 10000000000 := by decide
  omega

theorem valD_take (qs : List Nat) (i : Nat) (h : i < qs.length) : valD (qs.take (i + 1)) = 10 * valD (qs.take i) + qs.getD i 0 := by
  rw [List.take_succ_eq_append_getElem h, valD_snoc]
  simp [h]

theorem digit_toNat (q : Nat) (h : q < 10) : (fig q).toNat = 48 + q := by rw [fig_toNat q (by omega), if_pos h]

theorem no_digit (x : UInt8) (h : ∀ q, q < 10 → fig q ≠ x) : x.toNat < 48 ∨ 57 < x.toNat := by
  by_cases h1 : 48 ≤ x.toNat ∧ x.toNat ≤ 57
  · exfalso
    refine h (x.toNat - 48) (by omega) ?_
    apply UInt8.toNat_inj.1
    rw [digit_toNat _ (by omega)]
    omega
  · omega

end Go.Proofs.YtcnnmpenahihnaaDoor
