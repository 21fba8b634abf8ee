/-
  Plain mathematics of figures: two for each byte, and back; no program is spoken of here.
  Plain mathematics of decimal figures; no program is spoken of here.
  Plain mathematics of figures that are read: each is worth what it stands for; no program is spoken of here.
  Plain mathematics of decimal figures that are read: the number, and when the figures are its shortest; no program is spoken of here.
  Plain mathematics of chapter 1's numbers in bytes: 'var n' is the text of a number, seven bits a byte, the lowest first; no program is spoken of here.
-/
import Derived.WalkKit
import Derived.Lib.ItoaNum
import Derived.Lib.ItoaLen
import Derived.Lib.ItoaMem
namespace Go.Proofs.Ytmgdhlodifkemas

/-- The figure of a worth below 16. -/
def fig (x : Nat) : UInt8 := if x < 10 then UInt8.ofNat (48 + x) else UInt8.ofNat (87 + x)

def hexOf (l : List UInt8) : List UInt8 := l.flatMap fun b => [fig (b.toNat / 16), fig (b.toNat % 16)]

theorem hexOf_snoc (l : List UInt8) (b : UInt8) : hexOf (l ++ [b]) = hexOf l ++ [fig (b.toNat / 16), fig (b.toNat % 16)] := by simp [hexOf]

theorem hexOf_length (l : List UInt8) : (hexOf l).length = 2 * l.length := by
  induction l with
  | nil => rfl
  | cons b l ih =>
    have e : hexOf (b :: l) = fig (b.toNat / 16) :: fig (b.toNat % 16) :: hexOf l := rfl
    rw [e, List.length_cons, List.length_cons, List.length_cons, ih]
    omega

theorem fig_toNat (x : Nat) (h : x < 16) : (fig x).toNat = if x < 10 then 48 + x else 87 + x := by
  unfold fig
  split <;> simp <;> omega

theorem take_snoc (s : ByteArray) (k : Nat) (h : k < s.size) : s.data.toList.take (k + 1) = s.data.toList.take k ++ [s[k]] := by
  rw [List.take_succ_eq_append_getElem (by simpa using h)]; rfl

theorem figs_get : ∀ (q : Nat) (h : q < 16), ((⟨#[48, 49, 50, 51, 52, 53, 54, 55, 56, 57, 97, 98, 99, 100, 101, 102]⟩ : ByteArray)[q]'(by exact h)) = fig q := by
  intro q h
  have : ∀ q : Fin 16, ((⟨#[48, 49, 50, 51, 52, 53, 54, 55, 56, 57, 97, 98, 99, 100, 101, 102]⟩ : ByteArray)[q.1]'(by exact q.2)) = fig q.1 := by decide
  exact this ⟨q, h⟩

theorem figs_int (q : Nat) (h : (q : Int) < 16) : ((((⟨#[48, 49, 50, 51, 52, 53, 54, 55, 56, 57, 97, 98, 99, 100, 101, 102]⟩ : ByteArray)[q]'(show q < 16 by omega)).toNat : Nat) : Int) = ((fig q).toNat : Int) := by
  rw [figs_get q (by omega)]

end Go.Proofs.Ytmgdhlodifkemas
namespace Go.Proofs.Ytmgdhlodifkemas

/-- The figures of a number; none for 0. -/
def digs (m : Nat) : List UInt8 := if m = 0 then [] else Lib.decDigits m

theorem digs_pos (m : Nat) (h : 1 ≤ m) : digs m = Lib.decDigits m := by unfold digs; rw [if_neg (by omega)]

theorem digs_step (m : Nat) (h : 1 ≤ m) : digs m = digs (m / 10) ++ [fig (m % 10)] := by
  have hf : fig (m % 10) = UInt8.ofNat (48 + m % 10) := by unfold fig; rw [if_pos (by omega)]
  rw [digs_pos m h, hf]
  by_cases hs : m < 10
  · rw [Lib.decDigits_one hs]
    have e : m / 10 = 0 := by omega
    have e2 : m % 10 = m := by omega
    rw [e, e2]
    rfl
  · rw [digs_pos (m / 10) (by omega), Lib.decDigits, dif_neg hs]

theorem digs_length (m : Nat) (h : m ≤ 9223372036854775808) : (digs m).length ≤ 21 := by
  unfold digs
  split
  · simp
  · have h2 := Lib.itoa_length_le (-(m : Int)) (by omega) (by omega)
    rw [Lib.itoa_neg m (by omega)] at h2
    simp at h2
    omega

theorem neg_tmod10 (m : Nat) : (-(m : Int)).tmod 10 = -((m % 10 : Nat) : Int) := by
  rw [Int.neg_tmod, Int.tmod_eq_emod_of_nonneg (by omega)]
  omega

theorem neg_tdiv10 (m : Nat) : (-(m : Int)).tdiv 10 = -((m / 10 : Nat) : Int) := by
  rw [Int.neg_tdiv, Int.tdiv_eq_ediv_of_nonneg (by omega)]
  omega

theorem cat_list (a b : List UInt8) : ((⟨a.toArray⟩ : ByteArray) ++ (⟨b.toArray⟩ : ByteArray)) = ⟨(a ++ b).toArray⟩ := by
  apply ByteArray.ext
  simp

end Go.Proofs.Ytmgdhlodifkemas
namespace Go.Proofs.Ytmgdhlodifkemas

theorem fig_inj : ∀ q r : Nat, q < 16 → r < 16 → fig q = fig r → q = r := by
  have h : ∀ q r : Fin 16, fig q.1 = fig r.1 → q.1 = r.1 := by decide
  intro q r hq hr e
  exact h ⟨q, hq⟩ ⟨r, hr⟩ e

/-- A text is figures of that base, and behind them nothing, or a byte that is none of them. -/
theorem figured (base : Nat) : ∀ l : List UInt8, ∃ (qs : List Nat) (tail : List UInt8), (∀ q ∈ qs, q < base) ∧ l = qs.map fig ++ tail ∧ (∀ x r, tail = x :: r → ∀ q, q < base → fig q ≠ x)
  | [] => ⟨[], [], by simp, rfl, by simp⟩
  | x :: l => by
    by_cases h : ∃ q, q < base ∧ fig q = x
    · obtain ⟨q, hq, rfl⟩ := h
      obtain ⟨qs, tail, h1, h2, h3⟩ := figured base l
      refine ⟨q :: qs, tail, ?_, by rw [h2]; rfl, h3⟩
      intro q' hq'
      rcases List.mem_cons.1 hq' with rfl | h'
      · exact hq
      · exact h1 q' h'
    · refine ⟨[], x :: l, by simp, rfl, ?_⟩
      intro x' r e q hq e2
      simp only [List.cons.injEq] at e
      exact h ⟨q, hq, e2.trans e.1.symm⟩

theorem at_fig (qs : List Nat) (tail : List UInt8) (k : Nat) (h : k < qs.length) : (qs.map fig ++ tail)[k]? = some (fig (qs.getD k 0)) := by
  rw [List.getElem?_append_left (by simpa using h)]
  simp [h]

theorem at_tail (qs : List Nat) (x : UInt8) (r : List UInt8) : (qs.map fig ++ x :: r)[qs.length]? = some x := by
  rw [List.getElem?_append_right (by simp)]
  simp

theorem byte_at (s : ByteArray) (k : Nat) (h : k < s.size) (x : UInt8) (e : s.data.toList[k]? = some x) : s[k] = x := by
  have h2 : k < s.data.toList.length := by simpa using h
  rw [List.getElem?_eq_getElem h2] at e
  simp only [Option.some.injEq] at e
  exact e

/-- What the figures are worth, as bytes. -/
def bytesOf (qs : List Nat) : List UInt8 := qs.map UInt8.ofNat

theorem bytesOf_snoc (qs : List Nat) (k : Nat) (h : k < qs.length) : bytesOf (qs.take (k + 1)) = bytesOf (qs.take k) ++ [UInt8.ofNat (qs.getD k 0)] := by
  unfold bytesOf
  rw [List.take_succ_eq_append_getElem h, List.map_append]
  simp [h]

theorem bytesOf_length (qs : List Nat) : (bytesOf qs).length = qs.length := by simp [bytesOf]

theorem eq_dec (a b : UInt8) : ((a.toNat : Int) == (b.toNat : Int)) = decide (a = b) := by
  by_cases h : a = b
  · subst h; simp
  · rw [decide_eq_false h, beq_eq_false_iff_ne]
    intro e
    exact h (UInt8.toNat_inj.1 (by omega))

theorem ofNat_int (m : Nat) (h : m ≤ 255) : (m : Int) = ((UInt8.ofNat m).toNat : Int) := by
  have : (UInt8.ofNat m).toNat = m := by simp; omega
  omega

theorem ne_toNat {a b : UInt8} (h : a ≠ b) : ((a.toNat : Int) == (b.toNat : Int)) = false := by
  rw [beq_eq_false_iff_ne]
  intro e
  exact h (UInt8.toNat_inj.1 (by omega))

end Go.Proofs.Ytmgdhlodifkemas
namespace Go.Proofs.Ytmgdhlodifkemas

/-- Figures from the last on. -/
def valR : List Nat → Nat
  | [] => 0
  | q :: r => q + 10 * valR r

def valD (l : List Nat) : Nat := valR l.reverse

theorem valD_snoc (l : List Nat) (q : Nat) : valD (l ++ [q]) = 10 * valD l + q := by
  unfold valD
  rw [List.reverse_append]
  show q + 10 * valR l.reverse = _
  omega

theorem valR_lt : ∀ (l : List Nat), (∀ q ∈ l, q < 10) → valR l < 10 ^ l.length
  | [], _ => by simp [valR]
  | q :: r, h => by
    have h1 := valR_lt r (fun x hx => h x (by simp [hx]))
    have h2 := h q (by simp)
    simp only [valR, List.length_cons, Nat.pow_succ]
    omega

theorem valR_append_zero : ∀ (l : List Nat), valR (l ++ [0]) = valR l
  | [] => rfl
  | q :: r => by
    show q + 10 * valR (r ++ [0]) = q + 10 * valR r
    rw [valR_append_zero r]

theorem valR_pos : ∀ (l : List Nat), l ≠ [] → l.getLast? ≠ some 0 → 1 ≤ valR l
  | [], h, _ => absurd rfl h
  | [q], _, h => by
    have : q ≠ 0 := fun e => h (by rw [e]; rfl)
    simp [valR]
    omega
  | q :: q2 :: r, _, h => by
    have h1 := valR_pos (q2 :: r) (by simp) (by simpa using h)
    show 1 ≤ q + 10 * valR (q2 :: r)
    omega

theorem dec_val : ∀ (l : List Nat), (∀ q ∈ l, q < 10) → l ≠ [] → (l.length = 1 ∨ l.getLast? ≠ some 0) → Lib.decDigits (valR l) = l.reverse.map fig
  | [], _, h, _ => absurd rfl h
  | [q], h, _, _ => by
    have h1 := h q (by simp)
    have e : valR [q] = q := by simp [valR]
    rw [e, Lib.decDigits_one h1]
    simp [fig, h1]
  | q :: q2 :: r, h, _, hl => by
    have h1 := h q (by simp)
    have hl2 : (q :: q2 :: r).getLast? ≠ some 0 := by
      rcases hl with hl | hl
      · simp at hl
      · exact hl
    have hl3 : (q2 :: r).getLast? ≠ some 0 := by simpa using hl2
    have ih := dec_val (q2 :: r) (fun x hx => h x (by simp at hx ⊢; right; exact hx)) (by simp) (.inr hl3)
    have hp := valR_pos (q2 :: r) (by simp) hl3
    have e : valR (q :: q2 :: r) = q + 10 * valR (q2 :: r) := rfl
    have e1 : valR (q :: q2 :: r) / 10 = valR (q2 :: r) := by rw [e]; omega
    have e2 : valR (q :: q2 :: r) % 10 = q := by rw [e]; omega
    rw [Lib.decDigits, dif_neg (by rw [e]; omega), e1, e2, ih, List.reverse_cons (a := q), List.map_append]
    simp [fig, h1]

theorem dec_length : ∀ (k u : Nat), 1 ≤ k → u < 10 ^ k → (Lib.decDigits u).length ≤ k
  | 0, _, h, _ => by omega
  | 1, u, _, h => by rw [Lib.decDigits_one (by simpa using h)]; simp
  | k + 2, u, _, h => by
    by_cases hs : u < 10
    · rw [Lib.decDigits_one hs]; simp
    · have hk : u / 10 < 10 ^ (k + 1) := by
        rw [Nat.pow_succ] at h
        omega
      have ih := dec_length (k + 1) (u / 10) (by omega) hk
      rw [Lib.decDigits, dif_neg hs, List.length_append]
      simp only [List.length_cons, List.length_nil]
      omega

theorem dec_val_not (l : List Nat) (h : ∀ q ∈ l, q < 10) (h1 : 1 < l.length) (h2 : l.getLast? = some 0) : Lib.decDigits (valR l) ≠ l.reverse.map fig := by
  intro e
  have e2 := congrArg List.length e
  rw [List.length_map, List.length_reverse] at e2
  obtain ⟨r, rfl⟩ : ∃ r, l = r ++ [0] := by
    rw [List.getLast?_eq_some_iff] at h2
    exact h2
  rw [valR_append_zero] at e2
  have h3 := valR_lt r (fun q hq => h q (by simp [hq]))
  have h4 := dec_length r.length (valR r) (by simp at h1; omega) h3
  simp at e2
  omega

/-- The figures are those of their number, just when there is one, or the first is not nought. -/
theorem dec_iff (qs : List Nat) (h : ∀ q ∈ qs, q < 10) (h0 : qs ≠ []) : Lib.decDigits (valD qs) = qs.map fig ↔ (qs.length = 1 ∨ qs.getD 0 0 ≠ 0) := by
  have hl : qs.reverse.getLast? = qs.head? := by simp
  have hd : qs.getD 0 0 = (qs.head?).getD 0 := by cases qs <;> rfl
  have hn : qs.reverse ≠ [] := by simpa using h0
  constructor
  · intro e
    by_cases h1 : qs.length = 1
    · exact .inl h1
    · right
      intro hz
      have hlen : 1 < qs.reverse.length := by
        have : qs.length ≠ 0 := fun e => h0 (List.length_eq_zero_iff.1 e)
        simp; omega
      refine dec_val_not qs.reverse (fun q hq => h q (by simpa using hq)) hlen ?_ (by rw [List.reverse_reverse]; exact e)
      rw [hl]
      cases qs with
      | nil => exact absurd rfl h0
      | cons a r => simp at hz; rw [hz]; rfl
  · intro hv
    have := dec_val qs.reverse (fun q hq => h q (by simpa using hq)) hn (by
      rcases hv with h1 | h1
      · left; simpa using h1
      · right
        rw [hl]
        intro e
        rw [hd, e] at h1
        exact h1 rfl)
    rw [List.reverse_reverse] at this
    exact this

theorem valD_lt (qs : List Nat) (h : ∀ q ∈ qs, q < 10) (hl : qs.length ≤ 10) : valD qs < 10000000000 := by
  have h1 := valR_lt qs.reverse (fun q hq => h q (by simpa using hq))
  have h2 : 10 ^ qs.reverse.length ≤ 10 ^ 10 := Nat.pow_le_pow_right (by omega) (by simpa using hl)
  unfold valD
  have e : (10 : Nat) ^ 10 = 10000000000 := by decide
  omega

theorem valD_take (qs : List Nat) (i : Nat) (h : i < qs.length) : valD (qs.take (i + 1)) = 10 * valD (qs.take i) + qs.getD i 0 := by
  rw [List.take_succ_eq_append_getElem h, valD_snoc]
  simp [h]

theorem digit_toNat (q : Nat) (h : q < 10) : (fig q).toNat = 48 + q := by rw [fig_toNat q (by omega), if_pos h]

theorem no_digit (x : UInt8) (h : ∀ q, q < 10 → fig q ≠ x) : x.toNat < 48 ∨ 57 < x.toNat := by
  by_cases h1 : 48 ≤ x.toNat ∧ x.toNat ≤ 57
  · exfalso
    refine h (x.toNat - 48) (by omega) ?_
    apply UInt8.toNat_inj.1
    rw [digit_toNat _ (by omega)]
    omega
  · omega

end Go.Proofs.Ytmgdhlodifkemas
namespace Go.Proofs.Ytmgdhlodifkemas

def varF : Nat → Nat → List UInt8
  | 0, n => [UInt8.ofNat n]
  | f + 1, n => if n ≤ 127 then [UInt8.ofNat n] else UInt8.ofNat (n % 128 + 128) :: varF f (n / 128)

def var (n : Nat) : List UInt8 := varF n n

theorem varF_fuel : ∀ (f g n : Nat), n ≤ f → n ≤ g → varF f n = varF g n
  | 0, 0, n, _, _ => rfl
  | 0, g + 1, n, h, _ => by
    have : n = 0 := by omega
    subst this
    simp [varF]
  | f + 1, 0, n, _, h => by
    have : n = 0 := by omega
    subst this
    simp [varF]
  | f + 1, g + 1, n, hf, hg => by
    by_cases h : n ≤ 127
    · simp [varF, h]
    · have h1 : n / 128 ≤ f := by omega
      have h2 : n / 128 ≤ g := by omega
      simp only [varF, if_neg h]
      rw [varF_fuel f g (n / 128) h1 h2]

theorem var_small (n : Nat) (h : n ≤ 127) : var n = [UInt8.ofNat n] := by
  unfold var
  cases n with
  | zero => rfl
  | succ n => simp only [varF, if_pos h]

theorem var_great (n : Nat) (h : 127 < n) : var n = UInt8.ofNat (n % 128 + 128) :: var (n / 128) := by
  unfold var
  obtain ⟨k, rfl⟩ : ∃ k, n = k + 1 := ⟨n - 1, by omega⟩
  have h' : ¬ k + 1 ≤ 127 := by omega
  simp only [varF, if_neg h']
  rw [varF_fuel k ((k + 1) / 128) ((k + 1) / 128) (by omega) (by omega)]

theorem varF_length : ∀ (f n : Nat), (varF f n).length ≤ f + 1
  | 0, n => by simp [varF]
  | f + 1, n => by
    by_cases h : n ≤ 127
    · simp [varF, h]
    · have := varF_length f (n / 128)
      simp only [varF, if_neg h, List.length_cons]
      omega

theorem var_length (n : Nat) : (var n).length ≤ n + 1 := varF_length n n

theorem byte_of (m : Nat) (h : m ≤ 255) : ((UInt8.ofNat m).toNat : Int) = (m : Int) := by
  have : (UInt8.ofNat m).toNat = m := by simp; omega
  omega

end Go.Proofs.Ytmgdhlodifkemas
