/-
  Plain mathematics of figures: two for each byte, and back; no program is spoken of here.
  Plain mathematics of decimal figures; no program is spoken of here.
  Plain mathematics of figures that are read: each is worth what it stands for; no program is spoken of here.
  Plain mathematics of decimal figures that are read: the number, and when the figures are its shortest; no program is spoken of here.
  Plain mathematics of chapter 1's numbers in bytes: 'var n' is the text of a number, seven bits a byte, the lowest first; no program is spoken of here.
  Plain mathematics of chapter 1's numbers read from bytes: the first low byte, the number that some bytes say, and when they are its shortest text; no program is spoken of here.
  Plain mathematics of figures taken two by two; no program is spoken of here.
  Plain mathematics: numbers and texts come back from their bytes and figures; no program is spoken of here.
  Plain mathematics of the parts of a line; no program is spoken of here.
  Plain mathematics of addresses and prefixes: texts cut at a sign and put together again, four numbers and one; no program is spoken of here.
  What the library's splitting tells at a sign of one byte, held against cutAt; shifts of addresses; no program is spoken of here.
-/
import Derived.WalkKit
import Derived.Lib.ItoaNum
import Derived.Lib.ItoaLen
import Derived.Lib.ItoaMem
import Derived.Lib.Fields
import Derived.Lib.SplitLaws
namespace Go.Proofs.Ytkfcoldjgijpcap

/-- The figure of a worth below 16. -/
def fig (x : Nat) : UInt8 := if x < 10 then UInt8.ofNat (48 + x) else UInt8.ofNat (87 + x)

def hexOf (l : List UInt8) : List UInt8 := l.flatMap fun b => [fig (b.toNat / 16), fig (b.toNat % 16)]

theorem hexOf_snoc (l : List UInt8) (b : UInt8) : hexOf (l ++ [b]) = hexOf l ++ [fig (b.toNat / 16), fig (b.toNat % 16)] := by simp [hexOf]

theorem hexOf_length (l : List UInt8) : (hexOf l).length = 2 * l.length := by
  induction l with
  | nil => rfl
  | cons b l ih =>
    have e : hexOf (b :: l) = fig (b.toNat / 16) :: fig (b.toNat % 16) :: hexOf l := rfl
    rw [e, List.length_cons, List.length_cons, List.length_cons, ih]
    omega

theorem fig_toNat (x : Nat) (h : x < 16) : (fig x).toNat = if x < 10 then 48 + x else 87 + x := by
  unfold fig
  split <;> simp <;> omega

theorem take_snoc (s : ByteArray) (k : Nat) (h : k < s.size) : s.data.toList.take (k + 1) = s.data.toList.take k ++ [s[k]] := by
  rw [List.take_succ_eq_append_getElem (by simpa using h)]; rfl

theorem figs_get : ∀ (q : Nat) (h : q < 16), ((⟨#[48, 49, 50, 51, 52, 53, 54, 55, 56, 57, 97, 98, 99, 100, 101, 102]⟩ : ByteArray)[q]'(by exact h)) = fig q := by
  intro q h
  have : ∀ q : Fin 16, ((⟨#[48, 49, 50, 51, 52, 53, 54, 55, 56, 57, 97, 98, 99, 100, 101, 102]⟩ : ByteArray)[q.1]'(by exact q.2)) = fig q.1 := by decide
  exact this ⟨q, h⟩

theorem figs_int (q : Nat) (h : (q : Int) < 16) : ((((⟨#[48, 49, 50, 51, 52, 53, 54, 55, 56, 57, 97, 98, 99, 100, 101, 102]⟩ : ByteArray)[q]'(show q < 16 by omega)).toNat : Nat) : Int) = ((fig q).toNat : Int) := by
  rw [figs_get q (by omega)]

end Go.Proofs.Ytkfcoldjgijpcap
namespace Go.Proofs.Ytkfcoldjgijpcap

/-- The figures of a number; none for 0. -/
def digs (m : Nat) : List UInt8 := if m = 0 then [] else Lib.decDigits m

theorem digs_pos (m : Nat) (h : 1 ≤ m) : digs m = Lib.decDigits m := by unfold digs; rw [if_neg (by omega)]

theorem digs_step (m : Nat) (h : 1 ≤ m) : digs m = digs (m / 10) ++ [fig (m % 10)] := by
  have hf : fig (m % 10) = UInt8.ofNat (48 + m % 10) := by unfold fig; rw [if_pos (by omega)]
  rw [digs_pos m h, hf]
  by_cases hs : m < 10
  · rw [Lib.decDigits_one hs]
    have e : m / 10 = 0 := by omega
    have e2 : m % 10 = m := by omega
    rw [e, e2]
    rfl
  · rw [digs_pos (m / 10) (by omega), Lib.decDigits, dif_neg hs]

theorem digs_length (m : Nat) (h : m ≤ 9223372036854775808) : (digs m).length ≤ 21 := by
  unfold digs
  split
  · simp
  · have h2 := Lib.itoa_length_le (-(m : Int)) (by omega) (by omega)
    rw [Lib.itoa_neg m (by omega)] at h2
    simp at h2
    omega

theorem neg_tmod10 (m : Nat) : (-(m : Int)).tmod 10 = -((m % 10 : Nat) : Int) := by
  rw [Int.neg_tmod, Int.tmod_eq_emod_of_nonneg (by omega)]
  omega

theorem neg_tdiv10 (m : Nat) : (-(m : Int)).tdiv 10 = -((m / 10 : Nat) : Int) := by
  rw [Int.neg_tdiv, Int.tdiv_eq_ediv_of_nonneg (by omega)]
  omega

theorem cat_list (a b : List UInt8) : ((⟨a.toArray⟩ : ByteArray) ++ (⟨b.toArray⟩ : ByteArray)) = ⟨(a ++ b).toArray⟩ := by
  apply ByteArray.ext
  simp

end Go.Proofs.Ytkfcoldjgijpcap
namespace Go.Proofs.Ytkfcoldjgijpcap

theorem fig_inj : ∀ q r : Nat, q < 16 → r < 16 → fig q = fig r → q = r := by
  have h : ∀ q r : Fin 16, fig q.1 = fig r.1 → q.1 = r.1 := by decide
  intro q r hq hr e
  exact h ⟨q, hq⟩ ⟨r, hr⟩ e

/-- A text is figures of that base, and behind them nothing, or a byte that is none of them. -/
theorem figured (base : Nat) : ∀ l : List UInt8, ∃ (qs : List Nat) (tail : List UInt8), (∀ q ∈ qs, q < base) ∧ l = qs.map fig ++ tail ∧ (∀ x r, tail = x :: r → ∀ q, q < base → fig q ≠ x)
  | [] => ⟨[], [], by simp, rfl, by simp⟩
  | x :: l => by
    by_cases h : ∃ q, q < base ∧ fig q = x
    · obtain ⟨q, hq, rfl⟩ := h
      obtain ⟨qs, tail, h1, h2, h3⟩ := figured base l
      refine ⟨q :: qs, tail, ?_, by rw [h2]; rfl, h3⟩
      intro q' hq'
      rcases List.mem_cons.1 hq' with rfl | h'
      · exact hq
      · exact h1 q' h'
    · refine ⟨[], x :: l, by simp, rfl, ?_⟩
      intro x' r e q hq e2
      simp only [List.cons.injEq] at e
      exact h ⟨q, hq, e2.trans e.1.symm⟩

theorem at_fig (qs : List Nat) (tail : List UInt8) (k : Nat) (h : k < qs.length) : (qs.map fig ++ tail)[k]? = some (fig (qs.getD k 0)) := by
  rw [List.getElem?_append_left (by simpa using h)]
  simp [h]

theorem at_tail (qs : List Nat) (x : UInt8) (r : List UInt8) : (qs.map fig ++ x :: r)[qs.length]? = some x := by
  rw [List.getElem?_append_right (by simp)]
  simp

theorem byte_at (s : ByteArray) (k : Nat) (h : k < s.size) (x : UInt8) (e : s.data.toList[k]? = some x) : s[k] = x := by
  have h2 : k < s.data.toList.length := by simpa using h
  rw [List.getElem?_eq_getElem h2] at e
  simp only [Option.some.injEq] at e
  exact e

/-- What the figures are worth, as bytes. -/
def bytesOf (qs : List Nat) : List UInt8 := qs.map UInt8.ofNat

theorem bytesOf_snoc (qs : List Nat) (k : Nat) (h : k < qs.length) : bytesOf (qs.take (k + 1)) = bytesOf (qs.take k) ++ [UInt8.ofNat (qs.getD k 0)] := by
  unfold bytesOf
  rw [List.take_succ_eq_append_getElem h, List.map_append]
  simp [h]

theorem bytesOf_length (qs : List Nat) : (bytesOf qs).length = qs.length := by simp [bytesOf]

theorem eq_dec (a b : UInt8) : ((a.toNat : Int) == (b.toNat : Int)) = decide (a = b) := by
  by_cases h : a = b
  · subst h; simp
  · rw [decide_eq_false h, beq_eq_false_iff_ne]
    intro e
    exact h (UInt8.toNat_inj.1 (by omega))

theorem ofNat_int (m : Nat) (h : m ≤ 255) : (m : Int) = ((UInt8.ofNat m).toNat : Int) := by
  have : (UInt8.ofNat m).toNat = m := by simp; omega
  omega

theorem ne_toNat {a b : UInt8} (h : a ≠ b) : ((a.toNat : Int) == (b.toNat : Int)) = false := by
  rw [beq_eq_false_iff_ne]
  intro e
  exact h (UInt8.toNat_inj.1 (by omega))

end Go.Proofs.Ytkfcoldjgijpcap
namespace Go.Proofs.Ytkfcoldjgijpcap

/-- Figures from the last on. -/
def valR : List Nat → Nat
  | [] => 0
  | q :: r => q + 10 * valR r

def valD (l : List Nat) : Nat := valR l.reverse

theorem valD_snoc (l : List Nat) (q : Nat) : valD (l ++ [q]) = 10 * valD l + q := by
  unfold valD
  rw [List.reverse_append]
  show q + 10 * valR l.reverse = _
  omega

theorem valR_lt : ∀ (l : List Nat), (∀ q ∈ l, q < 10) → valR l < 10 ^ l.length
  | [], _ => by simp [valR]
  | q :: r, h => by
    have h1 := valR_lt r (fun x hx => h x (by simp [hx]))
    have h2 := h q (by simp)
    simp only [valR, List.length_cons, Nat.pow_succ]
    omega

theorem valR_append_zero : ∀ (l : List Nat), valR (l ++ [0]) = valR l
  | [] => rfl
  | q :: r => by
    show q + 10 * valR (r ++ [0]) = q + 10 * valR r
    rw [valR_append_zero r]

theorem valR_pos : ∀ (l : List Nat), l ≠ [] → l.getLast? ≠ some 0 → 1 ≤ valR l
  | [], h, _ => absurd rfl h
  | [q], _, h => by
    have : q ≠ 0 := fun e => h (by rw [e]; rfl)
    simp [valR]
    omega
  | q :: q2 :: r, _, h => by
    have h1 := valR_pos (q2 :: r) (by simp) (by simpa using h)
    show 1 ≤ q + 10 * valR (q2 :: r)
    omega

theorem dec_val : ∀ (l : List Nat), (∀ q ∈ l, q < 10) → l ≠ [] → (l.length = 1 ∨ l.getLast? ≠ some 0) → Lib.decDigits (valR l) = l.reverse.map fig
  | [], _, h, _ => absurd rfl h
  | [q], h, _, _ => by
    have h1 := h q (by simp)
    have e : valR [q] = q := by simp [valR]
    rw [e, Lib.decDigits_one h1]
    simp [fig, h1]
  | q :: q2 :: r, h, _, hl => by
    have h1 := h q (by simp)
    have hl2 : (q :: q2 :: r).getLast? ≠ some 0 := by
      rcases hl with hl | hl
      · simp at hl
      · exact hl
    have hl3 : (q2 :: r).getLast? ≠ some 0 := by simpa using hl2
    have ih := dec_val (q2 :: r) (fun x hx => h x (by simp at hx ⊢; right; exact hx)) (by simp) (.inr hl3)
    have hp := valR_pos (q2 :: r) (by simp) hl3
    have e : valR (q :: q2 :: r) = q + 10 * valR (q2 :: r) := rfl
    have e1 : valR (q :: q2 :: r) / 10 = valR (q2 :: r) := by rw [e]; omega
    have e2 : valR (q :: q2 :: r) % 10 = q := by rw [e]; omega
    rw [Lib.decDigits, dif_neg (by rw [e]; omega), e1, e2, ih, List.reverse_cons (a := q), List.map_append]
    simp [fig, h1]

theorem dec_length : ∀ (k u : Nat), 1 ≤ k → u < 10 ^ k → (Lib.decDigits u).length ≤ k
  | 0, _, h, _ => by omega
  | 1, u, _, h => by rw [Lib.decDigits_one (by simpa using h)]; simp
  | k + 2, u, _, h => by
    by_cases hs : u < 10
    · rw [Lib.decDigits_one hs]; simp
    · have hk : u / 10 < 10 ^ (k + 1) := by
        rw [Nat.pow_succ] at h
        omega
      have ih := dec_length (k + 1) (u / 10) (by omega) hk
      rw [Lib.decDigits, dif_neg hs, List.length_append]
      simp only [List.length_cons, List.length_nil]
      omega

theorem dec_val_not (l : List Nat) (h : ∀ q ∈ l, q < 10) (h1 : 1 < l.length) (h2 : l.getLast? = some 0) : Lib.decDigits (valR l) ≠ l.reverse.map fig := by
  intro e
  have e2 := congrArg List.length e
  rw [List.length_map, List.length_reverse] at e2
  obtain ⟨r, rfl⟩ : ∃ r, l = r ++ [0] := by
    rw [List.getLast?_eq_some_iff] at h2
    exact h2
  rw [valR_append_zero] at e2
  have h3 := valR_lt r (fun q hq => h q (by simp [hq]))
  have h4 := dec_length r.length (valR r) (by simp at h1; omega) h3
  simp at e2
  omega

/-- The figures are those of their number, just when there is one, or the first is not nought. -/
theorem dec_iff (qs : List Nat) (h : ∀ q ∈ qs, q < 10) (h0 : qs ≠ []) : Lib.decDigits (valD qs) = qs.map fig ↔ (qs.length = 1 ∨ qs.getD 0 0 ≠ 0) := by
  have hl : qs.reverse.getLast? = qs.head? := by simp
  have hd : qs.getD 0 0 = (qs.head?).getD 0 := by cases qs <;> rfl
  have hn : qs.reverse ≠ [] := by simpa using h0
  constructor
  · intro e
    by_cases h1 : qs.length = 1
    · exact .inl h1
    · right
      intro hz
      have hlen : 1 < qs.reverse.length := by
        have : qs.length ≠ 0 := fun e => h0 (List.length_eq_zero_iff.1 e)
        simp; omega
      refine dec_val_not qs.reverse (fun q hq => h q (by simpa using hq)) hlen ?_ (by rw [List.reverse_reverse]; exact e)
      rw [hl]
      cases qs with
      | nil => exact absurd rfl h0
      | cons a r => simp at hz; rw [hz]; rfl
  · intro hv
    have := dec_val qs.reverse (fun q hq => h q (by simpa using hq)) hn (by
      rcases hv with h1 | h1
      · left; simpa using h1
      · right
        rw [hl]
        intro e
        rw [hd, e] at h1
        exact h1 rfl)
    rw [List.reverse_reverse] at this
    exact this

theorem valD_lt (qs : List Nat) (h : ∀ q ∈ qs, q < 10) (hl : qs.length ≤ 10) : valD qs < 10000000000 := by
  have h1 := valR_lt qs.reverse (fun q hq => h q (by simpa using hq))
  have h2 : 10 ^ qs.reverse.length ≤ 10 ^ 10 := Nat.pow_le_pow_right (by omega) (by simpa using hl)
  unfold valD
  have e : (10 : Nat) ^ 10 = 10000000000 := by decide
  omega

theorem valD_take (qs : List Nat) (i : Nat) (h : i < qs.length) : valD (qs.take (i + 1)) = 10 * valD (qs.take i) + qs.getD i 0 := by
  rw [List.take_succ_eq_append_getElem h, valD_snoc]
  simp [h]

theorem digit_toNat (q : Nat) (h : q < 10) : (fig q).toNat = 48 + q := by rw [fig_toNat q (by omega), if_pos h]

theorem no_digit (x : UInt8) (h : ∀ q, q < 10 → fig q ≠ x) : x.toNat < 48 ∨ 57 < x.toNat := by
  by_cases h1 : 48 ≤ x.toNat ∧ x.toNat ≤ 57
  · exfalso
    refine h (x.toNat - 48) (by omega) ?_
    apply UInt8.toNat_inj.1
    rw [digit_toNat _ (by omega)]
    omega
  · omega

end Go.Proofs.Ytkfcoldjgijpcap
namespace Go.Proofs.Ytkfcoldjgijpcap

def varF : Nat → Nat → List UInt8
  | 0, n => [UInt8.ofNat n]
  | f + 1, n => if n ≤ 127 then [UInt8.ofNat n] else UInt8.ofNat (n % 128 + 128) :: varF f (n / 128)

def var (n : Nat) : List UInt8 := varF n n

theorem varF_fuel : ∀ (f g n : Nat), n ≤ f → n ≤ g → varF f n = varF g n
  | 0, 0, n, _, _ => rfl
  | 0, g + 1, n, h, _ => by
    have : n = 0 := by omega
    subst this
    simp [varF]
  | f + 1, 0, n, _, h => by
    have : n = 0 := by omega
    subst this
    simp [varF]
  | f + 1, g + 1, n, hf, hg => by
    by_cases h : n ≤ 127
    · simp [varF, h]
    · have h1 : n / 128 ≤ f := by omega
      have h2 : n / 128 ≤ g := by omega
      simp only [varF, if_neg h]
      rw [varF_fuel f g (n / 128) h1 h2]

theorem var_small (n : Nat) (h : n ≤ 127) : var n = [UInt8.ofNat n] := by
  unfold var
  cases n with
  | zero => rfl
  | succ n => simp only [varF, if_pos h]

theorem var_great (n : Nat) (h : 127 < n) : var n = UInt8.ofNat (n % 128 + 128) :: var (n / 128) := by
  unfold var
  obtain ⟨k, rfl⟩ : ∃ k, n = k + 1 := ⟨n - 1, by omega⟩
  have h' : ¬ k + 1 ≤ 127 := by omega
  simp only [varF, if_neg h']
  rw [varF_fuel k ((k + 1) / 128) ((k + 1) / 128) (by omega) (by omega)]

theorem varF_length : ∀ (f n : Nat), (varF f n).length ≤ f + 1
  | 0, n => by simp [varF]
  | f + 1, n => by
    by_cases h : n ≤ 127
    · simp [varF, h]
    · have := varF_length f (n / 128)
      simp only [varF, if_neg h, List.length_cons]
      omega

theorem var_length (n : Nat) : (var n).length ≤ n + 1 := varF_length n n

theorem byte_of (m : Nat) (h : m ≤ 255) : ((UInt8.ofNat m).toNat : Int) = (m : Int) := by
  have : (UInt8.ofNat m).toNat = m := by simp; omega
  omega

end Go.Proofs.Ytkfcoldjgijpcap
namespace Go.Proofs.Ytkfcoldjgijpcap

/-- What bytes say, seven bits a byte, the lowest first. -/
def val : List UInt8 → Nat
  | [] => 0
  | b :: r => b.toNat % 128 + 128 * val r

/-- The place of the first byte below 128 among the first f ones. -/
def low : Nat → List UInt8 → Option Nat
  | 0, _ => none
  | _ + 1, [] => none
  | f + 1, b :: r => if b.toNat < 128 then some 0 else (low f r).map (· + 1)

theorem low_some : ∀ (f : Nat) (t : List UInt8) (k : Nat), low f t = some k → k < f ∧ k < t.length ∧ (∀ i, i < k → 128 ≤ (t.getD i 0).toNat) ∧ (t.getD k 0).toNat < 128
  | 0, _, k, h => by simp [low] at h
  | f + 1, [], k, h => by simp [low] at h
  | f + 1, b :: r, k, h => by
    by_cases hb : b.toNat < 128
    · simp [low, hb] at h
      subst h
      exact ⟨by omega, by simp, by intro i hi; omega, by simpa using hb⟩
    · simp only [low, if_neg hb, Option.map_eq_some_iff] at h
      obtain ⟨j, hj, rfl⟩ := h
      obtain ⟨h1, h2, h3, h4⟩ := low_some f r j hj
      refine ⟨by omega, by simp; omega, ?_, by simpa using h4⟩
      intro i hi
      cases i with
      | zero => simp; omega
      | succ i => simpa using h3 i (by omega)

theorem low_none : ∀ (f : Nat) (t : List UInt8), low f t = none → ∀ k, k < f → k < t.length → 128 ≤ (t.getD k 0).toNat
  | 0, _, _, k, h, _ => by omega
  | f + 1, [], _, k, _, h => by simp at h
  | f + 1, b :: r, h, k, hk, hl => by
    by_cases hb : b.toNat < 128
    · simp [low, hb] at h
    · simp only [low, if_neg hb, Option.map_eq_none_iff] at h
      cases k with
      | zero => simp; omega
      | succ k => simpa using low_none f r h k (by omega) (by simpa using hl)

theorem val_append (a : List UInt8) : ∀ (b : List UInt8), val (a ++ b) = val a + 128 ^ a.length * val b := by
  induction a with
  | nil => intro b; simp [val]
  | cons x a ih =>
    intro b
    simp only [List.cons_append, val, ih, List.length_cons, Nat.pow_succ]
    rw [Nat.mul_add, Nat.mul_comm (128 ^ a.length) 128, Nat.mul_assoc]
    omega

theorem val_lt : ∀ (a : List UInt8), val a < 128 ^ a.length
  | [] => by simp [val]
  | b :: r => by
    have := val_lt r
    simp only [val, List.length_cons, Nat.pow_succ]
    omega

theorem val_take_succ (t : List UInt8) (j : Nat) (h : j < t.length) : val (t.take (j + 1)) = val (t.take j) + (t.getD j 0).toNat % 128 * 128 ^ j := by
  rw [List.take_succ_eq_append_getElem h, val_append]
  have e : (t.take j).length = j := by simp; omega
  have g : t.getD j 0 = t[j] := by simp [h]
  rw [e, g]
  simp only [val, Nat.mul_zero, Nat.add_zero]
  rw [Nat.mul_comm]

theorem val_drop (t : List UInt8) (j : Nat) (h : j < t.length) : val (t.drop j) = val (t.drop (j + 1)) * 128 + (t.getD j 0).toNat % 128 := by
  rw [List.drop_eq_getElem_cons h]
  have g : t.getD j 0 = t[j] := by simp [h]
  rw [g]
  simp only [val]
  omega

/-- The bytes but the last are high, the last is low. -/
def Formed (xs : List UInt8) : Prop := ∃ ys z, xs = ys ++ [z] ∧ (∀ y ∈ ys, 128 ≤ y.toNat) ∧ z.toNat < 128

theorem low_formed (f : Nat) (t : List UInt8) (k : Nat) (h : low f t = some k) : Formed (t.take (k + 1)) := by
  obtain ⟨_, h2, h3, h4⟩ := low_some f t k h
  refine ⟨t.take k, t.getD k 0, ?_, ?_, h4⟩
  · rw [List.take_succ_eq_append_getElem h2]
    simp [h2]
  · intro y hy
    obtain ⟨i, hi, rfl⟩ := List.getElem_of_mem hy
    have hi' : i < k := by simp at hi; omega
    have := h3 i hi'
    rw [List.getElem_take]
    have hl : i < t.length := by omega
    simpa [hl] using this

theorem val_pos (ys : List UInt8) (z : UInt8) (hz : z.toNat < 128) (h0 : z ≠ 0) : 0 < val (ys ++ [z]) := by
  have hz0 : z.toNat ≠ 0 := fun e => h0 (UInt8.toNat_inj.1 (by simpa using e))
  induction ys with
  | nil => simp [val]; omega
  | cons y ys ih => simp only [List.cons_append, val]; omega

theorem ofNat_self (b : UInt8) : UInt8.ofNat b.toNat = b := by simp

theorem var_val : ∀ (ys : List UInt8) (z : UInt8), (∀ y ∈ ys, 128 ≤ y.toNat) → z.toNat < 128 → (ys = [] ∨ z ≠ 0) → var (val (ys ++ [z])) = ys ++ [z]
  | [], z, _, hz, _ => by
    have e : val ([] ++ [z]) = z.toNat := by simp [val]; omega
    rw [e, var_small _ (by omega), ofNat_self]
    rfl
  | y :: ys, z, hy, hz, h0 => by
    have hz0 : z ≠ 0 := by
      rcases h0 with h | h
      · simp at h
      · exact h
    have hp := val_pos ys z hz hz0
    have e : val (y :: ys ++ [z]) = y.toNat % 128 + 128 * val (ys ++ [z]) := rfl
    have hy0 := hy y (by simp)
    have hy1 : y.toNat < 256 := y.toNat_lt
    have hd : val (y :: ys ++ [z]) / 128 = val (ys ++ [z]) := by rw [e]; omega
    have hm : val (y :: ys ++ [z]) % 128 + 128 = y.toNat := by rw [e]; omega
    rw [var_great _ (by rw [e]; omega), hd, hm, ofNat_self, var_val ys z (fun y' h => hy y' (by simp [h])) hz (.inr hz0)]
    rfl

theorem var_last : ∀ (f n : Nat), n ≤ f → 127 < n → ∃ ys z, var n = ys ++ [z] ∧ z ≠ 0
  | 0, n, h, h' => by omega
  | f + 1, n, h, h' => by
    rw [var_great n h']
    by_cases hs : n / 128 ≤ 127
    · rw [var_small _ hs]
      refine ⟨[UInt8.ofNat (n % 128 + 128)], UInt8.ofNat (n / 128), rfl, ?_⟩
      intro e
      have := congrArg UInt8.toNat e
      have h2 : (UInt8.ofNat (n / 128)).toNat = n / 128 := by simp; omega
      rw [h2] at this
      simp at this
      omega
    · obtain ⟨ys, z, e, hz⟩ := var_last f (n / 128) (by omega) (by omega)
      exact ⟨UInt8.ofNat (n % 128 + 128) :: ys, z, by rw [e]; rfl, hz⟩

theorem var_val_not (ys : List UInt8) (n : Nat) (h : ys ≠ []) : var n ≠ ys ++ [0] := by
  intro e
  by_cases hn : n ≤ 127
  · rw [var_small n hn] at e
    have := congrArg List.length e
    simp at this
    exact h this
  · obtain ⟨zs, z, e2, hz⟩ := var_last n n (Nat.le_refl _) (by omega)
    rw [e2] at e
    have := (List.append_inj' e rfl).2
    simp at this
    exact hz this

/-- The bytes up to the first low one are the text of their number, just when they are one byte or the last is not nought. -/
theorem short_iff (f : Nat) (t : List UInt8) (k : Nat) (h : low f t = some k) : var (val (t.take (k + 1))) = t.take (k + 1) ↔ (k = 0 ∨ (t.getD k 0).toNat ≠ 0) := by
  obtain ⟨_, h2, h3, h4⟩ := low_some f t k h
  have e : t.take (k + 1) = t.take k ++ [t.getD k 0] := by
    rw [List.take_succ_eq_append_getElem h2]
    simp [h2]
  have hh : ∀ y ∈ t.take k, 128 ≤ y.toNat := by
    intro y hy
    obtain ⟨i, hi, rfl⟩ := List.getElem_of_mem hy
    have hi' : i < k := by simp at hi; omega
    have := h3 i hi'
    rw [List.getElem_take]
    have hl : i < t.length := by omega
    simpa [hl] using this
  rw [e]
  constructor
  · intro hv
    by_cases hk : k = 0
    · exact .inl hk
    · refine .inr fun h0 => ?_
      have hz : t.getD k 0 = 0 := UInt8.toNat_inj.1 (by simpa using h0)
      rw [hz] at hv
      exact var_val_not (t.take k) _ (by intro hn; simp at hn; rcases hn with hn | hn <;> simp_all) hv
  · intro hv
    refine var_val _ _ hh h4 ?_
    rcases hv with hk | hz
    · left; simp [hk]
    · right; intro hz'; rw [hz'] at hz; simp at hz

theorem val_five (a : List UInt8) (h : a.length ≤ 5) : val a < 34359738368 :=
  Nat.lt_of_lt_of_le (val_lt a) (Nat.pow_le_pow_right (n := 128) (by omega) h)

end Go.Proofs.Ytkfcoldjgijpcap
namespace Go.Proofs.Ytkfcoldjgijpcap

/-- What a byte is worth as a figure; -1 when it is none. -/
def worthI (x : UInt8) : Int := if 48 ≤ x.toNat ∧ x.toNat ≤ 57 then (x.toNat : Int) - 48 else if 97 ≤ x.toNat ∧ x.toNat ≤ 102 then (x.toNat : Int) - 87 else -1

theorem worthI_bd (x : UInt8) : -1 ≤ worthI x ∧ worthI x ≤ 15 := by
  unfold worthI
  split
  · omega
  · split <;> omega

theorem worthI_fig (q : Nat) (h : q < 16) : worthI (fig q) = q := by
  unfold worthI
  rw [fig_toNat q h]
  by_cases h1 : q < 10
  · rw [if_pos h1, if_pos (by omega)]; omega
  · rw [if_neg h1, if_neg (by omega), if_pos (by omega)]; omega

theorem fig_of (x : UInt8) (q : Nat) (h : q < 16) (e : (if q < 10 then 48 + q else 87 + q) = x.toNat) : fig q = x := by
  apply UInt8.toNat_inj.1
  rw [fig_toNat q h, e]

theorem worthI_none (x : UInt8) (h : ∀ q, q < 16 → fig q ≠ x) : worthI x = -1 := by
  unfold worthI
  by_cases h1 : 48 ≤ x.toNat ∧ x.toNat ≤ 57
  · exact absurd (fig_of x (x.toNat - 48) (by omega) (by rw [if_pos (by omega)]; omega)) (h _ (by omega))
  · rw [if_neg h1]
    by_cases h2 : 97 ≤ x.toNat ∧ x.toNat ≤ 102
    · exact absurd (fig_of x (x.toNat - 87) (by omega) (by rw [if_neg (by omega)]; omega)) (h _ (by omega))
    · rw [if_neg h2]

/-- The bytes that figures make, two by two. -/
def pairs : List Nat → List UInt8
  | a :: b :: r => UInt8.ofNat (16 * a + b) :: pairs r
  | _ => []

theorem pairs_snoc : ∀ (k : Nat) (qs : List Nat), 2 * k + 1 < qs.length → pairs (qs.take (2 * k + 2)) = pairs (qs.take (2 * k)) ++ [UInt8.ofNat (16 * qs.getD (2 * k) 0 + qs.getD (2 * k + 1) 0)]
  | 0, a :: b :: r, _ => rfl
  | 0, [], h => by simp at h
  | 0, [a], h => by simp at h
  | k + 1, [], h => by simp at h
  | k + 1, [a], h => by simp at h
  | k + 1, a :: b :: r, h => by
    have ih := pairs_snoc k r (by simp at h; omega)
    have e1 : 2 * (k + 1) + 2 = (2 * k + 2) + 1 + 1 := by omega
    have e2 : 2 * (k + 1) = 2 * k + 1 + 1 := by omega
    rw [e1, List.take_succ_cons, List.take_succ_cons]
    show UInt8.ofNat (16 * a + b) :: pairs (r.take (2 * k + 2)) = _
    rw [ih, e2, List.take_succ_cons, List.take_succ_cons]
    rfl

theorem pairs_length : ∀ (k : Nat) (qs : List Nat), 2 * k ≤ qs.length → (pairs (qs.take (2 * k))).length = k
  | 0, _, _ => by simp [pairs]
  | k + 1, qs, h => by
    have ih := pairs_length k qs (by omega)
    have := pairs_snoc k qs (by omega)
    have e : 2 * (k + 1) = 2 * k + 2 := by omega
    rw [e, this, List.length_append, ih]
    rfl

theorem pairs_next (qs : List Nat) (i : Nat) (he : i % 2 = 0) (h : i + 1 < qs.length) : pairs (qs.take (i + 2)) = pairs (qs.take i) ++ [UInt8.ofNat (16 * qs.getD i 0 + qs.getD (i + 1) 0)] := by
  have e : i = 2 * (i / 2) := by omega
  have := pairs_snoc (i / 2) qs (by omega)
  rw [← e] at this
  exact this

theorem pairs_le (qs : List Nat) (i : Nat) (he : i % 2 = 0) (h : i ≤ qs.length) : (pairs (qs.take i)).length ≤ i := by
  have e : i = 2 * (i / 2) := by omega
  have := pairs_length (i / 2) qs (by omega)
  rw [← e] at this
  omega

theorem getD_mem (qs : List Nat) (i : Nat) (h : i < qs.length) : qs.getD i 0 ∈ qs := by
  rw [List.getD_eq_getElem?_getD, List.getElem?_eq_getElem h]
  exact List.getElem_mem h

/-- The byte at a place of a text that is figures and then something else. -/
theorem worth_at (s : ByteArray) (qs : List Nat) (tail : List UInt8) (h1 : ∀ q ∈ qs, q < 16) (h2 : s.data.toList = qs.map fig ++ tail) (i : Nat) (hi : i < s.size) (h : i < qs.length) : worthI s[i] = qs.getD i 0 := by
  rw [byte_at s i hi _ (by rw [h2]; exact at_fig qs tail i h)]
  exact worthI_fig _ (h1 _ (getD_mem qs i h))

theorem worth_end (s : ByteArray) (qs : List Nat) (tail : List UInt8) (h2 : s.data.toList = qs.map fig ++ tail) (h3 : ∀ x r, tail = x :: r → ∀ q, q < 16 → fig q ≠ x) (hi : qs.length < s.size) : worthI (s[qs.length]'hi) = -1 := by
  have hl := congrArg List.length h2
  cases ht : tail with
  | nil => rw [ht] at hl; simp at hl; omega
  | cons x r =>
    rw [byte_at s qs.length hi x (by rw [h2, ht]; exact at_tail qs x r)]
    exact worthI_none x (h3 x r ht)

end Go.Proofs.Ytkfcoldjgijpcap
namespace Go.Proofs.Ytkfcoldjgijpcap

theorem var_formed : ∀ (f n : Nat), n ≤ f → ∃ (ys : List UInt8) (z : UInt8), var n = ys ++ [z] ∧ (∀ y ∈ ys, 128 ≤ y.toNat) ∧ z.toNat < 128 ∧ (ys = [] ∨ z.toNat ≠ 0) ∧ val (ys ++ [z]) = n
  | f, n, hf => by
    by_cases h : n ≤ 127
    · refine ⟨[], UInt8.ofNat n, by rw [var_small n h]; rfl, by simp, ?_, .inl rfl, ?_⟩
      · rw [UInt8.toNat_ofNat', Nat.mod_eq_of_lt (by omega)]; omega
      · simp only [List.nil_append, val, UInt8.toNat_ofNat']
        rw [Nat.mod_eq_of_lt (by omega : n < 2 ^ 8)]
        omega
    · match f, hf with
      | 0, hf => omega
      | f + 1, hf =>
        obtain ⟨ys, z, h1, h2, h3, h4, h5⟩ := var_formed f (n / 128) (by omega)
        have hb : (UInt8.ofNat (n % 128 + 128)).toNat = n % 128 + 128 := by rw [UInt8.toNat_ofNat', Nat.mod_eq_of_lt (by omega)]
        refine ⟨UInt8.ofNat (n % 128 + 128) :: ys, z, by rw [var_great n (by omega), h1]; rfl, ?_, h3, .inr ?_, ?_⟩
        · intro y hy
          rcases List.mem_cons.1 hy with rfl | hy
          · omega
          · exact h2 y hy
        · rcases h4 with rfl | h4
          · simp only [List.nil_append, val] at h5
            omega
          · exact h4
        · show (UInt8.ofNat (n % 128 + 128)).toNat % 128 + 128 * val (ys ++ [z]) = n
          rw [hb, h5]
          omega

theorem var_len : ∀ (m n : Nat), n < 128 ^ (m + 1) → (var n).length ≤ m + 1
  | 0, n, h => by rw [var_small n (by omega)]; simp
  | m + 1, n, h => by
    by_cases hs : n ≤ 127
    · rw [var_small n hs]; simp
    · rw [var_great n (by omega), List.length_cons]
      have := var_len m (n / 128) (by rw [Nat.div_lt_iff_lt_mul (by omega)]; rw [Nat.pow_succ] at h; exact h)
      omega

theorem low_of : ∀ (f : Nat) (ys : List UInt8) (z : UInt8) (r : List UInt8), (∀ y ∈ ys, 128 ≤ y.toNat) → z.toNat < 128 → ys.length < f → low f (ys ++ z :: r) = some ys.length
  | 0, _, _, _, _, _, h => by omega
  | f + 1, [], z, r, _, hz, _ => by simp [low, hz]
  | f + 1, y :: ys, z, r, hy, hz, hl => by
    have h1 := hy y (by simp)
    have h2 := low_of f ys z r (fun x hx => hy x (by simp [hx])) hz (by simp at hl; omega)
    show (if y.toNat < 128 then some 0 else (low f (ys ++ z :: r)).map (· + 1)) = _
    rw [if_neg (by omega), h2]
    rfl

/-- The bytes of a number, whatever follows them: where they end, and what they say. -/
theorem var_read (n : Nat) (h : n ≤ 1000000000) (r : List UInt8) : ∃ k, low 5 (var n ++ r) = some k ∧ k + 1 = (var n).length ∧ val ((var n ++ r).take (k + 1)) = n ∧ (k = 0 ∨ ((var n ++ r).getD k 0).toNat ≠ 0) := by
  obtain ⟨ys, z, h1, h2, h3, h4, h5⟩ := var_formed n n (Nat.le_refl _)
  have hl := var_len 4 n (by have : (128 : Nat) ^ 5 = 34359738368 := by decide
                             omega)
  rw [h1] at hl
  simp at hl
  refine ⟨ys.length, ?_, by rw [h1]; simp, ?_, ?_⟩
  · rw [h1, List.append_assoc]
    exact low_of 5 ys z r h2 h3 (by omega)
  · rw [List.take_append_of_le_length (by rw [h1]; simp), h1, List.take_of_length_le (by simp), h5]
  · rcases h4 with rfl | h4
    · exact .inl rfl
    · right
      rw [h1]
      simp
      exact fun e => h4 (by simp [e])

theorem hex_back : ∀ (l : List UInt8), ∃ qs : List Nat, (∀ q ∈ qs, q < 16) ∧ hexOf l = qs.map fig ∧ pairs qs = l
  | [] => ⟨[], by simp, rfl, rfl⟩
  | b :: l => by
    obtain ⟨qs, h1, h2, h3⟩ := hex_back l
    have hb := b.toNat_lt
    refine ⟨b.toNat / 16 :: b.toNat % 16 :: qs, ?_, ?_, ?_⟩
    · intro q hq
      rcases List.mem_cons.1 hq with rfl | hq
      · omega
      · rcases List.mem_cons.1 hq with rfl | hq
        · omega
        · exact h1 q hq
    · show fig (b.toNat / 16) :: fig (b.toNat % 16) :: hexOf l = _
      rw [h2]
      rfl
    · show UInt8.ofNat (16 * (b.toNat / 16) + b.toNat % 16) :: pairs qs = b :: l
      rw [h3, Nat.div_add_mod, ofNat_self]

theorem dec_back : ∀ (f m : Nat), m ≤ f → ∃ qs : List Nat, (∀ q ∈ qs, q < 10) ∧ qs ≠ [] ∧ Lib.decDigits m = qs.map fig ∧ valD qs = m
  | f, m, hf => by
    by_cases h : m < 10
    · refine ⟨[m], by simpa using h, by simp, ?_, by simp [valD, valR]⟩
      rw [Lib.decDigits_one h]
      simp [fig, h]
    · match f, hf with
      | 0, hf => omega
      | f + 1, hf =>
        obtain ⟨qs, h1, h2, h3, h4⟩ := dec_back f (m / 10) (by omega)
        refine ⟨qs ++ [m % 10], ?_, by simp, ?_, ?_⟩
        · intro q hq
          rcases List.mem_append.1 hq with hq | hq
          · exact h1 q hq
          · simp at hq
            omega
        · rw [← digs_pos m (by omega), digs_step m (by omega), digs_pos (m / 10) (by omega), h3]
          simp
        · rw [valD_snoc, h4]
          omega

end Go.Proofs.Ytkfcoldjgijpcap
namespace Go.Proofs.Ytkfcoldjgijpcap

def Plain (b : UInt8) : Prop := 32 ≤ b.toNat ∧ b.toNat ≤ 126

/-- What stands from b on, up to i. -/
def seg (l : List UInt8) (b i : Nat) : List UInt8 := (l.drop b).take (i - b)

/-- What is still to come of the parts. -/
def rem (l : List UInt8) (b i : Nat) : List (List UInt8) := if i ≤ l.length then Lib.fieldsGo (seg l b i) (l.drop i) else []

theorem isSp_plain (b : UInt8) (h : Plain b) : Lib.isSp b = decide (b.toNat = 32) := by
  have hne : ∀ n : UInt8, n.toNat < 32 → (b == n) = false := by
    intro n hn
    rw [beq_eq_false_iff_ne]
    intro e
    have := h.1
    rw [e] at this
    omega
  unfold Lib.isSp
  rw [hne 9 (by decide), hne 10 (by decide), hne 11 (by decide), hne 12 (by decide), hne 13 (by decide)]
  simp only [Bool.false_or]
  by_cases e : b = 32
  · subst e; rfl
  · have h1 : (b == 32) = false := by rw [beq_eq_false_iff_ne]; exact e
    rw [h1, decide_eq_false]
    intro h2
    exact e (UInt8.toNat_inj.1 h2)

theorem rem_start (l : List UInt8) : rem l 0 0 = Lib.fields l := by
  unfold rem seg Lib.fields
  rw [if_pos (Nat.zero_le _)]
  simp

theorem seg_empty (l : List UInt8) (i : Nat) : seg l i i = [] := by simp [seg]

theorem seg_snoc (l : List UInt8) (b i : Nat) (hb : b ≤ i) (h : i < l.length) : seg l b (i + 1) = seg l b i ++ [l[i]] := by
  unfold seg
  have e : i + 1 - b = (i - b) + 1 := by omega
  have hl : i - b < (l.drop b).length := by simp; omega
  rw [e, List.take_succ_eq_append_getElem hl]
  have e2 : (l.drop b)[i - b] = l[i] := by
    rw [List.getElem_drop]
    congr 1
    omega
  rw [e2]

theorem seg_ne (l : List UInt8) (b i : Nat) (hb : b < i) (h : i ≤ l.length) : seg l b i ≠ [] := by
  intro e
  have := congrArg List.length e
  unfold seg at this
  simp at this
  omega

theorem rem_more (l : List UInt8) (b i : Nat) (hb : b ≤ i) (h : i < l.length) (hp : Plain l[i]) (hs : l[i].toNat ≠ 32) : rem l b i = rem l b (i + 1) := by
  unfold rem
  rw [if_pos (by omega), if_pos (by omega), List.drop_eq_getElem_cons h, Lib.fieldsGo_more _ _ _ (by rw [isSp_plain _ hp]; exact decide_eq_false hs), seg_snoc l b i hb h]

theorem rem_part (l : List UInt8) (b i : Nat) (hb : b < i) (h : i < l.length) (hp : Plain l[i]) (hs : l[i].toNat = 32) : rem l b i = seg l b i :: rem l (i + 1) (i + 1) := by
  unfold rem
  rw [if_pos (by omega), if_pos (by omega), List.drop_eq_getElem_cons h, Lib.fieldsGo_end _ _ _ (by rw [isSp_plain _ hp]; exact decide_eq_true hs) (seg_ne l b i hb (by omega)), seg_empty]

theorem rem_blank (l : List UInt8) (i : Nat) (h : i < l.length) (hp : Plain l[i]) (hs : l[i].toNat = 32) : rem l i i = rem l (i + 1) (i + 1) := by
  unfold rem
  rw [if_pos (by omega), if_pos (by omega), List.drop_eq_getElem_cons h, seg_empty, Lib.fieldsGo_sp _ _ (by rw [isSp_plain _ hp]; exact decide_eq_true hs), seg_empty]

theorem rem_last (l : List UInt8) (b : Nat) (hb : b < l.length) : rem l b l.length = [seg l b l.length] := by
  unfold rem
  rw [if_pos (Nat.le_refl _), List.drop_of_length_le (Nat.le_refl _)]
  have h := seg_ne l b l.length hb (Nat.le_refl _)
  unfold Lib.fieldsGo
  rw [if_neg (by rw [List.isEmpty_iff]; exact h)]

theorem rem_none (l : List UInt8) : rem l l.length l.length = [] := by
  unfold rem
  rw [if_pos (Nat.le_refl _), List.drop_of_length_le (Nat.le_refl _), seg_empty]
  rfl

theorem rem_over (l : List UInt8) (b : Nat) : rem l b (l.length + 1) = [] := by
  unfold rem
  rw [if_neg (by omega)]

theorem fieldsGo_le : ∀ (l cur : List UInt8), ∀ f ∈ Lib.fieldsGo cur l, f.length ≤ cur.length + l.length
  | [], cur, f, h => by
    unfold Lib.fieldsGo at h
    split at h
    · simp at h
    · simp at h
      subst h
      simp
  | b :: l, cur, f, h => by
    unfold Lib.fieldsGo at h
    split at h
    · split at h
      · have := fieldsGo_le l [] f h
        simp at this ⊢
        omega
      · rcases List.mem_cons.1 h with rfl | h
        · exact Nat.le_add_right _ _
        · have := fieldsGo_le l [] f h
          simp at this ⊢
          omega
    · have := fieldsGo_le l (cur ++ [b]) f h
      simp at this ⊢
      omega

theorem cnt_le : ∀ (l : List UInt8) (ws : Bool), Lib.cntF ws l ≤ l.length
  | [], _ => by simp [Lib.cntF]
  | b :: l, ws => by
    have := cnt_le l (Lib.isSp b)
    simp only [Lib.cntF, List.length_cons]
    split <;> omega

theorem fields_le (l : List UInt8) (i : Nat) : ((Lib.fields l).getD i []).length ≤ l.length := by
  by_cases h : i < (Lib.fields l).length
  · have h1 := fieldsGo_le l [] ((Lib.fields l)[i]) (List.getElem_mem h)
    have e : (Lib.fields l).getD i [] = (Lib.fields l)[i] := by simp [h]
    rw [e]
    simpa using h1
  · have e : (Lib.fields l).getD i [] = [] := by simp [List.getElem?_eq_none (by omega : (Lib.fields l).length ≤ i)]
    rw [e]
    simp

/-- All bytes are plain, or there is a first one that is not. -/
theorem plain_or (l : List UInt8) : (∀ i (h : i < l.length), Plain l[i]) ∨ ∃ J, ∃ hJ : J < l.length, (∀ i (h : i < J), Plain (l[i]'(by omega))) ∧ ¬ Plain l[J] := by
  induction l with
  | nil => left; intro i h; simp at h
  | cons b l ih =>
    by_cases hb : 32 ≤ b.toNat ∧ b.toNat ≤ 126
    · rcases ih with h | ⟨J, hJ, h1, h2⟩
      · left
        intro i hi
        cases i with
        | zero => exact hb
        | succ i => exact h i (by simpa using hi)
      · right
        refine ⟨J + 1, by simpa using hJ, ?_, h2⟩
        intro i hi
        cases i with
        | zero => exact hb
        | succ i => exact h1 i (by omega)
    · right
      exact ⟨0, by simp, by intro i hi; omega, hb⟩

end Go.Proofs.Ytkfcoldjgijpcap
namespace Go.Proofs.Ytkfcoldjgijpcap
open Go.RowKit

/-- A text cut at every sign x; cur is what stands ahead. -/
def cutAt (x : UInt8) : List UInt8 → List UInt8 → List (List UInt8)
  | cur, [] => [cur]
  | cur, b :: l => if b = x then cur :: cutAt x [] l else cutAt x (cur ++ [b]) l
/-- Parts put together, x between. -/
def joinAt (x : UInt8) : List (List UInt8) → List UInt8
  | [] => []
  | p :: t => if t = [] then p else p ++ x :: joinAt x t
theorem joinAt_one (x : UInt8) (p : List UInt8) : joinAt x [p] = p := by simp [joinAt]
theorem joinAt_more (x : UInt8) (p : List UInt8) (t : List (List UInt8)) (h : t ≠ []) : joinAt x (p :: t) = p ++ x :: joinAt x t := by simp [joinAt, h]
theorem cutAt_ne (x : UInt8) : ∀ (l cur : List UInt8), cutAt x cur l ≠ []
  | [], cur => by simp [cutAt]
  | b :: l, cur => by
    unfold cutAt
    split
    · simp
    · exact cutAt_ne x l _
/-- What is cut, put together again, is what it was. -/
theorem joinAt_cut (x : UInt8) : ∀ (l cur : List UInt8), joinAt x (cutAt x cur l) = cur ++ l
  | [], cur => by simp [cutAt, joinAt_one]
  | b :: l, cur => by
    unfold cutAt
    split
    · next h => rw [joinAt_more x _ _ (cutAt_ne x l []), joinAt_cut x l [], h]; rfl
    · rw [joinAt_cut x l _, List.append_assoc]; rfl
theorem cutAt_last (x : UInt8) : ∀ (p cur : List UInt8), x ∉ p → cutAt x cur p = [cur ++ p]
  | [], cur, _ => by simp [cutAt]
  | b :: p, cur, h => by
    unfold cutAt
    rw [if_neg (fun e => h (by rw [e]; exact List.mem_cons_self)), cutAt_last x p _ (fun e => h (List.mem_cons_of_mem _ e)), List.append_assoc]
    rfl
theorem cutAt_cons (x b : UInt8) (l cur : List UInt8) : cutAt x cur (b :: l) = if b = x then cur :: cutAt x [] l else cutAt x (cur ++ [b]) l := rfl
theorem cutAt_part (x : UInt8) (r : List UInt8) : ∀ (p cur : List UInt8), x ∉ p → cutAt x cur (p ++ x :: r) = (cur ++ p) :: cutAt x [] r
  | [], cur, _ => by simp [cutAt]
  | b :: p, cur, h => by
    rw [List.cons_append, cutAt_cons, if_neg (fun e => h (by rw [e]; exact List.mem_cons_self)), cutAt_part x r p _ (fun e => h (List.mem_cons_of_mem _ e)), List.append_assoc]
    rfl
/-- Parts without x, put together and cut. -/
theorem cut_joinAt (x : UInt8) : ∀ (ps : List (List UInt8)), ps ≠ [] → (∀ p ∈ ps, x ∉ p) → cutAt x [] (joinAt x ps) = ps
  | [], h, _ => absurd rfl h
  | [p], _, hp => by rw [joinAt_one, cutAt_last x p [] (hp p (by simp))]; rfl
  | p :: q :: t, _, hp => by
    rw [joinAt_more x p (q :: t) (by simp), cutAt_part x _ p [] (hp p (by simp)), cut_joinAt x (q :: t) (by simp) (fun y hy => hp y (List.mem_cons_of_mem _ hy))]
    rfl
theorem cutAt_count (x : UInt8) : ∀ (l cur : List UInt8), (cutAt x cur l).length ≤ l.length + 1
  | [], cur => by simp [cutAt]
  | b :: l, cur => by
    unfold cutAt
    split
    · have := cutAt_count x l []
      simp
      omega
    · have := cutAt_count x l (cur ++ [b])
      simp
      omega
/-- What is still to come where a part began at b and i is looked at. -/
def remC (x : UInt8) (l : List UInt8) (b i : Nat) : List (List UInt8) := if i ≤ l.length then cutAt x (seg l b i) (l.drop i) else []
theorem remC_start (x : UInt8) (l : List UInt8) : remC x l 0 0 = cutAt x [] l := by simp [remC, seg]
theorem remC_more (x : UInt8) (l : List UInt8) (b i : Nat) (hb : b ≤ i) (h : i < l.length) (hne : l[i] ≠ x) : remC x l b i = remC x l b (i + 1) := by
  unfold remC
  rw [if_pos (by omega), if_pos (by omega), List.drop_eq_getElem_cons h, cutAt, if_neg hne, seg_snoc l b i hb h]
theorem remC_part (x : UInt8) (l : List UInt8) (b i : Nat) (h : i < l.length) (he : l[i] = x) : remC x l b i = seg l b i :: remC x l (i + 1) (i + 1) := by
  unfold remC
  rw [if_pos (by omega), if_pos (by omega), List.drop_eq_getElem_cons h, cutAt, if_pos he, seg_empty]
theorem remC_last (x : UInt8) (l : List UInt8) (b : Nat) : remC x l b l.length = [seg l b l.length] := by
  unfold remC
  rw [if_pos (Nat.le_refl _), List.drop_length]
  rfl
theorem remC_over (x : UInt8) (l : List UInt8) (b : Nat) : remC x l b (l.length + 1) = [] := by
  unfold remC
  rw [if_neg (by omega)]

/-- Figures are figures. -/
theorem dec_mem (m : Nat) (x : UInt8) (h : x ∈ Lib.decDigits m) : 48 ≤ x.toNat ∧ x.toNat ≤ 57 := by
  obtain ⟨qs, h1, _, h3, _⟩ := dec_back m m (Nat.le_refl _)
  rw [h3, List.mem_map] at h
  obtain ⟨q, hq, rfl⟩ := h
  have := h1 q hq
  rw [digit_toNat q this]
  omega
theorem dec_no46 (m : Nat) : (46 : UInt8) ∉ Lib.decDigits m := fun h => by have := dec_mem m _ h; revert this; decide
theorem dec_no47 (m : Nat) : (47 : UInt8) ∉ Lib.decDigits m := fun h => by have := dec_mem m _ h; revert this; decide
theorem dec_inj (a b : Nat) (h : Lib.decDigits a = Lib.decDigits b) : a = b := by
  obtain ⟨qs, h1, _, h3, h4⟩ := dec_back a a (Nat.le_refl _)
  obtain ⟨rs, k1, _, k3, k4⟩ := dec_back b b (Nat.le_refl _)
  have e : ∀ l : List Nat, (∀ q ∈ l, q < 10) → (l.map fig).map (fun x => x.toNat - 48) = l := by
    intro l hl
    rw [List.map_map]
    refine (List.map_congr_left (g := id) fun q hq => ?_).trans (List.map_id l)
    show (fig q).toNat - 48 = q
    rw [digit_toNat q (hl q hq)]
    omega
  have hq : qs = rs := by rw [← e qs h1, ← e rs k1, ← h3, ← k3, h]
  rw [← h4, ← k4, hq]
theorem dec_ne (m : Nat) : Lib.decDigits m ≠ [] := by
  obtain ⟨qs, _, h2, h3, _⟩ := dec_back m m (Nat.le_refl _)
  rw [h3]
  simpa using h2

/-- The four numbers of an address, and its text. -/
def addrL (a : Nat) : List UInt8 := joinAt 46 [Lib.decDigits (a / 16777216), Lib.decDigits (a / 65536 % 256), Lib.decDigits (a / 256 % 256), Lib.decDigits (a % 256)]
def addrP (a : Nat) : ByteArray := ⟨(addrL a).toArray⟩
theorem cut_addr (a : Nat) : cutAt 46 [] (addrL a) = [Lib.decDigits (a / 16777216), Lib.decDigits (a / 65536 % 256), Lib.decDigits (a / 256 % 256), Lib.decDigits (a % 256)] := by
  refine cut_joinAt 46 _ (by simp) fun p hp => ?_
  simp only [List.mem_cons, List.not_mem_nil, or_false] at hp
  rcases hp with rfl | rfl | rfl | rfl <;> exact dec_no46 _
theorem addr_of (n0 n1 n2 n3 : Nat) (h1 : n1 < 256) (h2 : n2 < 256) (h3 : n3 < 256) : addrL (256 * (256 * (256 * n0 + n1) + n2) + n3) = joinAt 46 [Lib.decDigits n0, Lib.decDigits n1, Lib.decDigits n2, Lib.decDigits n3] := by
  unfold addrL
  have e0 : (256 * (256 * (256 * n0 + n1) + n2) + n3) / 16777216 = n0 := by omega
  have e1 : (256 * (256 * (256 * n0 + n1) + n2) + n3) / 65536 % 256 = n1 := by omega
  have e2 : (256 * (256 * (256 * n0 + n1) + n2) + n3) / 256 % 256 = n2 := by omega
  have e3 : (256 * (256 * (256 * n0 + n1) + n2) + n3) % 256 = n3 := by omega
  rw [e0, e1, e2, e3]
theorem addr_four (a : Nat) : 256 * (256 * (256 * (a / 16777216) + a / 65536 % 256) + a / 256 % 256) + a % 256 = a := by omega
theorem addrL_inj (a b : Nat) (h : addrL a = addrL b) : a = b := by
  have e := cut_addr a
  rw [h, cut_addr b] at e
  simp only [List.cons.injEq, and_true] at e
  have e0 := dec_inj _ _ e.1
  have e1 := dec_inj _ _ e.2.1
  have e2 := dec_inj _ _ e.2.2.1
  have e3 := dec_inj _ _ e.2.2.2
  rw [← addr_four a, ← addr_four b, e0, e1, e2, e3]
theorem addrP_inj (a b : Nat) (h : addrP a = addrP b) : a = b := by
  refine addrL_inj a b ?_
  have := congrArg (fun t : ByteArray => t.data.toList) h
  simpa [addrP] using this
theorem joinAt_four (x : UInt8) (a b c d : List UInt8) : joinAt x [a, b, c, d] = a ++ x :: (b ++ x :: (c ++ x :: d)) := by
  rw [joinAt_more _ _ _ (by simp), joinAt_more _ _ _ (by simp), joinAt_more _ _ _ (by simp), joinAt_one]
theorem joinAt_two (x : UInt8) (a b : List UInt8) : joinAt x [a, b] = a ++ x :: b := by
  rw [joinAt_more _ _ _ (by simp), joinAt_one]
theorem addrL_length (a : Nat) (h : a ≤ 4294967295) : (addrL a).length ≤ 15 := by
  unfold addrL
  rw [joinAt_four]
  have h0 := dec_length 3 (a / 16777216) (by omega) (by omega)
  have h1 := dec_length 3 (a / 65536 % 256) (by omega) (by omega)
  have h2 := dec_length 3 (a / 256 % 256) (by omega) (by omega)
  have h3 := dec_length 3 (a % 256) (by omega) (by omega)
  simp
  omega
theorem addrP_size (a : Nat) (h : a ≤ 4294967295) : (addrP a).size ≤ 15 := by
  show (addrL a).toArray.size ≤ 15
  rw [List.size_toArray]
  exact addrL_length a h
theorem addr_no47 (a : Nat) : (47 : UInt8) ∉ addrL a := by
  unfold addrL
  rw [joinAt_four]
  have h := dec_no47
  simp [h]
/-- Four parts that are numbers of one byte each make an address; else there is none. -/
theorem addr_parts (l : List UInt8) (p0 p1 p2 p3 : List UInt8) (hc : cutAt 46 [] l = [p0, p1, p2, p3]) (n0 n1 n2 n3 : Nat) (h0 : n0 < 256) (h1 : n1 < 256) (h2 : n2 < 256) (h3 : n3 < 256) (e0 : Lib.decDigits n0 = p0) (e1 : Lib.decDigits n1 = p1) (e2 : Lib.decDigits n2 = p2) (e3 : Lib.decDigits n3 = p3) :
    ∃ a, a ≤ 4294967295 ∧ l = addrL a ∧ a = 256 * (256 * (256 * n0 + n1) + n2) + n3 := by
  refine ⟨_, ?_, ?_, rfl⟩
  · omega
  · rw [addr_of n0 n1 n2 n3 h1 h2 h3, e0, e1, e2, e3, ← hc, joinAt_cut]
    rfl

/-- A prefix' text. -/
def prefL (a n : Nat) : List UInt8 := joinAt 47 [addrL a, Lib.decDigits n]
def prefP (a n : Nat) : ByteArray := ⟨(prefL a n).toArray⟩
theorem cut_pref (a n : Nat) : cutAt 47 [] (prefL a n) = [addrL a, Lib.decDigits n] := by
  refine cut_joinAt 47 _ (by simp) fun p hp => ?_
  simp only [List.mem_cons, List.not_mem_nil, or_false] at hp
  rcases hp with rfl | rfl
  · exact addr_no47 a
  · exact dec_no47 n
theorem prefL_inj (a n b m : Nat) (h : prefL a n = prefL b m) : a = b ∧ n = m := by
  have e := cut_pref a n
  rw [h, cut_pref b m] at e
  simp only [List.cons.injEq, and_true] at e
  exact ⟨(addrL_inj _ _ e.1).symm, (dec_inj _ _ e.2).symm⟩
theorem prefP_list (a n : Nat) : prefP a n = addrP a ++ (⟨#[47]⟩ ++ ⟨(Lib.decDigits n).toArray⟩) := by
  unfold prefP prefL addrP
  rw [joinAt_two]
  apply ByteArray.ext
  apply Array.ext'
  simp
theorem prefP_size (a n : Nat) (ha : a ≤ 4294967295) (hn : n ≤ 32) : (prefP a n).size ≤ 20 := by
  show (prefL a n).toArray.size ≤ 20
  rw [List.size_toArray]
  unfold prefL
  rw [joinAt_two]
  have h0 := addrL_length a ha
  have h1 := dec_length 3 n (by omega) (by omega)
  simp
  omega
/-- How many addresses a prefix has. -/
def sizeP (n : Nat) : Nat := 2 ^ (32 - n)
theorem sizeP_pos (n : Nat) : 1 ≤ sizeP n := Nat.one_le_two_pow
theorem sizeP_le (n : Nat) : sizeP n ≤ 4294967296 := Nat.pow_le_pow_right (n := 2) (by omega) (show 32 - n ≤ 32 by omega)
/-- The first address of the prefix. -/
def firstP (a n : Nat) : Nat := a - a % sizeP n
theorem firstP_le (a n : Nat) : firstP a n ≤ a := Nat.sub_le _ _
theorem firstP_mod (a n : Nat) : firstP a n % sizeP n = 0 := by
  unfold firstP
  have h := Nat.div_add_mod a (sizeP n)
  have e : a - a % sizeP n = sizeP n * (a / sizeP n) := by omega
  rw [e]
  exact Nat.mul_mod_right _ _
theorem firstP_first (a n : Nat) : firstP (firstP a n) n = firstP a n := by
  have h := firstP_mod a n
  show firstP a n - firstP a n % sizeP n = _
  rw [h]
  rfl

end Go.Proofs.Ytkfcoldjgijpcap
namespace Go.Proofs.Ytkfcoldjgijpcap
open Go.RowKit

/-- A text has the sign, and then this is what stands ahead of it and behind it; or it has it not. -/
theorem one_cases (x : UInt8) : ∀ l : List UInt8, (Lib.index l [x] = -1 ∧ x ∉ l) ∨ ∃ p r, l = p ++ x :: r ∧ x ∉ p ∧ Lib.index l [x] = (p.length : Int)
  | [] => .inl ⟨by simp [Lib.index], by simp⟩
  | b :: l => by
    by_cases h : b = x
    · subst h
      exact .inr ⟨[], l, rfl, by simp, by rw [Lib.index]; simp [List.isPrefixOf]⟩
    · have hp : ([x] : List UInt8).isPrefixOf (b :: l) = false := by simp [List.isPrefixOf, Ne.symm h]
      have hix : Lib.index (b :: l) [x] = if Lib.index l [x] == -1 then -1 else Lib.index l [x] + 1 := by rw [Lib.index, hp]; simp
      rcases one_cases x l with ⟨h1, h2⟩ | ⟨p, r, h1, h2, h3⟩
      · refine .inl ⟨by rw [hix, if_pos (beq_iff_eq.2 h1)], ?_⟩
        rw [List.mem_cons]
        rintro (e | e)
        · exact h e.symm
        · exact h2 e
      · refine .inr ⟨b :: p, r, by rw [h1]; rfl, ?_, ?_⟩
        · rw [List.mem_cons]
          rintro (e | e)
          · exact h e.symm
          · exact h2 e
        · rw [hix, if_neg (fun e => by have := beq_iff_eq.1 e; omega), h3]
          simp
theorem cutAt_pos (x : UInt8) (cur l : List UInt8) : 1 ≤ (cutAt x cur l).length := by
  have := cutAt_ne x l cur
  exact List.length_pos_iff.2 this
theorem splitK_hit (x : UInt8) (k : Nat) (p r : List UInt8) (h : Lib.index (p ++ x :: r) [x] = (p.length : Int)) : Lib.splitK [x] 0 (k + 1) (p ++ x :: r) = p :: Lib.splitK [x] 0 k r := by
  have hm : ¬ (Lib.index (p ++ x :: r) [x] == -1) = true := fun e => by have := beq_iff_eq.1 e; omega
  rw [Lib.splitK, if_neg hm, h]
  simp
/-- What is cut at k places at most: all of it where there are not more, else k + 1 parts. -/
theorem splitK_cut (x : UInt8) : ∀ (k : Nat) (l : List UInt8), ((cutAt x [] l).length ≤ k + 1 → Lib.splitK [x] 0 k l = cutAt x [] l) ∧ (Lib.splitK [x] 0 k l).length = min (k + 1) (cutAt x [] l).length
  | 0, l => by
    have hpos := cutAt_pos x [] l
    refine ⟨fun h => ?_, ?_⟩
    · rcases one_cases x l with ⟨_, h2⟩ | ⟨p, r, rfl, h2, _⟩
      · rw [cutAt_last x l [] h2]; rfl
      · rw [cutAt_part x r p [] h2, List.length_cons] at h
        have := cutAt_pos x [] r
        omega
    · show 1 = _
      omega
  | k + 1, l => by
    rcases one_cases x l with ⟨h1, h2⟩ | ⟨p, r, rfl, h2, h3⟩
    · have e : Lib.splitK [x] 0 (k + 1) l = [l] := by rw [Lib.splitK, if_pos (beq_iff_eq.2 h1)]
      rw [e, cutAt_last x l [] h2]
      exact ⟨fun _ => rfl, by simp⟩
    · obtain ⟨ih1, ih2⟩ := splitK_cut x k r
      rw [splitK_hit x k p r h3, cutAt_part x r p [] h2]
      refine ⟨fun h => ?_, ?_⟩
      · rw [ih1 (by simpa using h)]; rfl
      · rw [List.length_cons, List.length_cons, ih2]
        omega
/-- A text split into five parts at most: four of them are just those that it has. -/
theorem split_five (x : UInt8) (s : ByteArray) : (Lib.splitB ⟨#[x]⟩ 0 (min 5 (s.size + 1) - 1) s).length ≤ 5 ∧
    ((cutAt x [] s.data.toList).length = 4 → (Lib.splitB ⟨#[x]⟩ 0 (min 5 (s.size + 1) - 1) s).map (·.data.toList) = cutAt x [] s.data.toList) ∧
    ((Lib.splitB ⟨#[x]⟩ 0 (min 5 (s.size + 1) - 1) s).length = 4 → (cutAt x [] s.data.toList).length = 4) := by
  have hd := Lib.splitB_data ⟨#[x]⟩ 0 (min 5 (s.size + 1) - 1) s
  have hl : s.data.toList.length = s.size := by simp
  have hc := cutAt_count x s.data.toList []
  have e : (⟨#[x]⟩ : ByteArray).data.toList = [x] := rfl
  rw [e] at hd
  have hlen : (Lib.splitB ⟨#[x]⟩ 0 (min 5 (s.size + 1) - 1) s).length = (Lib.splitK [x] 0 (min 5 (s.size + 1) - 1) s.data.toList).length := by rw [← hd, List.length_map]
  obtain ⟨h1, h2⟩ := splitK_cut x (min 5 (s.size + 1) - 1) s.data.toList
  refine ⟨?_, fun h => ?_, fun h => ?_⟩
  · rw [hlen, h2]; omega
  · rw [hd, h1 (by omega)]
  · rw [hlen, h2] at h
    omega
/-- A text cut once. -/
theorem cut_one (x : UInt8) (s : ByteArray) : (x ∉ s.data.toList ∧ (Lib.cut s.data.toList [x]).1 = s.data.toList ∧ (Lib.cut s.data.toList [x]).2.1 = []) ∨
    ∃ p r, s.data.toList = p ++ x :: r ∧ x ∉ p ∧ (Lib.cut s.data.toList [x]).1 = p ∧ (Lib.cut s.data.toList [x]).2.1 = r := by
  rcases one_cases x s.data.toList with ⟨h1, h2⟩ | ⟨p, r, h1, h2, h3⟩
  · refine .inl ⟨h2, ?_⟩
    unfold Lib.cut
    rw [h1, if_neg (by omega)]
    exact ⟨rfl, rfl⟩
  · refine .inr ⟨p, r, h1, h2, ?_⟩
    unfold Lib.cut
    rw [h3, if_pos (by omega), h1]
    simp

/-- The figures of one byte, value by value. -/
def figVal (l : List UInt8) : Nat := l.foldl (fun o x => 10 * o + (x.toNat - 48)) 0
theorem figVal_snoc (l : List UInt8) (x : UInt8) : figVal (l ++ [x]) = 10 * figVal l + (x.toNat - 48) := by simp [figVal]

theorem snoc_ind {α : Type} {P : List α → Prop} (h0 : P []) (h1 : ∀ l x, P l → P (l ++ [x])) (l : List α) : P l := by
  have h : ∀ r : List α, P r.reverse := by
    intro r
    induction r with
    | nil => exact h0
    | cons x r ih => rw [List.reverse_cons]; exact h1 _ _ ih
  have := h l.reverse
  rwa [List.reverse_reverse] at this
theorem figVal_map (qs : List Nat) : (∀ q ∈ qs, q < 10) → figVal (qs.map fig) = valD qs := by
  refine snoc_ind (P := fun qs => (∀ q ∈ qs, q < 10) → figVal (qs.map fig) = valD qs) (fun _ => rfl) (fun l x ih h => ?_) qs
  rw [List.map_append, List.map_cons, List.map_nil, figVal_snoc, valD_snoc, ih (fun q hq => h q (by simp [hq])), digit_toNat x (h x (by simp))]
  omega
theorem figVal_dec (n : Nat) : figVal (Lib.decDigits n) = n := by
  obtain ⟨qs, h1, _, h3, h4⟩ := dec_back n n (Nat.le_refl _)
  rw [h3, figVal_map qs h1, h4]
theorem figVal_more (a b : List UInt8) : figVal a ≤ figVal (a ++ b) := by
  refine snoc_ind (P := fun b => figVal a ≤ figVal (a ++ b)) (by simp) (fun l x ih => ?_) b
  rw [← List.append_assoc, figVal_snoc]
  omega
theorem figVal_take (l : List UInt8) (i : Nat) : figVal (l.take i) ≤ figVal l := by
  have := figVal_more (l.take i) (l.drop i)
  rwa [List.take_append_drop] at this

/-- An address without its last bits. -/
theorem shift_first (a n : Nat) : a >>> (32 - n) <<< (32 - n) = firstP a n := by
  rw [Nat.shiftRight_eq_div_pow, Nat.shiftLeft_eq]
  unfold firstP sizeP
  have h := Nat.div_add_mod a (2 ^ (32 - n))
  have e : a / 2 ^ (32 - n) * 2 ^ (32 - n) = 2 ^ (32 - n) * (a / 2 ^ (32 - n)) := Nat.mul_comm _ _
  omega

end Go.Proofs.Ytkfcoldjgijpcap
