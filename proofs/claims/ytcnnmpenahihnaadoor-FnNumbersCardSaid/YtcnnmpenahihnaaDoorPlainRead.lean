/-
  Plain mathematics of chapter 1's numbers read from bytes: the first low byte, the number that some bytes say, and when they are its shortest text; no program is spoken of here.
-/
import Derived.Test.YtcnnmpenahihnaaDoorPlain
namespace Go.Proofs.YtcnnmpenahihnaaDoor

/-- What bytes say, seven bits a byte, the lowest first. -/
def val : List UInt8 → Nat
  | [] => 0
  | b :: r => b.toNat % 128 + 128 * val r

/-- The place of the first byte below 128 among the first f ones. -/
def low : Nat → List UInt8 → Option Nat
  | 0, _ => none
  | _ + 1, [] => none
  | f + 1, b :: r => if b.toNat < 128 then some 0 else (low f r).map (· + 1)

theorem low_some : ∀ (f : Nat) (t : List UInt8) (k : Nat), low f t = some k → k < f ∧ k < t.length ∧ (∀ i, i < k → 128 ≤ (t.getD i 0).toNat) ∧ (t.getD k 0).toNat < 128
  | 0, _, k, h => by simp [low] at h
  | f + 1, [], k, h => by simp [low] at h
  | f + 1, b :: r, k, h => by
    by_cases hb : b.toNat < 128
    · simp [low, hb] at h
      subst h
      exact ⟨by omega, by simp, by intro i hi; omega, by simpa using hb⟩
    · simp only [low, if_neg hb, Option.map_eq_some_iff] at h
      obtain ⟨j, hj, rfl⟩ := h
      obtain ⟨h1, h2, h3, h4⟩ := low_some f r j hj
      refine ⟨by omega, by simp; omega, ?_, by simpa using h4⟩
      intro i hi
      cases i with
      | zero => simp; omega
      | succ i => simpa using h3 i (by omega)

theorem low_none : ∀ (f : Nat) (t : List UInt8), low f t = none → ∀ k, k < f → k < t.length → 128 ≤ (t.getD k 0).toNat
  | 0, _, _, k, h, _ => by omega
  | f + 1, [], _, k, _, h => by simp at h
  | f + 1, b :: r, h, k, hk, hl => by
    by_cases hb : b.toNat < 128
    · simp [low, hb] at h
    · simp only [low, if_neg hb, Option.map_eq_none_iff] at h
      cases k with
      | zero => simp; omega
      | succ k => simpa using low_none f r h k (by omega) (by simpa using hl)

theorem val_append (a : List UInt8) : ∀ (b : List UInt8), val (a ++ b) = val a + 128 ^ a.length * val b := by
  induction a with
  | nil => intro b; simp [val]
  | cons x a ih =>
    intro b
    simp only [List.cons_append, val, ih, List.length_cons, Nat.pow_succ]
    rw [Nat.mul_add, Nat.mul_comm (128 ^ a.length) 128, Nat.mul_assoc]
    omega

theorem val_lt : ∀ (a : List UInt8), val a < 128 ^ a.length
  | [] => by simp [val]
  | b :: r => by
    have := val_lt r
    simp only [val, List.length_cons, Nat.pow_succ]
    omega

theorem val_take_succ (t : List UInt8) (j : Nat) (h : j < t.length) : val (t.take (j + 1)) = val (t.take j) + (t.getD j 0).toNat % 128 * 128 ^ j := by
  rw [List.take_succ_eq_append_getElem h, val_append]
  have e : (t.take j).length = j := by simp; omega
  have g : t.getD j 0 = t[j] := by simp [h]
  rw [e, g]
  simp only [val, Nat.mul_zero, Nat.add_zero]
  rw [Nat.mul_comm]

theorem val_drop (t : List UInt8) (j : Nat) (h : j < t.length) : val (t.drop j) = val (t.drop (j + 1)) * 128 + (t.getD j 0).toNat % 128 := by
  rw [List.drop_eq_getElem_cons h]
  have g : t.getD j 0 = t[j] := by simp [h]
  rw [g]
  simp only [val]
  omega

/-- The bytes but the last are high, the last is low. -/
def Formed (xs : List UInt8) : Prop := ∃ ys z, xs = ys ++ [z] ∧ (∀ y ∈ ys, 128 ≤ y.toNat) ∧ z.toNat < 128

theorem low_formed (f : Nat) (t : List UInt8) (k : Nat) (h : low f t = some k) : Formed (t.take (k + 1)) := by
  obtain ⟨_, h2, h3, h4⟩ := low_some f t k h
  refine ⟨t.take k, t.getD k 0, ?_, ?_, h4⟩
  · rw [List.take_succ_eq_append_getElem h2]
    simp [h2]
  · intro y hy
    obtain ⟨i, hi, rfl⟩ := List.getElem_of_mem hy
    have hi' : i < k := by simp at hi; omega
    have := h3 i hi'
    rw [List.getElem_take]
    have hl : i < t.length := by omega
    simpa [hl] using this

theorem val_pos (ys : List UInt8) (z : UInt8) (hz : z.toNat < 128) (h0 : z ≠ 0) : 0 < val (ys ++ [z]) := by
  have hz0 : z.toNat ≠ 0 := fun e => h0 (UInt8.toNat_inj.1 (by simpa using e))
  induction ys with
  | nil => simp [val]; omega
  | cons y ys ih => simp only [List.cons_append, val]; omega

theorem ofNat_self (b : UInt8) : UInt8.ofNat b.toNat = b := by simp

theorem var_val : ∀ (ys : List UInt8) (z : UInt8), (∀ y ∈ ys, 128 ≤ y.toNat) → z.toNat < 128 → (ys = [] ∨ z ≠ 0) → var (val (ys ++ [z])) = ys ++ [z]
  | [], z, _, hz, _ => by
    have e : val ([] ++ [z]) = z.toNat := by simp [val]; omega
    rw [e, var_small _ (by omega), ofNat_self]
    rfl
  | y :: ys, z, hy, hz, h0 => by
    have hz0 : z ≠ 0 := by
      rcases h0 with h | h
      · simp at h
      · exact h
    have hp := val_pos ys z hz hz0
    have e : val (y :: ys ++ [z]) = y.toNat % 128 + 128 * val (ys ++ [z]) := rfl
    have hy0 := hy y (by simp)
    have hy1 : y.toNat < 256 := y.toNat_lt
    have hd : val (y :: ys ++ [z]) / 128 = val (ys ++ [z]) := by rw [e]; omega
    have hm : val (y :: ys ++ [z]) % 128 + 128 = y.toNat := by rw [e]; omega
    rw [var_great _ (by rw [e]; omega), hd, hm, ofNat_self, var_val ys z (fun y' h => hy y' (by simp [h])) hz (.inr hz0)]
    rfl

theorem var_last : ∀ (f n : Nat), n ≤ f → 127 < n → ∃ ys z, var n = ys ++ [z] ∧ z ≠ 0
  | 0, n, h, h' => by omega
  | f + 1, n, h, h' => by
    rw [var_great n h']
    by_cases hs : n / 128 ≤ 127
    · rw [var_small _ hs]
      refine ⟨[UInt8.ofNat (n % 128 + 128)], UInt8.ofNat (n / 128), rfl, ?_⟩
      intro e
      have := congrArg UInt8.toNat e
      have h2 : (UInt8.ofNat (n / 128)).toNat = n / 128 := by simp; omega
      rw [h2] at this
      simp at this
      omega
    · obtain ⟨ys, z, e, hz⟩ := var_last f (n / 128) (by omega) (by omega)
      exact ⟨UInt8.ofNat (n % 128 + 128) :: ys, z, by rw [e]; rfl, hz⟩

theorem var_val_not (ys : List UInt8) (n : Nat) (h : ys ≠ []) : var n ≠ ys ++ [0] := by
  intro e
  by_cases hn : n ≤ 127
  · rw [var_small n hn] at e
    have := congrArg List.length e
    simp at this
    exact h this
  · obtain ⟨zs, z, e2, hz⟩ := var_last n n (Nat.le_refl _) (by omega)
    rw [e2] at e
    have := (List.append_inj' e rfl).2
    simp at this
    exact hz this

/-- The bytes up to the first low one are the text of their number, just when they are one byte or the last is not nought. -/
theorem short_iff (f : Nat) (t : List UInt8) (k : Nat) (h : low f t = some k) : var (val (t.take (k + 1))) = t.take (k + 1) ↔ (k = 0 ∨ (t.getD k 0).toNat ≠ 0) := by
  obtain ⟨_, h2, h3, h4⟩ := low_some f t k h
  have e : t.take (k + 1) = t.take k ++ [t.getD k 0] := by
    rw [List.take_succ_eq_append_getElem h2]
    simp [h2]
  have hh : ∀ y ∈ t.take k, 128 ≤ y.toNat := by
    intro y hy
    obtain ⟨i, hi, rfl⟩ := List.getElem_of_mem hy
    have hi' : i < k := by simp at hi; omega
    have := h3 i hi'
    rw [List.getElem_take]
    have hl : i < t.length := by omega
    simpa [hl] using this
  rw [e]
  constructor
  · intro hv
    by_cases hk : k = 0
    · exact .inl hk
    · refine .inr fun h0 => ?_
      have hz : t.getD k 0 = 0 := UInt8.toNat_inj.1 (by simpa using h0)
      rw [hz] at hv
      exact var_val_not (t.take k) _ (by intro hn; simp at hn; rcases hn with hn | hn <;> simp_all) hv
  · intro hv
    refine var_val _ _ hh h4 ?_
    rcases hv with hk | hz
    · left; simp [hk]
    · right; intro hz'; rw [hz'] at hz; simp at hz

theorem val_five (a : List UInt8) (h : a.length ≤ 5) : val a < 34359738368 :=
  Nat.lt_of_lt_of_le (val_lt a) (Nat.pow_le_pow_right (n := 128) (by omega) h)

end Go.Proofs.YtcnnmpenahihnaaDoor
