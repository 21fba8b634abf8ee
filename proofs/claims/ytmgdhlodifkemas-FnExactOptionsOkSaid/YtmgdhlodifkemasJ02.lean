/-
  Plain mathematics of chapter 1's numbers read from bytes: the first low byte, the number that some bytes say, and when they are its shortest text; no program is spoken of here.
  Plain mathematics of figures taken two by two; no program is spoken of here.
  Plain mathematics: numbers and texts come back from their bytes and figures; no program is spoken of here.
-/
import Derived.Test.YtmgdhlodifkemasJ01
namespace Go.Proofs.Ytmgdhlodifkemas

/-- What bytes say, seven bits a byte, the lowest first. -/
def val : List UInt8 → Nat
  | [] => 0
  | b :: r => b.toNat % 128 + 128 * val r

/-- The place of the first byte below 128 among the first f ones. -/
def low : Nat → List UInt8 → Option Nat
  | 0, _ => none
  | _ + 1, [] => none
  | f + 1, b :: r => if b.toNat < 128 then some 0 else (low f r).map (· + 1)

theorem low_some : ∀ (f : Nat) (t : List UInt8) (k : Nat), low f t = some k → k < f ∧ k < t.length ∧ (∀ i, i < k → 128 ≤ (t.getD i 0).toNat) ∧ (t.getD k 0).toNat < 128
  | 0, _, k, h => by simp [low] at h
  | f + 1, [], k, h => by simp [low] at h
  | f + 1, b :: r, k, h => by
    by_cases hb : b.toNat < 128
    · simp [low, hb] at h
      subst h
      exact ⟨by omega, by simp, by intro i hi; omega, by simpa using hb⟩
    · simp only [low, if_neg hb, Option.map_eq_some_iff] at h
      obtain ⟨j, hj, rfl⟩ := h
      obtain ⟨h1, h2, h3, h4⟩ := low_some f r j hj
      refine ⟨by omega, by simp; omega, ?_, by simpa using h4⟩
      intro i hi
      cases i with
      | zero => simp; omega
      | succ i => simpa using h3 i (by omega)

theorem low_none : ∀ (f : Nat) (t : List UInt8), low f t = none → ∀ k, k < f → k < t.length → 128 ≤ (t.getD k 0).toNat
  | 0, _, _, k, h, _ => by omega
  | f + 1, [], _, k, _, h => by simp at h
  | f + 1, b :: r, h, k, hk, hl => by
    by_cases hb : b.toNat < 128
    · simp [low, hb] at h
    · simp only [low, if_neg hb, Option.map_eq_none_iff] at h
      cases k with
      | zero => simp; omega
      | succ k => simpa using low_none f r h k (by omega) (by simpa using hl)

theorem val_append (a : List UInt8) : ∀ (b : List UInt8), val (a ++ b) = val a + 128 ^ a.length * val b := by
  induction a with
  | nil => intro b; simp [val]
  | cons x a ih =>
    intro b
    simp only [List.cons_append, val, ih, List.length_cons, Nat.pow_succ]
    rw [Nat.mul_add, Nat.mul_comm (128 ^ a.length) 128, Nat.mul_assoc]
    omega

theorem val_lt : ∀ (a : List UInt8), val a < 128 ^ a.length
  | [] => by simp [val]
  | b :: r => by
    have := val_lt r
    simp only [val, List.length_cons, Nat.pow_succ]
    omega

theorem val_take_succ (t : List UInt8) (j : Nat) (h : j < t.length) : val (t.take (j + 1)) = val (t.take j) + (t.getD j 0).toNat % 128 * 128 ^ j := by
  rw [List.take_succ_eq_append_getElem h, val_append]
  have e : (t.take j).length = j := by simp; omega
  have g : t.getD j 0 = t[j] := by simp [h]
  rw [e, g]
  simp only [val, Nat.mul_zero, Nat.add_zero]
  rw [Nat.mul_comm]

theorem val_drop (t : List UInt8) (j : Nat) (h : j < t.length) : val (t.drop j) = val (t.drop (j + 1)) * 128 + (t.getD j 0).toNat % 128 := by
  rw [List.drop_eq_getElem_cons h]
  have g : t.getD j 0 = t[j] := by simp [h]
  rw [g]
  simp only [val]
  omega

/-- The bytes but the last are high, the last is low. -/
def Formed (xs : List UInt8) : Prop := ∃ ys z, xs = ys ++ [z] ∧ (∀ y ∈ ys, 128 ≤ y.toNat) ∧ z.toNat < 128

theorem low_formed (f : Nat) (t : List UInt8) (k : Nat) (h : low f t = some k) : Formed (t.take (k + 1)) := by
  obtain ⟨_, h2, h3, h4⟩ := low_some f t k h
  refine ⟨t.take k, t.getD k 0, ?_, ?_, h4⟩
  · rw [List.take_succ_eq_append_getElem h2]
    simp [h2]
  · intro y hy
    obtain ⟨i, hi, rfl⟩ := List.getElem_of_mem hy
    have hi' : i < k := by simp at hi; omega
    have := h3 i hi'
    rw [List.getElem_take]
    have hl : i < t.length := by omega
    simpa [hl] using this

theorem val_pos (ys : List UInt8) (z : UInt8) (hz : z.toNat < 128) (h0 : z ≠ 0) : 0 < val (ys ++ [z]) := by
  have hz0 : z.toNat ≠ 0 := fun e => h0 (UInt8.toNat_inj.1 (by simpa using e))
  induction ys with
  | nil => simp [val]; omega
  | cons y ys ih => simp only [List.cons_append, val]; omega

theorem ofNat_self (b : UInt8) : UInt8.ofNat b.toNat = b := by simp

theorem var_val : ∀ (ys : List UInt8) (z : UInt8), (∀ y ∈ ys, 128 ≤ y.toNat) → z.toNat < 128 → (ys = [] ∨ z ≠ 0) → var (val (ys ++ [z])) = ys ++ [z]
  | [], z, _, hz, _ => by
    have e : val ([] ++ [z]) = z.toNat := by simp [val]; omega
    rw [e, var_small _ (by omega), ofNat_self]
    rfl
  | y :: ys, z, hy, hz, h0 => by
    have hz0 : z ≠ 0 := by
      rcases h0 with h | h
      · simp at h
      · exact h
    have hp := val_pos ys z hz hz0
    have e : val (y :: ys ++ [z]) = y.toNat % 128 + 128 * val (ys ++ [z]) := rfl
    have hy0 := hy y (by simp)
    have hy1 : y.toNat < 256 := y.toNat_lt
    have hd : val (y :: ys ++ [z]) / 128 = val (ys ++ [z]) := by rw [e]; omega
    have hm : val (y :: ys ++ [z]) % 128 + 128 = y.toNat := by rw [e]; omega
    rw [var_great _ (by rw [e]; omega), hd, hm, ofNat_self, var_val ys z (fun y' h => hy y' (by simp [h])) hz (.inr hz0)]
    rfl

theorem var_last : ∀ (f n : Nat), n ≤ f → 127 < n → ∃ ys z, var n = ys ++ [z] ∧ z ≠ 0
  | 0, n, h, h' => by omega
  | f + 1, n, h, h' => by
    rw [var_great n h']
    by_cases hs : n / 128 ≤ 127
    · rw [var_small _ hs]
      refine ⟨[UInt8.ofNat (n % 128 + 128)], UInt8.ofNat (n / 128), rfl, ?_⟩
      intro e
      have := congrArg UInt8.toNat e
      have h2 : (UInt8.ofNat (n / 128)).toNat = n / 128 := by simp; omega
      rw [h2] at this
      simp at this
      omega
    · obtain ⟨ys, z, e, hz⟩ := var_last f (n / 128) (by omega) (by omega)
      exact ⟨UInt8.ofNat (n % 128 + 128) :: ys, z, by rw [e]; rfl, hz⟩

theorem var_val_not (ys : List UInt8) (n : Nat) (h : ys ≠ []) : var n ≠ ys ++ [0] := by
  intro e
  by_cases hn : n ≤ 127
  · rw [var_small n hn] at e
    have := congrArg List.length e
    simp at this
    exact h this
  · obtain ⟨zs, z, e2, hz⟩ := var_last n n (Nat.le_refl _) (by omega)
    rw [e2] at e
    have := (List.append_inj' e rfl).2
    simp at this
    exact hz this

/-- The bytes up to the first low one are the text of their number, just when they are one byte or the last is not nought. -/
theorem short_iff (f : Nat) (t : List UInt8) (k : Nat) (h : low f t = some k) : var (val (t.take (k + 1))) = t.take (k + 1) ↔ (k = 0 ∨ (t.getD k 0).toNat ≠ 0) := by
  obtain ⟨_, h2, h3, h4⟩ := low_some f t k h
  have e : t.take (k + 1) = t.take k ++ [t.getD k 0] := by
    rw [List.take_succ_eq_append_getElem h2]
    simp [h2]
  have hh : ∀ y ∈ t.take k, 128 ≤ y.toNat := by
    intro y hy
    obtain ⟨i, hi, rfl⟩ := List.getElem_of_mem hy
    have hi' : i < k := by simp at hi; omega
    have := h3 i hi'
    rw [List.getElem_take]
    have hl : i < t.length := by omega
    simpa [hl] using this
  rw [e]
  constructor
  · intro hv
    by_cases hk : k = 0
    · exact .inl hk
    · refine .inr fun h0 => ?_
      have hz : t.getD k 0 = 0 := UInt8.toNat_inj.1 (by simpa using h0)
      rw [hz] at hv
      exact var_val_not (t.take k) _ (by intro hn; simp at hn; rcases hn with hn | hn <;> simp_all) hv
  · intro hv
    refine var_val _ _ hh h4 ?_
    rcases hv with hk | hz
    · left; simp [hk]
    · right; intro hz'; rw [hz'] at hz; simp at hz

theorem val_five (a : List UInt8) (h : a.length ≤ 5) : val a < 34359738368 :=
  Nat.lt_of_lt_of_le (val_lt a) (Nat.pow_le_pow_right (n := 128) (by omega) h)

end Go.Proofs.Ytmgdhlodifkemas
namespace Go.Proofs.Ytmgdhlodifkemas

/-- What a byte is worth as a figure; -1 when it is none. -/
def worthI (x : UInt8) : Int := if 48 ≤ x.toNat ∧ x.toNat ≤ 57 then (x.toNat : Int) - 48 else if 97 ≤ x.toNat ∧ x.toNat ≤ 102 then (x.toNat : Int) - 87 else -1

theorem worthI_bd (x : UInt8) : -1 ≤ worthI x ∧ worthI x ≤ 15 := by
  unfold worthI
  split
  · omega
  · split <;> omega

theorem worthI_fig (q : Nat) (h : q < 16) : worthI (fig q) = q := by
  unfold worthI
  rw [fig_toNat q h]
  by_cases h1 : q < 10
  · rw [if_pos h1, if_pos (by omega)]; omega
  · rw [if_neg h1, if_neg (by omega), if_pos (by omega)]; omega

theorem fig_of (x : UInt8) (q : Nat) (h : q < 16) (e : (if q < 10 then 48 + q else 87 + q) = x.toNat) : fig q = x := by
  apply UInt8.toNat_inj.1
  rw [fig_toNat q h, e]

theorem worthI_none (x : UInt8) (h : ∀ q, q < 16 → fig q ≠ x) : worthI x = -1 := by
  unfold worthI
  by_cases h1 : 48 ≤ x.toNat ∧ x.toNat ≤ 57
  · exact absurd (fig_of x (x.toNat - 48) (by omega) (by rw [if_pos (by omega)]; omega)) (h _ (by omega))
  · rw [if_neg h1]
    by_cases h2 : 97 ≤ x.toNat ∧ x.toNat ≤ 102
    · exact absurd (fig_of x (x.toNat - 87) (by omega) (by rw [if_neg (by omega)]; omega)) (h _ (by omega))
    · rw [if_neg h2]

/-- The bytes that figures make, two by two. -/
def pairs : List Nat → List UInt8
  | a :: b :: r => UInt8.ofNat (16 * a + b) :: pairs r
  | _ => []

theorem pairs_snoc : ∀ (k : Nat) (qs : List Nat), 2 * k + 1 < qs.length → pairs (qs.take (2 * k + 2)) = pairs (qs.take (2 * k)) ++ [UInt8.ofNat (16 * qs.getD (2 * k) 0 + qs.getD (2 * k + 1) 0)]
  | 0, a :: b :: r, _ => rfl
  | 0, [], h => by simp at h
  | 0, [a], h => by simp at h
  | k + 1, [], h => by simp at h
  | k + 1, [a], h => by simp at h
  | k + 1, a :: b :: r, h => by
    have ih := pairs_snoc k r (by simp at h; omega)
    have e1 : 2 * (k + 1) + 2 = (2 * k + 2) + 1 + 1 := by omega
    have e2 : 2 * (k + 1) = 2 * k + 1 + 1 := by omega
    rw [e1, List.take_succ_cons, List.take_succ_cons]
    show UInt8.ofNat (16 * a + b) :: pairs (r.take (2 * k + 2)) = _
    rw [ih, e2, List.take_succ_cons, List.take_succ_cons]
    rfl

theorem pairs_length : ∀ (k : Nat) (qs : List Nat), 2 * k ≤ qs.length → (pairs (qs.take (2 * k))).length = k
  | 0, _, _ => by simp [pairs]
  | k + 1, qs, h => by
    have ih := pairs_length k qs (by omega)
    have := pairs_snoc k qs (by omega)
    have e : 2 * (k + 1) = 2 * k + 2 := by omega
    rw [e, this, List.length_append, ih]
    rfl

theorem pairs_next (qs : List Nat) (i : Nat) (he : i % 2 = 0) (h : i + 1 < qs.length) : pairs (qs.take (i + 2)) = pairs (qs.take i) ++ [UInt8.ofNat (16 * qs.getD i 0 + qs.getD (i + 1) 0)] := by
  have e : i = 2 * (i / 2) := by omega
  have := pairs_snoc (i / 2) qs (by omega)
  rw [← e] at this
  exact this

theorem pairs_le (qs : List Nat) (i : Nat) (he : i % 2 = 0) (h : i ≤ qs.length) : (pairs (qs.take i)).length ≤ i := by
  have e : i = 2 * (i / 2) := by omega
  have := pairs_length (i / 2) qs (by omega)
  rw [← e] at this
  omega

theorem getD_mem (qs : List Nat) (i : Nat) (h : i < qs.length) : qs.getD i 0 ∈ qs := by
  rw [List.getD_eq_getElem?_getD, List.getElem?_eq_getElem h]
  exact List.getElem_mem h

/-- The byte at a place of a text that is figures and then something else. -/
theorem worth_at (s : ByteArray) (qs : List Nat) (tail : List UInt8) (h1 : ∀ q ∈ qs, q < 16) (h2 : s.data.toList = qs.map fig ++ tail) (i : Nat) (hi : i < s.size) (h : i < qs.length) : worthI s[i] = qs.getD i 0 := by
  rw [byte_at s i hi _ (by rw [h2]; exact at_fig qs tail i h)]
  exact worthI_fig _ (h1 _ (getD_mem qs i h))

theorem worth_end (s : ByteArray) (qs : List Nat) (tail : List UInt8) (h2 : s.data.toList = qs.map fig ++ tail) (h3 : ∀ x r, tail = x :: r → ∀ q, q < 16 → fig q ≠ x) (hi : qs.length < s.size) : worthI (s[qs.length]'hi) = -1 := by
  have hl := congrArg List.length h2
  cases ht : tail with
  | nil => rw [ht] at hl; simp at hl; omega
  | cons x r =>
    rw [byte_at s qs.length hi x (by rw [h2, ht]; exact at_tail qs x r)]
    exact worthI_none x (h3 x r ht)

end Go.Proofs.Ytmgdhlodifkemas
namespace Go.Proofs.Ytmgdhlodifkemas

theorem var_formed : ∀ (f n : Nat), n ≤ f → ∃ (ys : List UInt8) (z : UInt8), var n = ys ++ [z] ∧ (∀ y ∈ ys, 128 ≤ y.toNat) ∧ z.toNat < 128 ∧ (ys = [] ∨ z.toNat ≠ 0) ∧ val (ys ++ [z]) = n
  | f, n, hf => by
    by_cases h : n ≤ 127
    · refine ⟨[], UInt8.ofNat n, by rw [var_small n h]; rfl, by simp, ?_, .inl rfl, ?_⟩
      · rw [UInt8.toNat_ofNat', Nat.mod_eq_of_lt (by omega)]; omega
      · simp only [List.nil_append, val, UInt8.toNat_ofNat']
        rw [Nat.mod_eq_of_lt (by omega : n < 2 ^ 8)]
        omega
    · match f, hf with
      | 0, hf => omega
      | f + 1, hf =>
        obtain ⟨ys, z, h1, h2, h3, h4, h5⟩ := var_formed f (n / 128) (by omega)
        have hb : (UInt8.ofNat (n % 128 + 128)).toNat = n % 128 + 128 := by rw [UInt8.toNat_ofNat', Nat.mod_eq_of_lt (by omega)]
        refine ⟨UInt8.ofNat (n % 128 + 128) :: ys, z, by rw [var_great n (by omega), h1]; rfl, ?_, h3, .inr ?_, ?_⟩
        · intro y hy
          rcases List.mem_cons.1 hy with rfl | hy
          · omega
          · exact h2 y hy
        · rcases h4 with rfl | h4
          · simp only [List.nil_append, val] at h5
            omega
          · exact h4
        · show (UInt8.ofNat (n % 128 + 128)).toNat % 128 + 128 * val (ys ++ [z]) = n
          rw [hb, h5]
          omega

theorem var_len : ∀ (m n : Nat), n < 128 ^ (m + 1) → (var n).length ≤ m + 1
  | 0, n, h => by rw [var_small n (by omega)]; simp
  | m + 1, n, h => by
    by_cases hs : n ≤ 127
    · rw [var_small n hs]; simp
    · rw [var_great n (by omega), List.length_cons]
      have := var_len m (n / 128) (by rw [Nat.div_lt_iff_lt_mul (by omega)]; rw [Nat.pow_succ] at h; exact h)
      omega

theorem low_of : ∀ (f : Nat) (ys : List UInt8) (z : UInt8) (r : List UInt8), (∀ y ∈ ys, 128 ≤ y.toNat) → z.toNat < 128 → ys.length < f → low f (ys ++ z :: r) = some ys.length
  | 0, _, _, _, _, _, h => by omega
  | f + 1, [], z, r, _, hz, _ => by simp [low, hz]
  | f + 1, y :: ys, z, r, hy, hz, hl => by
    have h1 := hy y (by simp)
    have h2 := low_of f ys z r (fun x hx => hy x (by simp [hx])) hz (by simp at hl; omega)
    show (if y.toNat < 128 then some 0 else (low f (ys ++ z :: r)).map (· + 1)) = _
    rw [if_neg (by omega), h2]
    rfl

/-- The bytes of a number, whatever follows them: where they end, and what they say. -/
theorem var_read (n : Nat) (h : n ≤ 1000000000) (r : List UInt8) : ∃ k, low 5 (var n ++ r) = some k ∧ k + 1 = (var n).length ∧ val ((var n ++ r).take (k + 1)) = n ∧ (k = 0 ∨ ((var n ++ r).getD k 0).toNat ≠ 0) := by
  obtain ⟨ys, z, h1, h2, h3, h4, h5⟩ := var_formed n n (Nat.le_refl _)
  have hl := var_len 4 n (by have : (128 : Nat) ^ 5 = 34359738368 := by decide
                             omega)
  rw [h1] at hl
  simp at hl
  refine ⟨ys.length, ?_, by rw [h1]; simp, ?_, ?_⟩
  · rw [h1, List.append_assoc]
    exact low_of 5 ys z r h2 h3 (by omega)
  · rw [List.take_append_of_le_length (by rw [h1]; simp), h1, List.take_of_length_le (by simp), h5]
  · rcases h4 with rfl | h4
    · exact .inl rfl
    · right
      rw [h1]
      simp
      exact fun e => h4 (by simp [e])

theorem hex_back : ∀ (l : List UInt8), ∃ qs : List Nat, (∀ q ∈ qs, q < 16) ∧ hexOf l = qs.map fig ∧ pairs qs = l
  | [] => ⟨[], by simp, rfl, rfl⟩
  | b :: l => by
    obtain ⟨qs, h1, h2, h3⟩ := hex_back l
    have hb := b.toNat_lt
    refine ⟨b.toNat / 16 :: b.toNat % 16 :: qs, ?_, ?_, ?_⟩
    · intro q hq
      rcases List.mem_cons.1 hq with rfl | hq
      · omega
      · rcases List.mem_cons.1 hq with rfl | hq
        · omega
        · exact h1 q hq
    · show fig (b.toNat / 16) :: fig (b.toNat % 16) :: hexOf l = _
      rw [h2]
      rfl
    · show UInt8.ofNat (16 * (b.toNat / 16) + b.toNat % 16) :: pairs qs = b :: l
      rw [h3, Nat.div_add_mod, ofNat_self]

theorem dec_back : ∀ (f m : Nat), m ≤ f → ∃ qs : List Nat, (∀ q ∈ qs, q < 10) ∧ qs ≠ [] ∧ Lib.decDigits m = qs.map fig ∧ valD qs = m
  | f, m, hf => by
    by_cases h : m < 10
    · refine ⟨[m], by simpa using h, by simp, ?_, by simp [valD, valR]⟩
      rw [Lib.decDigits_one h]
      simp [fig, h]
    · match f, hf with
      | 0, hf => omega
      | f + 1, hf =>
        obtain ⟨qs, h1, h2, h3, h4⟩ := dec_back f (m / 10) (by omega)
        refine ⟨qs ++ [m % 10], ?_, by simp, ?_, ?_⟩
        · intro q hq
          rcases List.mem_append.1 hq with hq | hq
          · exact h1 q hq
          · simp at hq
            omega
        · rw [← digs_pos m (by omega), digs_step m (by omega), digs_pos (m / 10) (by omega), h3]
          simp
        · rw [valD_snoc, h4]
          omega

end Go.Proofs.Ytmgdhlodifkemas
