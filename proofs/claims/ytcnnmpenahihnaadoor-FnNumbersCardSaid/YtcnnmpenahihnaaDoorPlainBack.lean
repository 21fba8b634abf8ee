/-
  Plain mathematics: numbers and texts come back from their bytes and figures; no program is spoken of here.
-/
import Derived.Test.YtcnnmpenahihnaaDoorPlainRead
import Derived.Test.YtcnnmpenahihnaaDoorPlainUnhex
import Derived.Test.YtcnnmpenahihnaaDoorPlainReadDec
namespace Go.Proofs.YtcnnmpenahihnaaDoor

theorem var_formed : ∀ (f n : Nat), n ≤ f → ∃ (ys : List UInt8) (z : UInt8), var n = ys ++ [z] ∧ (∀ y ∈ ys, 128 ≤ y.toNat) ∧ z.toNat < 128 ∧ (ys = [] ∨ z.toNat ≠ 0) ∧ val (ys ++ [z]) = n
  | f, n, hf => by
    by_cases h : n ≤ 127
    · refine ⟨[], UInt8.ofNat n, by rw [var_small n h]; rfl, by simp, ?_, .inl rfl, ?_⟩
      · rw [UInt8.toNat_ofNat', Nat.mod_eq_of_lt (by omega)]; omega
      · simp only [List.nil_append, val, UInt8.toNat_ofNat']
        rw [Nat.mod_eq_of_lt (by omega : n < 2 ^ 8)]
        omega
    · match f, hf with
      | 0, hf => omega
      | f + 1, hf =>
        obtain ⟨ys, z, h1, h2, h3, h4, h5⟩ := var_formed f (n / 128) (by omega)
        have hb : (UInt8.ofNat (n % 128 + 128)).toNat = n % 128 + 128 := by rw [UInt8.toNat_ofNat', Nat.mod_eq_of_lt (by omega)]
        refine ⟨UInt8.ofNat (n % 128 + 128) :: ys, z, by rw [var_great n (by omega), h1]; rfl, ?_, h3, .inr ?_, ?_⟩
        · intro y hy
          rcases List.mem_cons.1 hy with rfl | hy
          · omega
          · exact h2 y hy
        · rcases h4 with rfl | h4
          · simp only [List.nil_append, val] at h5
            omega
          · exact h4
        · show (UInt8.ofNat (n % 128 + 128)).toNat % 128 + 128 * val (ys ++ [z]) = n
          rw [hb, h5]
          omega

theorem var_len : ∀ (m n : Nat), n < 128 ^ (m + 1) → (var n).length ≤ m + 1
  | 0, n, h => by rw [var_small n (by omega)]; simp
  | m + 1, n, h => by
    by_cases hs : n ≤ 127
    · rw [var_small n hs]; simp
    · rw [var_great n (by omega), List.length_cons]
      have := var_len m (n / 128) (by rw [Nat.div_lt_iff_lt_mul (by omega)]; rw [Nat.pow_succ] at h; exact h)
      omega

theorem low_of : ∀ (f : Nat) (ys : List UInt8) (z : UInt8) (r : List UInt8), (∀ y ∈ ys, 128 ≤ y.toNat) → z.toNat < 128 → ys.length < f → low f (ys ++ z :: r) = some ys.length
  | 0, _, _, _, _, _, h => by omega
  | f + 1, [], z, r, _, hz, _ => by simp [low, hz]
  | f + 1, y :: ys, z, r, hy, hz, hl => by
    have h1 := hy y (by simp)
    have h2 := low_of f ys z r (fun x hx => hy x (by simp [hx])) hz (by simp at hl; omega)
    show (if y.toNat < 128 then some 0 else (low f (ys ++ z :: r)).map (· + 1)) = _
    rw [if_neg (by omega), h2]
    rfl

/-- The bytes of a number, whatever follows them: where they end, and what they say. -/
theorem var_read (n : Nat) (h : n ≤ 1000000000) (r : List UInt8) : ∃ k, low 5 (var n ++ r) = some k ∧ k + 1 = (var n).length ∧ val ((var n ++ r).take (k + 1)) = n ∧ (k = 0 ∨ ((var n ++ r).getD k 0).toNat ≠ 0) := by
  obtain ⟨ys, z, h1, h2, h3, h4, h5⟩ := var_formed n n (Nat.le_refl _)
  have hl := var_len 4 n (by have : (128 : Nat) ^ 5 = 34359738368 := by decide
                             omega)
  rw [h1] at hl
  simp at hl
  refine ⟨ys.length, ?_, by rw [h1]; simp, ?_, ?_⟩
  · rw [h1, List.append_assoc]
    exact low_of 5 ys z r h2 h3 (by omega)
  · rw [List.take_append_of_le_length (by rw [h1]; simp), h1, List.take_of_length_le (by simp), h5]
  · rcases h4 with rfl | h4
    · exact .inl rfl
    · right
      rw [h1]
      simp
      exact fun e => h4 (by simp [e])

theorem hex_back : ∀ (l : List UInt8), ∃ qs : List Nat, (∀ q ∈ qs, q < 16) ∧ hexOf l = qs.map fig ∧ pairs qs = l
  | [] => ⟨[], by simp, rfl, rfl⟩
  | b :: l => by
    obtain ⟨qs, h1, h2, h3⟩ := hex_back l
    have hb := b.toNat_lt
    refine ⟨b.toNat / 16 :: b.toNat % 16 :: qs, ?_, ?_, ?_⟩
    · intro q hq
      rcases List.mem_cons.1 hq with rfl | hq
      · omega
      · rcases List.mem_cons.1 hq with rfl | hq
        · omega
        · exact h1 q hq
    · show fig (b.toNat / 16) :: fig (b.toNat % 16) :: hexOf l = _
      rw [h2]
      rfl
    · show UInt8.ofNat (16 * (b.toNat / 16) + b.toNat % 16) :: pairs qs = b :: l
      rw [h3, Nat.div_add_mod, ofNat_self]

theorem dec_back : ∀ (f m : Nat), m ≤ f → ∃ qs : List Nat, (∀ q ∈ qs, q < 10) ∧ qs ≠ [] ∧ Lib.decDigits m = qs.map fig ∧ valD qs = m
  | f, m, hf => by
    by_cases h : m < 10
    · refine ⟨[m], by simpa using h, by simp, ?_, by simp [valD, valR]⟩
      rw [Lib.decDigits_one h]
      simp [fig, h]
    · match f, hf with
      | 0, hf => omega
      | f + 1, hf =>
        obtain ⟨qs, h1, h2, h3, h4⟩ := dec_back f (m / 10) (by omega)
        refine ⟨qs ++ [m % 10], ?_, by simp, ?_, ?_⟩
        · intro q hq
          rcases List.mem_append.1 hq with hq | hq
          · exact h1 q hq
          · simp at hq
            omega
        · rw [← digs_pos m (by omega), digs_step m (by omega), digs_pos (m / 10) (by omega), h3]
          simp
        · rw [valD_snoc, h4]
          omega

end Go.Proofs.YtcnnmpenahihnaaDoor
