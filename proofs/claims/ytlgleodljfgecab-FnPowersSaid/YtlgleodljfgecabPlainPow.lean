/-
  Plain mathematics of chapter 3's group: powers modulo a number, by squares; a power that is 1 only where it must be; no program is spoken of here.
-/
import Derived.WalkKit
namespace Go.Proofs.Ytlgleodljfgecab

def prime : Nat := 2147483579
def order : Nat := 1073741789

/-- b to the e, modulo the prime. -/
def powP (b e : Nat) : Nat := b ^ e % prime

theorem powP_lt (b e : Nat) : powP b e < prime := Nat.mod_lt _ (by decide)
theorem powP_mod (b e : Nat) : powP (b % prime) e = powP b e := by unfold powP; rw [← Nat.pow_mod]
theorem powP_add (b x y : Nat) : powP b x * powP b y % prime = powP b (x + y) := by unfold powP; rw [← Nat.mul_mod, ← Nat.pow_add]
theorem powP_mul (b x y : Nat) : powP (powP b x) y = powP b (x * y) := by
  show powP (b ^ x % prime) y = _
  rw [powP_mod]
  unfold powP
  rw [← Nat.pow_mul]
theorem powP_zero (b : Nat) : powP b 0 = 1 := by unfold powP prime; simp
theorem powP_one (y : Nat) : powP 1 y = 1 := by unfold powP prime; simp

/-- Powers by squares: what a loop has gathered, and what is left. -/
theorem pow_step_odd (o b e : Nat) (h : e % 2 = 1) : (o * b % prime) * powP (b * b % prime) (e / 2) % prime = o * powP b e % prime := by
  rw [powP_mod]
  unfold powP
  have e1 : b ^ e = b * (b * b) ^ (e / 2) := by
    have : e = 2 * (e / 2) + 1 := by omega
    conv => lhs; rw [this, Nat.pow_succ, Nat.pow_mul, Nat.pow_two]
    rw [Nat.mul_comm]
  rw [e1, ← Nat.mul_mod, Nat.mul_assoc, Nat.mul_mod_mod]
theorem pow_step_even (o b e : Nat) (h : e % 2 = 0) : o * powP (b * b % prime) (e / 2) % prime = o * powP b e % prime := by
  rw [powP_mod]
  unfold powP
  have e1 : b ^ e = (b * b) ^ (e / 2) := by
    have : e = 2 * (e / 2) := by omega
    conv => lhs; rw [this, Nat.pow_mul, Nat.pow_two]
  rw [e1]

/-- A power reckoned by squares, for closed facts. -/
def fastP : Nat → Nat → Nat → Nat → Nat
  | 0, o, _, _ => o
  | f + 1, o, b, e => if e = 0 then o else fastP f (if e % 2 = 1 then o * b % prime else o) (b * b % prime) (e / 2)
theorem fastP_is : ∀ (f o b e : Nat), e < 2 ^ f → o < prime → fastP f o b e = o * powP b e % prime
  | 0, o, b, e, h, ho => by
    have : e = 0 := by simpa using h
    subst this
    rw [powP_zero, Nat.mul_one, Nat.mod_eq_of_lt ho]
    rfl
  | f + 1, o, b, e, h, ho => by
    unfold fastP
    by_cases h0 : e = 0
    · subst h0
      rw [if_pos rfl, powP_zero, Nat.mul_one, Nat.mod_eq_of_lt ho]
    · rw [if_neg h0]
      have hlt : e / 2 < 2 ^ f := by rw [Nat.pow_succ] at h; omega
      by_cases h1 : e % 2 = 1
      · rw [if_pos h1, fastP_is f _ _ _ hlt (Nat.mod_lt _ (by decide)), pow_step_odd o b e h1]
      · rw [if_neg h1, fastP_is f _ _ _ hlt ho, pow_step_even o b e (by omega)]

theorem base_order : powP 4 order = 1 := by
  have h := fastP_is 31 1 4 order (by decide) (by decide)
  rw [Nat.one_mul, Nat.mod_eq_of_lt (powP_lt _ _)] at h
  rw [← h]
  decide +kernel

/-- Of two powers that are 1, the one of what divides both is 1. -/
theorem one_gcd (b x y : Nat) (hx : powP b x = 1) (hy : powP b y = 1) : powP b (Nat.gcd x y) = 1 := by
  induction x, y using Nat.gcd.induction with
  | H0 y => rw [Nat.gcd_zero_left]; exact hy
  | H1 x y hpos ih =>
    rw [Nat.gcd_rec]
    refine ih ?_ hx
    have e : y = x * (y / x) + y % x := (Nat.div_add_mod y x).symm
    rw [e, ← powP_add, ← powP_mul, hx, powP_one, Nat.one_mul, Nat.mod_eq_of_lt (powP_lt _ _)] at hy
    exact hy

/-- No number of lo .. lo + 2^k - 1, but 0 and 1, divides n. -/
def noDiv (n : Nat) : Nat → Nat → Bool
  | 0, lo => lo ≤ 1 || n % lo != 0
  | k + 1, lo => noDiv n k lo && noDiv n k (lo + 2 ^ k)
theorem noDiv_is (n : Nat) : ∀ (k lo : Nat), noDiv n k lo = true → ∀ d, lo ≤ d → d < lo + 2 ^ k → 2 ≤ d → n % d ≠ 0
  | 0, lo, h, d, h1, h2, h3 => by
    have : d = lo := by simp at h2; omega
    subst this
    simp [noDiv] at h
    omega
  | k + 1, lo, h, d, h1, h2, h3 => by
    simp only [noDiv, Bool.and_eq_true] at h
    rw [Nat.pow_succ] at h2
    by_cases hd : d < lo + 2 ^ k
    · exact noDiv_is n k lo h.1 d h1 hd h3
    · exact noDiv_is n k (lo + 2 ^ k) h.2 d (by omega) (by omega) h3

theorem order_noDiv : noDiv order 16 0 = true := by decide +kernel

theorem order_prime (d : Nat) (h : d ∣ order) : d = 1 ∨ d = order := by
  obtain ⟨c, hc⟩ := h
  have ho : order = 1073741789 := rfl
  have big : ∀ x y : Nat, order = x * y → x < 65536 → x = 1 := by
    intro x y e hx
    by_cases h2 : 2 ≤ x
    · exact absurd (show order % x = 0 by rw [e]; exact Nat.mul_mod_right x y) (noDiv_is order 16 0 order_noDiv x (Nat.zero_le _) (by omega) h2)
    · have : x ≠ 0 := fun e0 => by rw [e0, Nat.zero_mul] at e; rw [ho] at e; omega
      omega
  by_cases hd : d < 65536
  · exact .inl (big d c hc hd)
  · right
    have hcs : c < 65536 := by
      rcases Nat.lt_or_ge c 65536 with h | h
      · exact h
      · have := Nat.mul_le_mul (Nat.le_of_not_lt hd) h
        rw [ho] at hc
        omega
    have := big c d (by rw [hc, Nat.mul_comm]) hcs
    rw [this, Nat.mul_one] at hc
    exact hc.symm

/-- A power of the base is 1 just where Order divides its number. -/
theorem base_one (a : Nat) (h : powP 4 a = 1) : a % order = 0 := by
  have hg := one_gcd 4 a order h base_order
  rcases order_prime _ (Nat.gcd_dvd_right a order) with e | e
  · rw [e] at hg
    exact absurd hg (by decide)
  · have := Nat.gcd_dvd_left a order
    rw [e] at this
    exact Nat.mod_eq_zero_of_dvd this

/-- A number taken modulo the prime, not below 0. -/
def modP (a : Int) : Nat := (a % 2147483579).toNat
theorem modP_lt (a : Int) : modP a < prime := by unfold modP prime; omega
theorem modP_int (a : Int) : (modP a : Int) = a % 2147483579 := by unfold modP; omega
theorem modP_nat (n : Nat) : modP (n : Int) = n % prime := by unfold modP prime; omega
theorem modP_of (a : Int) : modP (modP a : Int) = modP a := by rw [modP_nat, Nat.mod_eq_of_lt (modP_lt a)]

/-- The product modulo the prime. -/
def mulP (a b : Int) : Nat := modP a * modP b % prime
theorem mulP_lt (a b : Int) : mulP a b < prime := Nat.mod_lt _ (by decide)
theorem prod_lt (x y : Nat) (hx : x < prime) (hy : y < prime) : x * y < 9223372036854775807 := by
  have h1 : x * y ≤ 2147483578 * 2147483578 := Nat.mul_le_mul (by unfold prime at hx; omega) (by unfold prime at hy; omega)
  omega

/-- What Go's remainder leaves, mended below 0, is the number modulo the prime. -/
theorem tmod_cases (a : Int) : ∃ r : Int, a.tmod 2147483579 = r ∧ -2147483579 < r ∧ r < 2147483579 ∧ (r < 0 → r + 2147483579 = (modP a : Int)) ∧ (¬ r < 0 → r = (modP a : Int)) := by
  refine ⟨_, rfl, ?_, ?_, ?_, ?_⟩
  · have := Int.lt_tmod_of_pos a (show (0 : Int) < 2147483579 by omega); omega
  · exact Int.tmod_lt_of_pos a (by omega)
  · intro h
    have e := Int.tmod_def a 2147483579
    rw [modP_int]
    have h2 := Int.lt_tmod_of_pos a (show (0 : Int) < 2147483579 by omega)
    generalize a.tdiv 2147483579 = q at e
    omega
  · intro h
    have e := Int.tmod_def a 2147483579
    rw [modP_int]
    have h2 := Int.tmod_lt_of_pos a (show (0 : Int) < 2147483579 by omega)
    generalize a.tdiv 2147483579 = q at e
    omega

end Go.Proofs.Ytlgleodljfgecab
