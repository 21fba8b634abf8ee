/-
  What the law on powers asks, of numbers alone; no program is spoken of here.
-/
import Derived.Test.YtlgleodljfgecabGroupPow
import Derived.Test.YtlgleodljfgecabGroup
import Derived.Test.YtlgleodljfgecabPlainFour
namespace Go.Proofs.Ytlgleodljfgecab

theorem powI_nat (b : Int) (n : Nat) (h : n ≤ 2147483579) : powI b n = powP (modP b) n := by
  unfold powI
  rw [if_pos ⟨by omega, by omega⟩]
  rfl
theorem powI_lt (b e : Int) : powI b e < prime := by
  unfold powI
  split
  · exact powP_lt _ _
  · decide
theorem modP_four : modP 4 = 4 := by decide
theorem modP_pow (b e : Nat) : modP (powP b e : Nat) = powP b e := by rw [modP_nat, Nat.mod_eq_of_lt (powP_lt _ _)]

/-- A power of a sum is a product of powers. -/
theorem pow_sum (a b : Nat) (h : a + b ≤ 2147483579) : mulP (powI 4 a : Nat) (powI 4 b : Nat) = powI 4 ((a : Int) + (b : Int)) := by
  rw [show (a : Int) + (b : Int) = ((a + b : Nat) : Int) by omega, powI_nat 4 a (by omega), powI_nat 4 b (by omega), powI_nat 4 (a + b) h, modP_four]
  unfold mulP
  rw [modP_pow, modP_pow, powP_add]
/-- A power of a product is a power of a power. -/
theorem pow_prod (x y : Nat) (hx : x ≤ 2147483579) (hy : y ≤ 2147483579) (h : x * y ≤ 2147483579) : powI (powI 4 x : Nat) y = powI 4 ((x * y : Nat) : Int) := by
  rw [powI_nat 4 x hx, powI_nat _ y hy, powI_nat 4 (x * y) h, modP_four, modP_pow, powP_mul]
theorem pow_order : powI 4 1073741789 = 1 := by
  have h := powI_nat 4 order (by decide)
  rw [modP_four, base_order] at h
  exact h
theorem pow_below : powI 5 (-1) = 0 := rfl

theorem powP_zero_base (e : Nat) (he : e ≠ 0) : powP 0 e = 0 := by
  unfold powP
  rw [Nat.zero_pow (by omega)]
  rfl
/-- A power of the base below Order, but the one of 0, is in the group. -/
theorem pow_in (a : Nat) (h0 : a ≠ 0) (h1 : a < 1073741789) : inGroup (powI 4 a : Nat) = true := by
  have hlt := powI_lt 4 a
  have e := powI_nat 4 a (by omega)
  rw [modP_four] at e
  have ho : powI (powI 4 a : Nat) 1073741789 = 1 := by
    have h := powI_nat (powI 4 a : Nat) order (by decide)
    rw [e, modP_pow, powP_mul, Nat.mul_comm, ← powP_mul, base_order, powP_one] at h
    rw [e]
    exact h
  have hne1 : powI 4 a ≠ 1 := by
    intro h
    rw [e] at h
    have := base_one a h
    unfold order at this
    omega
  have hne0 : powI 4 a ≠ 0 := by
    intro h
    rw [h] at ho
    have h2 := powI_nat 0 order (by decide)
    have h3 : modP 0 = 0 := by decide
    rw [h3, powP_zero_base order (by decide)] at h2
    have h4 : powI ((0 : Nat) : Int) 1073741789 = 0 := h2
    rw [h4] at ho
    omega
  unfold inGroup
  rw [ho, inGroup_mid _ 1 (by omega) (by unfold prime at hlt; omega)]
  rfl

/-- The product with -1 is what is left to the prime. -/
theorem mul_minus (m : Nat) (h : m < 2147483579) : ((mulP (-1) (m : Nat) : Nat) : Int) = ((2147483579 : Int) - (m : Int)) % 2147483579 := by
  have e1 : modP (-1) = 2147483578 := by decide
  have e2 : modP (m : Nat) = m := by rw [modP_nat]; exact Nat.mod_eq_of_lt h
  unfold mulP
  rw [e1, e2]
  unfold prime
  by_cases h0 : m = 0
  · subst h0; decide
  · have h3 : 2147483578 * m = 2147483579 * (m - 1) + (2147483579 - m) := by omega
    rw [h3, Nat.mul_add_mod, Nat.mod_eq_of_lt (by omega)]
    omega

end Go.Proofs.Ytlgleodljfgecab
