/-
  What the law on powers asks, of numbers alone; no program is spoken of here.
  Plain mathematics of signatures: what is signed is found to be signed; two find the same shared number; no program is spoken of here.
-/
import Derived.Test.YtogmmilfdolpnamDoorGroupAll
import Derived.Test.YtogmmilfdolpnamDoorPlainAll
namespace Go.Proofs.YtogmmilfdolpnamDoor

theorem powI_nat (b : Int) (n : Nat) (h : n ≤ 2147483579) : powI b n = powP (modP b) n := by
  unfold powI
  rw [if_pos ⟨by omega, by omega⟩]
  rfl
theorem powI_lt (b e : Int) : powI b e < prime := by
  unfold powI
  split
  · exact powP_lt _ _
  · decide
theorem modP_four : modP 4 = 4 := by decide
theorem modP_pow (b e : Nat) : modP (powP b e : Nat) = powP b e := by rw [modP_nat, Nat.mod_eq_of_lt (powP_lt _ _)]

/-- A power of a sum is a product of powers. -/
theorem pow_sum (a b : Nat) (h : a + b ≤ 2147483579) : mulP (powI 4 a : Nat) (powI 4 b : Nat) = powI 4 ((a : Int) + (b : Int)) := by
  rw [show (a : Int) + (b : Int) = ((a + b : Nat) : Int) by omega, powI_nat 4 a (by omega), powI_nat 4 b (by omega), powI_nat 4 (a + b) h, modP_four]
  unfold mulP
  rw [modP_pow, modP_pow, powP_add]
/-- A power of a product is a power of a power. -/
theorem pow_prod (x y : Nat) (hx : x ≤ 2147483579) (hy : y ≤ 2147483579) (h : x * y ≤ 2147483579) : powI (powI 4 x : Nat) y = powI 4 ((x * y : Nat) : Int) := by
  rw [powI_nat 4 x hx, powI_nat _ y hy, powI_nat 4 (x * y) h, modP_four, modP_pow, powP_mul]
theorem pow_order : powI 4 1073741789 = 1 := by
  have h := powI_nat 4 order (by decide)
  rw [modP_four, base_order] at h
  exact h
theorem pow_below : powI 5 (-1) = 0 := rfl

theorem powP_zero_base (e : Nat) (he : e ≠ 0) : powP 0 e = 0 := by
  unfold powP
  rw [Nat.zero_pow (by omega)]
  rfl
/-- A power of the base below Order, but the one of 0, is in the group. -/
theorem pow_in (a : Nat) (h0 : a ≠ 0) (h1 : a < 1073741789) : inGroup (powI 4 a : Nat) = true := by
  have hlt := powI_lt 4 a
  have e := powI_nat 4 a (by omega)
  rw [modP_four] at e
  have ho : powI (powI 4 a : Nat) 1073741789 = 1 := by
    have h := powI_nat (powI 4 a : Nat) order (by decide)
    rw [e, modP_pow, powP_mul, Nat.mul_comm, ← powP_mul, base_order, powP_one] at h
    rw [e]
    exact h
  have hne1 : powI 4 a ≠ 1 := by
    intro h
    rw [e] at h
    have := base_one a h
    unfold order at this
    omega
  have hne0 : powI 4 a ≠ 0 := by
    intro h
    rw [h] at ho
    have h2 := powI_nat 0 order (by decide)
    have h3 : modP 0 = 0 := by decide
    rw [h3, powP_zero_base order (by decide)] at h2
    have h4 : powI ((0 : Nat) : Int) 1073741789 = 0 := h2
    rw [h4] at ho
    omega
  unfold inGroup
  rw [ho, inGroup_mid _ 1 (by omega) (by unfold prime at hlt; omega)]
  rfl

/-- The product with -1 is what is left to the prime. -/
theorem mul_minus (m : Nat) (h : m < 2147483579) : ((mulP (-1) (m : Nat) : Nat) : Int) = ((2147483579 : Int) - (m : Int)) % 2147483579 := by
  have e1 : modP (-1) = 2147483578 := by decide
  have e2 : modP (m : Nat) = m := by rw [modP_nat]; exact Nat.mod_eq_of_lt h
  unfold mulP
  rw [e1, e2]
  unfold prime
  by_cases h0 : m = 0
  · subst h0; decide
  · have h3 : 2147483578 * m = 2147483579 * (m - 1) + (2147483579 - m) := by omega
    rw [h3, Nat.mul_add_mod, Nat.mod_eq_of_lt (by omega)]
    omega

end Go.Proofs.YtogmmilfdolpnamDoor
namespace Go.Proofs.YtogmmilfdolpnamDoor
open Go.RowKit

theorem orderV : order = 1073741789 := rfl
theorem primeV : prime = 2147483579 := rfl
/-- A number in four bytes. -/
def numB (n : Nat) : ByteArray := ⟨(four n).toArray⟩
theorem numB_size (n : Nat) : (numB n).size = 4 := rfl
/-- The number of the first four bytes. -/
def firstP (s : ByteArray) : Nat := fourBack (s.extract 0 4).data.toList
theorem firstP_lt (s : ByteArray) : firstP s < 4294967296 := fourBack_lt _
def secretP (seed : ByteArray) : Nat := 1 + firstP (digP (seed ++ ⟨#[115]⟩)) % 1073741788
theorem secretP_in (seed : ByteArray) : 1 ≤ secretP seed ∧ secretP seed ≤ 1073741788 := by unfold secretP; omega
def publicP (secret : Nat) : Nat := powP 4 secret
def chalP (r pub : Nat) (m : ByteArray) : Nat := firstP (digP (numB r ++ numB pub ++ m)) % 1073741789
theorem chalP_lt (r pub : Nat) (m : ByteArray) : chalP r pub m < 1073741789 := Nat.mod_lt _ (by omega)
def keyOfP (secret : Nat) (m : ByteArray) : Nat := secretP (numB secret ++ m)
def signE (secret : Nat) (m : ByteArray) : Nat := chalP (powP 4 (keyOfP secret m)) (publicP secret) m
def signS (secret : Nat) (m : ByteArray) : Nat := (keyOfP secret m + signE secret m * secret % 1073741789) % 1073741789
theorem signE_lt (secret : Nat) (m : ByteArray) : signE secret m < 1073741789 := chalP_lt _ _ _
theorem signS_lt (secret : Nat) (m : ByteArray) : signS secret m < 1073741789 := Nat.mod_lt _ (by omega)
/-- What a signature is held against. -/
def backP (pub E S : Nat) : Nat := powP 4 S * powP pub (1073741789 - E) % prime

/-- A power of Base by the exponent modulo Order. -/
theorem base_mod (x : Nat) : powP 4 (x % 1073741789) = powP 4 x := by
  have h : powP 4 (1073741789 * (x / 1073741789)) = 1 := by
    rw [← powP_mul, ← orderV, base_order, powP_one]
  have e : 1073741789 * (x / 1073741789) + x % 1073741789 = x := Nat.div_add_mod x 1073741789
  have h2 := powP_add 4 (1073741789 * (x / 1073741789)) (x % 1073741789)
  rw [e, h, Nat.one_mul, Nat.mod_eq_of_lt (powP_lt _ _)] at h2
  exact h2
theorem base_same (x y : Nat) (h : x % 1073741789 = y % 1073741789) : powP 4 x = powP 4 y := by rw [← base_mod x, ← base_mod y, h]
theorem back_exp (k e s : Nat) (he : e < 1073741789) : ((k + e * s % 1073741789) % 1073741789 + s * (1073741789 - e)) % 1073741789 = k % 1073741789 := by
  have h1 : s * (1073741789 - e) = s * 1073741789 - e * s := by rw [Nat.mul_sub, Nat.mul_comm s e]
  have h2 : e * s ≤ s * 1073741789 := by rw [Nat.mul_comm e s]; exact Nat.mul_le_mul_left s (by omega)
  rw [h1]
  generalize e * s = y at h2 ⊢
  generalize hz : s * 1073741789 = z at h2 ⊢
  omega
/-- What is signed is found to be signed. -/
theorem back_sign (secret : Nat) (m : ByteArray) : backP (publicP secret) (signE secret m) (signS secret m) = powP 4 (keyOfP secret m) := by
  unfold backP publicP
  rw [powP_mul, powP_add]
  exact base_same _ _ (back_exp _ _ _ (signE_lt secret m))
/-- Two find the same shared number. -/
theorem shared_same (a b : Nat) : powP (publicP b) a = powP (publicP a) b := by
  unfold publicP
  rw [powP_mul, powP_mul, Nat.mul_comm]
theorem prod_not (a b : Nat) (ha0 : a ≠ 0) (ha : a < 1073741789) (hb0 : b ≠ 0) (hb : b < 1073741789) : a * b % 1073741789 ≠ 0 := by
  intro h
  have hd : order ∣ a * b := Nat.dvd_of_mod_eq_zero h
  have hg : Nat.gcd order a = 1 := by
    rcases order_prime _ (Nat.gcd_dvd_left order a) with h1 | h1
    · exact h1
    · have h2 := Nat.gcd_dvd_right order a
      rw [h1] at h2
      have h3 := Nat.le_of_dvd (by omega) h2
      rw [orderV] at h3
      omega
  have hb2 : order ∣ b := Nat.Coprime.dvd_of_dvd_mul_left hg hd
  have h3 := Nat.le_of_dvd (by omega) hb2
  rw [orderV] at h3
  omega
theorem powI_pow (n : Nat) (h : n ≤ 2147483579) : powI 4 (n : Nat) = powP 4 n := by rw [powI_nat 4 n h, modP_four]
theorem public_in (a : Nat) (h0 : a ≠ 0) (h1 : a < 1073741789) : inGroup (publicP a : Nat) = true := by
  have h := pow_in a h0 h1
  rw [powI_pow a (by omega)] at h
  exact h
theorem shared_in (a b : Nat) (ha0 : a ≠ 0) (ha : a < 1073741789) (hb0 : b ≠ 0) (hb : b < 1073741789) : inGroup (powP (publicP b) a : Nat) = true := by
  unfold publicP
  rw [powP_mul, ← base_mod]
  exact public_in _ (by rw [Nat.mul_comm]; exact prod_not a b ha0 ha hb0 hb) (Nat.mod_lt _ (by omega))

end Go.Proofs.YtogmmilfdolpnamDoor
