/-
  Plain mathematics of a table of 16 sums: half a byte at once; no program is spoken of here.
-/
import Derived.Test.YtmmippdommemmanDoorPlainSum
namespace Go.Proofs.YtmmippdommemmanDoor

/-- Four steps at once: the table's number of the lowest half byte, and the rest. -/
theorem halves_four (x : Nat) : halves 4 x = x / 16 ^^^ halves 4 (x % 16) := by
  have e : x = x % 16 ^^^ (x / 16) * 2 ^ 4 := by
    have h1 := Nat.div_add_mod x 16
    have h2 : (x / 16) * 2 ^ 4 ^^^ x % 16 = (x / 16) * 2 ^ 4 + x % 16 := by
      rw [Nat.mul_comm]
      apply Nat.eq_of_testBit_eq
      intro i
      rw [Nat.testBit_two_pow_mul_add _ (show x % 16 < 2 ^ 4 by omega), Nat.testBit_xor, Nat.testBit_two_pow_mul]
      by_cases hi : i < 4
      · have h9 : decide (4 ≤ i) = false := decide_eq_false (by omega)
        simp [hi, h9]
      · have h8 : (x % 16).testBit i = false := Nat.testBit_lt_two_pow (Nat.lt_of_lt_of_le (show x % 16 < 2 ^ 4 by omega) (Nat.pow_le_pow_right (by omega) (by omega)))
        rw [h8]
        simp [hi, Nat.le_of_not_lt hi]
    rw [Nat.xor_comm, h2]
    omega
  conv => lhs; rw [e]
  rw [halves_xor, halves_high, Nat.xor_comm]

theorem halves_snoc : ∀ (k x : Nat), halves (k + 1) x = half (halves k x)
  | 0, _ => rfl
  | k + 1, x => by
    show halves (k + 1) (half x) = half (halves k (half x))
    exact halves_snoc k (half x)

theorem halves_eight (x : Nat) : halves 8 x = halves 4 (halves 4 x) := rfl

/-- The table, as the program's text has it. -/
def halfTab : List Int := [0, 1166650509, 2333301018, 3466261911, 3189058079, 4221339282, 889615109, 1888477064, 3558460437, 2442158232, 1594529039, 444807554, 1779230218, 797264519, 3776954128, 2761298845]

theorem halfTab_at : ∀ k : Nat, k < 16 → halfTab[k]? = some ((halves 4 k : Nat) : Int) := by decide

/-- 'x & 15' on a uint32. -/
theorem and_u32 (x : Nat) (hx : x < 4294967296) : bits .and .u32 (x : Int) 15 = ((x % 16 : Nat) : Int) := by
  have ex : (BitVec.ofInt IntKind.u32.bits (x : Int)).toNat = x := by
    rw [BitVec.toNat_ofInt]
    show ((x : Int) % ((2 ^ 32 : Nat) : Int)).toNat = x
    omega
  have ey : (BitVec.ofInt IntKind.u32.bits 15).toNat = 15 := by decide
  unfold bits
  simp only
  rw [BitVec.toNat_and, ex, ey, IntKind.wrap_u32]
  have := Nat.and_two_pow_sub_one_eq_mod x 4
  simp at this
  rw [this]
  omega

end Go.Proofs.YtmmippdommemmanDoor
