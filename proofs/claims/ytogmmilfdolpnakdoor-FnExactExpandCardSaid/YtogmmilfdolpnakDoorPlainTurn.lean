/-
  Plain mathematics of words turned by shifts, and of words mixed bit for bit; no program is spoken of here.
-/
import Derived.Test.YtogmmilfdolpnakDoorPlainSha
namespace Go.Proofs.YtogmmilfdolpnakDoor
open Go.RowKit

/-- A word turned right by k bits is shifted both ways. -/
theorem turn_or (x k : Nat) (hx : x < 4294967296) (h0 : 0 < k) (hk : k < 32) : (x * 2 ^ (32 - k) % 4294967296) ||| (x / 2 ^ k) = right x (2 ^ k) (2 ^ (32 - k)) := by
  have hp : 2 ^ k * 2 ^ (32 - k) = 4294967296 := by rw [← Nat.pow_add]; have : k + (32 - k) = 32 := by omega
                                                    rw [this]
  have e1 : x * 2 ^ (32 - k) % 4294967296 = x % 2 ^ k * 2 ^ (32 - k) := by
    rw [← hp, Nat.mul_mod_mul_right]
  have hlt : x / 2 ^ k < 2 ^ (32 - k) := Nat.div_lt_of_lt_mul (by rw [hp]; exact hx)
  rw [e1, or_add (x % 2 ^ k) (x / 2 ^ k) (32 - k) hlt]
  unfold right
  omega
theorem pow_half (k : Nat) (h0 : 0 < k) (hk : k < 32) : 2147483648 / 2 ^ k * 2 = 2 ^ (32 - k) := by
  have e : 2147483648 = 2 ^ (31 - k) * 2 ^ k := by rw [← Nat.pow_add]; have : 31 - k + k = 31 := by omega
                                                   rw [this]
  rw [e, Nat.mul_div_cancel _ (Nat.two_pow_pos k), ← Nat.pow_succ]
  congr 1
  omega
/-- A word turned right by k bits. -/
def turnR (x k : Nat) : Nat := right x (2 ^ k) (2 ^ (32 - k))
theorem turnR_lt (x k : Nat) (hx : x < 4294967296) (hk : k < 32) : turnR x k < 4294967296 := by
  refine right_lt x _ _ hx (Nat.two_pow_pos k) ?_
  rw [← Nat.pow_add]
  have : k + (32 - k) = 32 := by omega
  rw [this]
theorem sgm_turn (x a b c : Nat) (ha : 0 < a ∧ a < 32) (hb : 0 < b ∧ b < 32) (hc : 0 < c ∧ c < 32) : sgm x (2 ^ a) (2 ^ b) (2 ^ c) false = turnR x a ^^^ turnR x b ^^^ turnR x c := by
  unfold sgm turnR
  rw [pow_half a ha.1 ha.2, pow_half b hb.1 hb.2, pow_half c hc.1 hc.2]
  rfl
theorem sgm_shift (x a b c : Nat) (ha : 0 < a ∧ a < 32) (hb : 0 < b ∧ b < 32) : sgm x (2 ^ a) (2 ^ b) (2 ^ c) true = turnR x a ^^^ turnR x b ^^^ (x / 2 ^ c) := by
  unfold sgm turnR
  rw [pow_half a ha.1 ha.2, pow_half b hb.1 hb.2]
  rfl
theorem bs0_turn (x : Nat) : bs0 x = turnR x 2 ^^^ turnR x 13 ^^^ turnR x 22 := sgm_turn x 2 13 22 (by decide) (by decide) (by decide)
theorem bs1_turn (x : Nat) : bs1 x = turnR x 6 ^^^ turnR x 11 ^^^ turnR x 25 := sgm_turn x 6 11 25 (by decide) (by decide) (by decide)
theorem ss0_turn (x : Nat) : ss0 x = turnR x 7 ^^^ turnR x 18 ^^^ (x / 2 ^ 3) := sgm_shift x 7 18 3 (by decide) (by decide)
theorem ss1_turn (x : Nat) : ss1 x = turnR x 17 ^^^ turnR x 19 ^^^ (x / 2 ^ 10) := sgm_shift x 17 19 10 (by decide) (by decide)

theorem not_bit (e i : Nat) (he : e < 4294967296) : (4294967295 - e).testBit i = (decide (i < 32) && !e.testBit i) := by
  have h := Nat.testBit_two_pow_sub_succ (x := e) (n := 32) he i
  have e1 : 2 ^ 32 - (e + 1) = 4294967295 - e := by omega
  rw [e1] at h
  exact h
/-- Where e is 1 f, else g, by 'or'. -/
theorem ch_or (e f g : Nat) (he : e < 4294967296) : (e &&& f) ||| ((4294967295 - e) &&& g) = chO e f g := by
  unfold chO
  apply Nat.eq_of_testBit_eq
  intro i
  rw [Nat.testBit_or, Nat.testBit_xor, Nat.testBit_and, Nat.testBit_and, not_bit e i he]
  cases e.testBit i <;> cases f.testBit i <;> cases g.testBit i <;> simp
/-- What most are, by 'or'. -/
theorem maj_or (a b c : Nat) : (a &&& b) ||| (a &&& c) ||| (b &&& c) = majO a b c := by
  unfold majO
  apply Nat.eq_of_testBit_eq
  intro i
  rw [Nat.testBit_or, Nat.testBit_or, Nat.testBit_xor, Nat.testBit_xor, Nat.testBit_and, Nat.testBit_and, Nat.testBit_and]
  cases a.testBit i <;> cases b.testBit i <;> cases c.testBit i <;> rfl

end Go.Proofs.YtogmmilfdolpnakDoor
