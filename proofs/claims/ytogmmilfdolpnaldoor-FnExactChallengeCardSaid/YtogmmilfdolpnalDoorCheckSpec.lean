/-
  The given CheckText and SharedOf.
-/
import Derived.Test.YtogmmilfdolpnalDoorSignTextSpec
namespace Go.Proofs.YtogmmilfdolpnalDoor
open Go.RowKit

theorem inGroup_range (y : Int) (h : inGroup y = true) : 2 ≤ y ∧ y < 2147483579 := by
  unfold inGroup inGroupOf at h
  simp only [Bool.and_eq_true, decide_eq_true_eq] at h
  exact ⟨h.1, h.2.1⟩
theorem mulP_nat (x y : Nat) (hx : x < prime) (hy : y < prime) : mulP (x : Nat) (y : Nat) = x * y % prime := by
  unfold mulP
  rw [modP_nat, modP_nat, Nat.mod_eq_of_lt hx, Nat.mod_eq_of_lt hy]
theorem powI_of (b n : Nat) (hb : b < prime) (h : n ≤ 2147483579) : powI (b : Nat) (n : Nat) = powP b n := by
  rw [powI_nat _ n h, modP_nat, Nat.mod_eq_of_lt hb]
theorem backP_lt (p E S : Nat) : backP p E S < 2147483579 := Nat.mod_lt _ (by decide)

end Go.Proofs.YtogmmilfdolpnalDoor
