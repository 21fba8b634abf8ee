/-
  The program's products modulo the prime, and the given ones, by what they answer.
  The program's powers modulo the prime, and the given ones, by what they answer.
  The given powers modulo the prime, by what they answer.
  Who is in the group, by the program: what it answers.
  Who is in the group, by the given one: what it answers.
-/
import Derived.Test.YtogmmilfdolpnalDoorRows
import Derived.Test.YtogmmilfdolpnalDoorKit
import Derived.Test.YtogmmilfdolpnalDoorPlainAll
import Derived.Test.YtogmmilfdolpnalDoorPlainCur
import Derived.Deep.RegionHeld3
import Derived.BigQuiet
import Derived.Deep.QuietTactic
import Derived.Deep.LoopGhost
import Derived.Deep.DeepCutAuto
import Derived.Test.YtogmmilfdolpnalDoorInRange
namespace Go.Proofs.YtogmmilfdolpnalDoor
open Go.RowKit

theorem held_drew {w W : World} {v : Value} (h : W.cell? ⟨w.heap.size, 0, none⟩ = some v ∧ Below w.heap.size w W) : W.drew.cell? ⟨w.heap.size, 0, none⟩ = some v ∧ Below w.heap.size w W.drew := ⟨h.1, h.2.drew⟩

end Go.Proofs.YtogmmilfdolpnalDoor
namespace Go.Proofs.YtogmmilfdolpnalDoor
open Go.RowKit

theorem modP_mulP (a b : Int) : modP (mulP a b : Nat) = modP a * modP b % prime := by rw [modP_nat, Nat.mod_eq_of_lt (mulP_lt a b)]; rfl

/-- b to the e modulo the prime; 0 when e is not in 0 .. Prime. -/
def powI (b e : Int) : Nat := if 0 ≤ e ∧ e ≤ 2147483579 then powP (modP b) e.toNat else 0

end Go.Proofs.YtogmmilfdolpnalDoor
namespace Go.Proofs.YtogmmilfdolpnalDoor
open Go.RowKit

/-- A product of two remainders, as the walk spells it. -/
theorem mul_mod (x y : Nat) (hx : x < prime) (hy : y < prime) : ∃ m : Nat, (x : Int) * (y : Int) = (m : Int) ∧ m < 9223372036854775807 ∧ Hid (m % 2147483579 = x * y % prime) :=
  ⟨x * y, by rw [Int.natCast_mul], prod_lt _ _ hx hy, rfl⟩

end Go.Proofs.YtogmmilfdolpnalDoor
namespace Go.Proofs.YtogmmilfdolpnalDoor
open Go.RowKit

/-- y in 2 .. Prime - 1, and its power by Order is 1. -/
def inGroupOf (y : Int) (p : Nat) : Bool := decide (2 ≤ y) && (decide (y < 2147483579) && ((p : Int) == 1))
def inGroup (y : Int) : Bool := inGroupOf y (powI y 1073741789)

theorem inGroup_low (y : Int) (p : Nat) (h : ¬ 2 ≤ y) : inGroupOf y p = false := by unfold inGroupOf; rw [decide_eq_false h]; rfl
theorem inGroup_high (y : Int) (p : Nat) (h : ¬ y < 2147483579) : inGroupOf y p = false := by unfold inGroupOf; rw [decide_eq_false h, Bool.false_and, Bool.and_false]
theorem inGroup_mid (y : Int) (p : Nat) (h1 : 2 ≤ y) (h2 : y < 2147483579) : inGroupOf y p = ((p : Int) == 1) := by unfold inGroupOf; rw [decide_eq_true h1, decide_eq_true h2, Bool.true_and, Bool.true_and]

end Go.Proofs.YtogmmilfdolpnalDoor
namespace Go.Proofs.YtogmmilfdolpnalDoor
open Go.RowKit

end Go.Proofs.YtogmmilfdolpnalDoor
