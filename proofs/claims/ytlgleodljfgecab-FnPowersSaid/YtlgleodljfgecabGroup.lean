/-
  Who is in the group, by the program: what it answers.
-/
import Derived.Test.YtlgleodljfgecabGroupPow
namespace Go.Proofs.Ytlgleodljfgecab
open Go.RowKit

/-- y in 2 .. Prime - 1, and its power by Order is 1. -/
def inGroupOf (y : Int) (p : Nat) : Bool := decide (2 ≤ y) && (decide (y < 2147483579) && ((p : Int) == 1))
def inGroup (y : Int) : Bool := inGroupOf y (powI y 1073741789)

theorem inGroup_low (y : Int) (p : Nat) (h : ¬ 2 ≤ y) : inGroupOf y p = false := by unfold inGroupOf; rw [decide_eq_false h]; rfl
theorem inGroup_high (y : Int) (p : Nat) (h : ¬ y < 2147483579) : inGroupOf y p = false := by unfold inGroupOf; rw [decide_eq_false h, Bool.false_and, Bool.and_false]
theorem inGroup_mid (y : Int) (p : Nat) (h1 : 2 ≤ y) (h2 : y < 2147483579) : inGroupOf y p = ((p : Int) == 1) := by unfold inGroupOf; rw [decide_eq_true h1, decide_eq_true h2, Bool.true_and, Bool.true_and]

set_option maxRecDepth 100000 in
set_option maxHeartbeats 400000 in
theorem implInGroup_any (y : Int) (w : World) :
    Calls Try.prog 11 #[.int .i64 y] w fun x w' => x = .returned (.bool (inGroup y)) ∧ Below w.heap.size w w' := by
  have H1 := Lib.hid (implPowP_any y 1073741789)
  unfold inGroup
  generalize powI y 1073741789 = n at H1 ⊢
  by_cases h1 : 2 ≤ y
  · by_cases h2 : y < 2147483579
    · have E := Lib.hid (inGroup_mid y n h1 h2)
      rw [E.out]
      clear E
      go_enter Try.func11, Try.ntmps11
      go_wp2_with fail
      refine (H1.out _).mono ?_
      rintro e1 w1 ⟨rfl, hb1⟩
      go_wp2
      go_ret
      exact ⟨rfl, hb1⟩
    · rw [inGroup_high y n h2]
      have h3 : decide (y < 2147483579) = false := decide_eq_false h2
      clear h2
      go_enter Try.func11, Try.ntmps11
      go_wp2
      go_ret
      exact ⟨rfl, Below.refl _ _⟩
  · rw [inGroup_low y n h1]
    go_enter Try.func11, Try.ntmps11
    go_wp2
    go_ret
    exact ⟨rfl, Below.refl _ _⟩

end Go.Proofs.Ytlgleodljfgecab
