/-
  The given VarText: the number's text and true in the range, nothing and false outside of it.
-/
import Derived.Test.YtcnnmpenahihnagVar
namespace Go.Proofs.Ytcnnmpenahihnag
open Go.RowKit

set_option maxHeartbeats 400000 in
theorem specVarText_yes (n : Nat) (hn : n ≤ 1000000000) (w : World) :
    Calls Try.prog 5 #[.int .i64 n] w fun e w' => e = .returned (.tuple #[.string ⟨(var n).toArray⟩, .bool true]) ∧ Below w.heap.size w w' := by
  have h0 : (0 : Int) ≤ (n : Int) := by omega
  have h1 : (n : Int) ≤ 1000000000 := by omega
  go_enter Try.func5, Try.ntmps5
  go_wp2_with (first | (go_at_call 10; refine (l01Var_any n hn _).mono ?_; rintro e w1 ⟨rfl, hb⟩) | go_in)
  go_ret2
  exact ⟨rfl, hb⟩

set_option maxHeartbeats 400000 in
theorem specVarText_no (n : Int) (hn : n < 0 ∨ 1000000000 < n) (w : World) :
    Calls Try.prog 5 #[.int .i64 n] w fun e w' => e = .returned (.tuple #[.string ⟨#[]⟩, .bool false]) ∧ Below w.heap.size w w' := by
  rcases hn with h | h
  · go_enter Try.func5, Try.ntmps5
    go_wp2
    go_ret2
    exact ⟨rfl, Below.refl _ _⟩
  · have h0 : (0 : Int) ≤ n := by omega
    have h1 : decide (n ≤ 1000000000) = false := decide_eq_false (by omega)
    go_enter Try.func5, Try.ntmps5
    go_wp2
    go_ret2
    exact ⟨rfl, Below.refl _ _⟩

end Go.Proofs.Ytcnnmpenahihnag
