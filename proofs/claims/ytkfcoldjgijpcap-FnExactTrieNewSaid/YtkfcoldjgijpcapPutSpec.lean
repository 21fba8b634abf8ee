/-
  The given PutRoute.
-/
import Derived.Test.YtkfcoldjgijpcapRoutesSpec
namespace Go.Proofs.Ytkfcoldjgijpcap
open Go.RowKit

def aheadB (a n b m : Int) : Bool := decide (a < b) || (a == b && decide (n < m))
theorem aheadB_iff (a n b m : Int) : aheadB a n b m = true ↔ Ahead a n b m := by simp [aheadB, Ahead]
def aheadOf (r x : Rt) : Bool := aheadB x.1 x.2.1 r.1 r.2.1
def behind (r x : Rt) : Bool := aheadB r.1 r.2.1 x.1 x.2.1
/-- A route put among others. -/
def putP (xs : List Rt) (r : Rt) : List Rt := xs.filter (aheadOf r) ++ [r] ++ xs.filter (behind r)
end Go.Proofs.Ytkfcoldjgijpcap
