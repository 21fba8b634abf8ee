/-
  The given DropRoute.
-/
import Derived.Test.YtkfcoldjgijpcapPutSpec
import Derived.Test.YtkfcoldjgijpcapPrefEq
namespace Go.Proofs.Ytkfcoldjgijpcap
open Go.RowKit

/-- Whether a route has another prefix. -/
def other (a n : Int) (x : Rt) : Bool := !(x.1 == a && x.2.1 == n)
def dropP (xs : List Rt) (a n : Int) : List Rt := xs.filter (other a n)
end Go.Proofs.Ytkfcoldjgijpcap
