/-
  The given figure of a worth below 16.
-/
import Derived.Test.YtmmippdommemmanRows
import Derived.Test.YtmmippdommemmanKit
import Derived.Test.YtmmippdommemmanPlainAll
namespace Go.Proofs.Ytmmippdommemman
open Go.RowKit

theorem ret_u8 {a b : Int} (h : a = b) : Ending.returned (.int .u8 a) = .returned (.int .u8 b) := by rw [h]

end Go.Proofs.Ytmmippdommemman
