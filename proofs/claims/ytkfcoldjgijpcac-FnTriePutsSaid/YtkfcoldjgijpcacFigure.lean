/-
  The given figure of a worth below 16.
-/
import Derived.Test.YtkfcoldjgijpcacRows
import Derived.Test.YtkfcoldjgijpcacKit
import Derived.Test.YtkfcoldjgijpcacPlainAll
namespace Go.Proofs.Ytkfcoldjgijpcac
open Go.RowKit

theorem ret_u8 {a b : Int} (h : a = b) : Ending.returned (.int .u8 a) = .returned (.int .u8 b) := by rw [h]

end Go.Proofs.Ytkfcoldjgijpcac
