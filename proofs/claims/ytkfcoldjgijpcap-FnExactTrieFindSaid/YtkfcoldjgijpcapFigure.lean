/-
  The given figure of a worth below 16.
-/
import Derived.Test.YtkfcoldjgijpcapRows
import Derived.Test.YtkfcoldjgijpcapKit
import Derived.Test.YtkfcoldjgijpcapPlainAll
namespace Go.Proofs.Ytkfcoldjgijpcap
open Go.RowKit

theorem ret_u8 {a b : Int} (h : a = b) : Ending.returned (.int .u8 a) = .returned (.int .u8 b) := by rw [h]

end Go.Proofs.Ytkfcoldjgijpcap
