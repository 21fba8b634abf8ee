/-
  The given figure of a worth below 16.
-/
import Derived.Test.YtcnnmpenahihnaaDoorRows
import Derived.Test.YtcnnmpenahihnaaDoorKit
import Derived.Test.YtcnnmpenahihnaaDoorPlainHex
namespace Go.Proofs.YtcnnmpenahihnaaDoor
open Go.RowKit

theorem ret_u8 {a b : Int} (h : a = b) : Ending.returned (.int .u8 a) = .returned (.int .u8 b) := by rw [h]

end Go.Proofs.YtcnnmpenahihnaaDoor
