/-
  The given worth of a byte.
-/
import Derived.Test.YtcnnmpenahihnaaDoorRows
import Derived.Test.YtcnnmpenahihnaaDoorKit
import Derived.Test.YtcnnmpenahihnaaDoorPlainUnhex
namespace Go.Proofs.YtcnnmpenahihnaaDoor
open Go.RowKit

theorem ret_i64 {a b : Int} (h : a = b) : Ending.returned (.int .i64 a) = .returned (.int .i64 b) := by rw [h]

end Go.Proofs.YtcnnmpenahihnaaDoor
