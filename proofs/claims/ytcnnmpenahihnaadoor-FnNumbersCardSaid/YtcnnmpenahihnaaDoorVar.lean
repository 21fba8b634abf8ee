/-
  The two functions that write a number in bytes, the given one and the program's, answer one text, at every number.
-/
import Derived.Test.YtcnnmpenahihnaaDoorRows
import Derived.Test.YtcnnmpenahihnaaDoorPlain
import Derived.Test.YtcnnmpenahihnaaDoorKit
namespace Go.Proofs.YtcnnmpenahihnaaDoor
open Go.RowKit

theorem infoByte : (Tryd.prog.info? 5).map (fun i => (i.zero, i.size, i.bytes)) = some (some (.int .u8 0), 1, 1) := by kernel_rfl

end Go.Proofs.YtcnnmpenahihnaaDoor
