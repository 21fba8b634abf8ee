/-
  The program's ReadDecimal by its answer.
-/
import Derived.Test.YtmmippdommemmanDoorReadDecImpl
import Derived.Test.YtmmippdommemmanDoorPlainAll
namespace Go.Proofs.YtmmippdommemmanDoor
open Go.RowKit

end Go.Proofs.YtmmippdommemmanDoor
