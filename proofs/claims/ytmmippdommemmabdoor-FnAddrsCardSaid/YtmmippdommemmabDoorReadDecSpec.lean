/-
  The given ReadDecimal by what it answers at every text.
-/
import Derived.Test.YtmmippdommemmabDoorDecimalSpec
import Derived.Test.YtmmippdommemmabDoorPlainAll
namespace Go.Proofs.YtmmippdommemmabDoor
open Go.RowKit

end Go.Proofs.YtmmippdommemmabDoor
