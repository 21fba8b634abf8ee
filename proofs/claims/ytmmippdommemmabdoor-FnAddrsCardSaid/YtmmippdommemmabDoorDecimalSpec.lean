/-
  The given Decimal by what it answers at every number.
-/
import Derived.Test.YtmmippdommemmabDoorFigure
import Derived.Test.YtmmippdommemmabDoorPlainAll
namespace Go.Proofs.YtmmippdommemmabDoor
open Go.RowKit

end Go.Proofs.YtmmippdommemmabDoor
