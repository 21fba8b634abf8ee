/-
  The given InPrefix where the prefix or the address is not right, and by what it answers.
-/
import Derived.Test.YtmmippdommemmacDoorPrefixSpec
namespace Go.Proofs.YtmmippdommemmacDoor
open Go.RowKit

end Go.Proofs.YtmmippdommemmacDoor
