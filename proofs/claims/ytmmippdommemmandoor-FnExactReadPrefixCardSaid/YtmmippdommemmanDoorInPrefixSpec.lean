/-
  The given InPrefix where the prefix or the address is not right, and by what it answers.
-/
import Derived.Test.YtmmippdommemmanDoorPrefixSpec
namespace Go.Proofs.YtmmippdommemmanDoor
open Go.RowKit

end Go.Proofs.YtmmippdommemmanDoor
