/-
  Signatures compared as values.
-/
import Derived.Test.YtogmmilfdolpnalDoorRows
import Derived.Test.YtogmmilfdolpnalDoorKit
import Derived.Laws.StructEq
namespace Go.Proofs.YtogmmilfdolpnalDoor
open Go.RowKit

end Go.Proofs.YtogmmilfdolpnalDoor
