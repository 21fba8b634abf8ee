/-
  The given VarText: the number's text and true in the range, nothing and false outside of it.
-/
import Derived.Test.YtogmmilfdolpnalDoorVarAll
namespace Go.Proofs.YtogmmilfdolpnalDoor
open Go.RowKit

end Go.Proofs.YtogmmilfdolpnalDoor
