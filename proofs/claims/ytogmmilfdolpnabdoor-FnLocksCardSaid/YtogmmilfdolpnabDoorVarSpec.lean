/-
  The given VarText: the number's text and true in the range, nothing and false outside of it.
-/
import Derived.Test.YtogmmilfdolpnabDoorVarAll
namespace Go.Proofs.YtogmmilfdolpnabDoor
open Go.RowKit

end Go.Proofs.YtogmmilfdolpnabDoor
