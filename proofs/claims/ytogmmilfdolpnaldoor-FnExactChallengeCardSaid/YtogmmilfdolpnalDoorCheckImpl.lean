/-
  The program's CheckText: what it answers.
-/
import Derived.Test.YtogmmilfdolpnalDoorSignImpl
namespace Go.Proofs.YtogmmilfdolpnalDoor
open Go.RowKit

end Go.Proofs.YtogmmilfdolpnalDoor
