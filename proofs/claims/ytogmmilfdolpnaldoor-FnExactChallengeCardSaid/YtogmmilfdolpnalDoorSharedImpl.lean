/-
  The program's PublicOf and SharedOf: what they answer.
-/
import Derived.Test.YtogmmilfdolpnalDoorCheckSpec
namespace Go.Proofs.YtogmmilfdolpnalDoor
open Go.RowKit

end Go.Proofs.YtogmmilfdolpnalDoor
