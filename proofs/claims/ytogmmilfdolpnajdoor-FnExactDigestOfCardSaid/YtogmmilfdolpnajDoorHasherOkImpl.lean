/-
  The program's hashers: whether one is right.
-/
import Derived.Test.YtogmmilfdolpnajDoorRows
import Derived.Test.YtogmmilfdolpnajDoorKit
import Derived.Test.YtogmmilfdolpnajDoorPlainHasher
import Derived.Deep.RegionHeld3
import Derived.BigQuiet
import Derived.Deep.QuietTactic
import Derived.Deep.LoopGhost
import Derived.Deep.DeepCutAuto
namespace Go.Proofs.YtogmmilfdolpnajDoor
open Go.RowKit

end Go.Proofs.YtogmmilfdolpnajDoor
