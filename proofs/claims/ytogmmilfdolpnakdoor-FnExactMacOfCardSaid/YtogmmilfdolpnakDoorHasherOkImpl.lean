/-
  The program's hashers: whether one is right.
-/
import Derived.Test.YtogmmilfdolpnakDoorRows
import Derived.Test.YtogmmilfdolpnakDoorKit
import Derived.Test.YtogmmilfdolpnakDoorPlainHasher
import Derived.Deep.RegionHeld3
import Derived.BigQuiet
import Derived.Deep.QuietTactic
import Derived.Deep.LoopGhost
import Derived.Deep.DeepCutAuto
namespace Go.Proofs.YtogmmilfdolpnakDoor
open Go.RowKit

end Go.Proofs.YtogmmilfdolpnakDoor
