/-
  The program's hashers: whether one is right.
-/
import Derived.Test.YtblpoooicefcaakDoorRows
import Derived.Test.YtblpoooicefcaakDoorKit
import Derived.Test.YtblpoooicefcaakDoorPlainHasher
import Derived.Deep.RegionHeld3
import Derived.BigQuiet
import Derived.Deep.QuietTactic
import Derived.Deep.LoopGhost
import Derived.Deep.DeepCutAuto
namespace Go.Proofs.YtblpoooicefcaakDoor
open Go.RowKit

end Go.Proofs.YtblpoooicefcaakDoor
