/-
  The program's hashers: whether one is right.
-/
import Derived.Test.YtcpjmjflbajpdajDoorRows
import Derived.Test.YtcpjmjflbajpdajDoorKit
import Derived.Test.YtcpjmjflbajpdajDoorPlainHasher
import Derived.Deep.RegionHeld3
import Derived.BigQuiet
import Derived.Deep.QuietTactic
import Derived.Deep.LoopGhost
import Derived.Deep.DeepCutAuto
namespace Go.Proofs.YtcpjmjflbajpdajDoor
open Go.RowKit

end Go.Proofs.YtcpjmjflbajpdajDoor
