/-
  The given hashers: whether one is right.
-/
import Derived.Test.YtogmmilfdolpnajRows
import Derived.Test.YtogmmilfdolpnajKit
import Derived.Test.YtogmmilfdolpnajPlainHasher
import Derived.Test.YtogmmilfdolpnajInRange
import Derived.Deep.RegionHeld3
import Derived.BigQuiet
import Derived.Deep.QuietTactic
import Derived.Deep.LoopGhost
import Derived.Deep.DeepCutAuto
namespace Go.Proofs.Ytogmmilfdolpnaj
open Go.RowKit

end Go.Proofs.Ytogmmilfdolpnaj
