/-
  The given hashers: whether one is right.
-/
import Derived.Test.YtcpjmjflbajpdajRows
import Derived.Test.YtcpjmjflbajpdajKit
import Derived.Test.YtcpjmjflbajpdajPlainHasher
import Derived.Test.YtcpjmjflbajpdajInRange
import Derived.Deep.RegionHeld3
import Derived.BigQuiet
import Derived.Deep.QuietTactic
import Derived.Deep.LoopGhost
import Derived.Deep.DeepCutAuto
namespace Go.Proofs.Ytcpjmjflbajpdaj
open Go.RowKit

end Go.Proofs.Ytcpjmjflbajpdaj
