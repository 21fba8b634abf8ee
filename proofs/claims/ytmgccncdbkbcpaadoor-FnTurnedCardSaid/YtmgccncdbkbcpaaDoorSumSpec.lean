/-
  The given sums by what they answer.
-/
import Derived.Test.YtmgccncdbkbcpaaDoorRows
import Derived.Test.YtmgccncdbkbcpaaDoorKit
import Derived.Test.YtmgccncdbkbcpaaDoorPlainSumHalf
import Derived.Test.YtmgccncdbkbcpaaDoorPlainHex
import Derived.Deep.RegionHeld3
import Derived.BigQuiet
import Derived.Deep.QuietTactic
import Derived.Deep.LoopGhost
import Derived.Deep.DeepCutAuto
namespace Go.Proofs.YtmgccncdbkbcpaaDoor
open Go.RowKit

end Go.Proofs.YtmgccncdbkbcpaaDoor
