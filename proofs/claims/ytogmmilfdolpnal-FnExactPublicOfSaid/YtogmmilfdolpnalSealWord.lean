/-
  Four bytes of a sum, as the program and as the given one lay them.
-/
import Derived.Test.YtogmmilfdolpnalRows
import Derived.Test.YtogmmilfdolpnalKit
import Derived.Test.YtogmmilfdolpnalPlainAll
import Derived.Deep.RegionHeld3
import Derived.BigQuiet
import Derived.Deep.QuietTactic
import Derived.Deep.DeepCutAuto
namespace Go.Proofs.Ytogmmilfdolpnal
open Go.RowKit

end Go.Proofs.Ytogmmilfdolpnal
