/-
  The given signatures: secrets, public numbers, challenges.
-/
import Derived.Test.YtogmmilfdolpnamPowAll
import Derived.Test.YtogmmilfdolpnamGroupAll
import Derived.Test.YtogmmilfdolpnamNumAll
import Derived.Test.YtogmmilfdolpnamHashSpecs
namespace Go.Proofs.Ytogmmilfdolpnam
open Go.RowKit

end Go.Proofs.Ytogmmilfdolpnam
