/-
  The given InPrefix where the prefix or the address is not right, and by what it answers.
-/
import Derived.Test.YtmmippdommemmaoDoorPrefixSpec
namespace Go.Proofs.YtmmippdommemmaoDoor
open Go.RowKit

end Go.Proofs.YtmmippdommemmaoDoor
