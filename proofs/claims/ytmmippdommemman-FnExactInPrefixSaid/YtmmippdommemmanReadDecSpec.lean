/-
  The given ReadDecimal by what it answers at every text.
-/
import Derived.Test.YtmmippdommemmanDecimalSpec
import Derived.Test.YtmmippdommemmanPlainAll
namespace Go.Proofs.Ytmmippdommemman
open Go.RowKit

end Go.Proofs.Ytmmippdommemman
