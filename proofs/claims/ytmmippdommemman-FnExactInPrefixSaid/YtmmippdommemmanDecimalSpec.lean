/-
  The given Decimal by what it answers at every number.
-/
import Derived.Test.YtmmippdommemmanFigure
import Derived.Test.YtmmippdommemmanPlainAll
namespace Go.Proofs.Ytmmippdommemman
open Go.RowKit

end Go.Proofs.Ytmmippdommemman
