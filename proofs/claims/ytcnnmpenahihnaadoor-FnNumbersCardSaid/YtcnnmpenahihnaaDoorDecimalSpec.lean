/-
  The given Decimal by what it answers at every number.
-/
import Derived.Test.YtcnnmpenahihnaaDoorFigure
import Derived.Test.YtcnnmpenahihnaaDoorPlainDec
namespace Go.Proofs.YtcnnmpenahihnaaDoor
open Go.RowKit

end Go.Proofs.YtcnnmpenahihnaaDoor
