/-
  The given Decimal by what it answers at every number.
-/
import Derived.Test.YtkfcoldjgijpcacFigure
import Derived.Test.YtkfcoldjgijpcacPlainAll
namespace Go.Proofs.Ytkfcoldjgijpcac
open Go.RowKit

end Go.Proofs.Ytkfcoldjgijpcac
