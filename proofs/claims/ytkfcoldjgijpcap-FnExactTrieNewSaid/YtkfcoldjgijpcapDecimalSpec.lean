/-
  The given Decimal by what it answers at every number.
-/
import Derived.Test.YtkfcoldjgijpcapFigure
import Derived.Test.YtkfcoldjgijpcapPlainAll
namespace Go.Proofs.Ytkfcoldjgijpcap
open Go.RowKit

end Go.Proofs.Ytkfcoldjgijpcap
