/-
  The given ReadDecimal by what it answers at every text.
-/
import Derived.Test.YtkfcoldjgijpcapDecimalSpec
import Derived.Test.YtkfcoldjgijpcapPlainAll
namespace Go.Proofs.Ytkfcoldjgijpcap
open Go.RowKit

end Go.Proofs.Ytkfcoldjgijpcap
