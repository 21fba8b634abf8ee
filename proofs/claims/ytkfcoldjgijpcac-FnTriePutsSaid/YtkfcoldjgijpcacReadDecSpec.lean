/-
  The given ReadDecimal by what it answers at every text.
-/
import Derived.Test.YtkfcoldjgijpcacDecimalSpec
import Derived.Test.YtkfcoldjgijpcacPlainAll
namespace Go.Proofs.Ytkfcoldjgijpcac
open Go.RowKit

end Go.Proofs.Ytkfcoldjgijpcac
