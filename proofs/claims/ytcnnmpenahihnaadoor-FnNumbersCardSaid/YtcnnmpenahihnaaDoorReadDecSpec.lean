/-
  The given ReadDecimal by what it answers at every text.
-/
import Derived.Test.YtcnnmpenahihnaaDoorDecimalSpec
import Derived.Test.YtcnnmpenahihnaaDoorPlainReadDec
namespace Go.Proofs.YtcnnmpenahihnaaDoor
open Go.RowKit

end Go.Proofs.YtcnnmpenahihnaaDoor
