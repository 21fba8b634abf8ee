/-
  The given Unhex by what it answers at every text.
-/
import Derived.Test.YtcnnmpenahihnaaDoorValue
import Derived.Test.YtcnnmpenahihnaaDoorWorths
namespace Go.Proofs.YtcnnmpenahihnaaDoor
open Go.RowKit

end Go.Proofs.YtcnnmpenahihnaaDoor
