/-
  The given VarText: the number's text and true in the range, nothing and false outside of it.
-/
import Derived.Test.YtcnmjjpbhpmpoalDoorVarAll
namespace Go.Proofs.YtcnmjjpbhpmpoalDoor
open Go.RowKit

end Go.Proofs.YtcnmjjpbhpmpoalDoor
