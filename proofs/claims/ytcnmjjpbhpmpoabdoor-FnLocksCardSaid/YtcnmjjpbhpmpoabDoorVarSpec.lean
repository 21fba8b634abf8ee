/-
  The given VarText: the number's text and true in the range, nothing and false outside of it.
-/
import Derived.Test.YtcnmjjpbhpmpoabDoorVarAll
namespace Go.Proofs.YtcnmjjpbhpmpoabDoor
open Go.RowKit

end Go.Proofs.YtcnmjjpbhpmpoabDoor
