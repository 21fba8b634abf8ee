/-
  A row of ints of the call's own stays where an order is drawn.
-/
import Derived.Test.YtpfkokjbpfaafaeDoorJ05
namespace Go.Proofs.YtpfkokjbpfaafaeDoor
open Go.RowKit

theorem own_drew {Y : World} {f : List Nat} {b : Nat} {c : List Value} {r : List Int} (h : layIntS.own Y b f c r) : layIntS.own Y.drew b f c r := layIntS.keep h (fun _ _ => rfl)

end Go.Proofs.YtpfkokjbpfaafaeDoor
