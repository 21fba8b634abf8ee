/-
  The law FnAddrReads, out of the program's contracts.
-/
import Derived.Test.YtmmippdommemmacDoorAddrFill
import Derived.Test.YtmmippdommemmacDoorLawAddrReadsWalk
namespace Go.Proofs.YtmmippdommemmacDoor
open Go.RowKit

/-- The law, at every row of bytes. -/
theorem lawAddrReads (a : Option Addr) (len cap : Nat) (w : World) (H : Src a len w) (ht : LaidA w) :
    Calls Tryd.prog 3 #[.slice a len cap] w fun e w' => e = .returned (.bool true) ∧ Below w.heap.size w w' := lawAddrReadsF LaidA addrFns a len cap w H ht

end Go.Proofs.YtmmippdommemmacDoor
