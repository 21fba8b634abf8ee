/-
  The law FnAddrs, out of the program's contracts.
-/
import Derived.Test.YtmmippdommemmabDoorAddrFill
import Derived.Test.YtmmippdommemmabDoorLawAddrsWalk
namespace Go.Proofs.YtmmippdommemmabDoor
open Go.RowKit

/-- The law, at every row of bytes. -/
theorem lawAddrs (a : Option Addr) (len cap : Nat) (w : World) (H : Src a len w) (ht : LaidA w) :
    Calls Tryd.prog 6 #[.slice a len cap] w fun e w' => e = .returned (.bool true) ∧ Below w.heap.size w w' := lawAddrsF LaidA addrFns a len cap w H ht

end Go.Proofs.YtmmippdommemmabDoor
