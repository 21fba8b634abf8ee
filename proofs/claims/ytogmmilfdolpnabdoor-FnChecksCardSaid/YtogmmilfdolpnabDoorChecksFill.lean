/-
  The law FnChecks, out of the program's contracts.
-/
import Derived.Test.YtogmmilfdolpnabDoorSignFill
import Derived.Test.YtogmmilfdolpnabDoorLawChecksWalk
namespace Go.Proofs.YtogmmilfdolpnabDoor
open Go.RowKit

/-- The law, at every row of bytes. -/
theorem lawChecks (a : Option Addr) (len cap : Nat) (w : World) (H : Src a len w) (ht : LaidK w) :
    Calls Tryd.prog 5 #[.slice a len cap] w fun e w' => e = .returned (.bool true) ∧ Below w.heap.size w w' := lawChecksF signFns a len cap w H ht

end Go.Proofs.YtogmmilfdolpnabDoor
