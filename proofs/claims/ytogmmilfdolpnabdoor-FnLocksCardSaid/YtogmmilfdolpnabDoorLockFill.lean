/-
  The law on locked texts, out of the program's contracts.
-/
import Derived.Test.YtogmmilfdolpnabDoorOpenAll
import Derived.Test.YtogmmilfdolpnabDoorLawLocksWalk
namespace Go.Proofs.YtogmmilfdolpnabDoor
open Go.RowKit

theorem lockFns : LockFns where
  mask_yes := implMask_yes
  lock_yes := implLock_yes
  lock_no := fun key num s h _ X _ => implLock_no key num s h X
  open_short := fun key num text h X _ => implOpen_short key num text h X
  open_tag := implOpen_tag
/-- The law, at every row of bytes. -/
theorem lawLocks (a : Option Addr) (len cap : Nat) (w : World) (H : Src a len w) (ht : LaidK w) :
    Calls Tryd.prog 3 #[.slice a len cap] w fun e w' => e = .returned (.bool true) ∧ Below w.heap.size w w' := lawLocksF lockFns a len cap w H ht

end Go.Proofs.YtogmmilfdolpnabDoor
