/-
  The law on shared numbers, out of the program's contracts.
-/
import Derived.Test.YtogmmilfdolpnabSharedImpl
import Derived.Test.YtogmmilfdolpnabLawSharedWalk
namespace Go.Proofs.Ytogmmilfdolpnab
open Go.RowKit

theorem sharedFns : SharedFns where
  pub_yes := implPublicOf_yes
  shared_yes := implShared_yes
  shared_no := implShared_no
/-- The law, at every row of bytes. -/
theorem lawShared (a : Option Addr) (len cap : Nat) (w : World) (H : Src a len w) :
    Calls Try.prog 4 #[.slice a len cap] w fun e w' => e = .returned (.bool true) ∧ Below w.heap.size w w' := lawSharedF sharedFns a len cap w H

end Go.Proofs.Ytogmmilfdolpnab
