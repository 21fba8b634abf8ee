/-
  The law on words that are read as an address or a prefix: its walk.
-/
import Derived.Test.YtmmippdommemmabDoorAddrFns
import Derived.Test.YtmmippdommemmabDoorDrawWords
namespace Go.Proofs.YtmmippdommemmabDoor
open Go.RowKit

set_option maxRecDepth 100000 in
theorem bigA_any (a : Option Addr) (len cap : Nat) (w : World) :
    Calls Tryd.prog 7 #[.slice a len cap] w fun e w' => e = .returned (.bool (decide (1048576 < (len : Int)))) ∧ w' = w := by
  go_enter Tryd.func7, Tryd.ntmps7
  go_wp2
  go_ret
  exact ⟨rfl, rfl⟩
end Go.Proofs.YtmmippdommemmabDoor
