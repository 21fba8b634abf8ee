/-
  The law FnOptions, out of the program's contracts.
-/
import Derived.Test.YtmgdhlodifkemadDoorJ34
import Derived.Test.YtmgdhlodifkemadDoorJ35
namespace Go.Proofs.YtmgdhlodifkemadDoor
open Go.RowKit

set_option maxRecDepth 100000 in
set_option maxHeartbeats 800000 in
theorem lawOptions_big (a : Option Addr) (len cap : Nat) (h : 1048576 < len) (w : World) :
    Calls Tryd.prog 4 #[.slice a len cap] w fun e w' => e = .returned (.bool true) ∧ Below w.heap.size w w' := by
  have hd : decide (1048576 < (len : Int)) = true := decide_eq_true (by omega)
  have HB := Lib.hid (fun w => bigO_any a len cap w)
  rw [hd] at HB
  clear hd
  go_enter Tryd.func4, Tryd.ntmps4
  go_wp2_with fail
  refine (HB.out _).mono ?_
  rintro e w1 ⟨rfl, rfl⟩
  go_wp2_with fail
  go_ret
  exact ⟨rfl, Below.refl _ _⟩
/-- The law, at every row of bytes. -/
theorem lawOptions (a : Option Addr) (len cap : Nat) (w : World) (H : Src a len w) (ht : LaidA w) :
    Calls Tryd.prog 4 #[.slice a len cap] w fun e w' => e = .returned (.bool true) ∧ Below w.heap.size w w' := lawOptionsF optFns a len cap w H ht

end Go.Proofs.YtmgdhlodifkemadDoor
