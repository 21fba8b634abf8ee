/-
  The law FnData, out of the program's contracts.
-/
import Derived.Test.YtoaifgblbfdncaaGreatDoorJ42
import Derived.Test.YtoaifgblbfdncaaGreatDoorJ45
namespace Go.Proofs.YtoaifgblbfdncaaGreatDoor
open Go.RowKit

set_option maxRecDepth 100000 in
set_option maxHeartbeats 400000 in
theorem lawData_big (a : Option Addr) (len cap : Nat) (h : 1048576 < len) (w : World) :
    Calls Tryz.prog 3 #[.slice a len cap] w fun e w' => e = .returned (.bool true) ∧ Below w.heap.size w w' := by
  have hd : decide (1048576 < (len : Int)) = true := decide_eq_true (by omega)
  have HBG := Lib.hid (fun w => bigD_any a len cap w)
  rw [hd] at HBG
  go_enter Tryz.func3, Tryz.ntmps3
  go_wp2_with fail
  refine (HBG.out _).mono ?_
  rintro e w1 ⟨rfl, rfl⟩
  go_wp2
  go_ret
  exact ⟨rfl, Below.refl _ _⟩
/-- The law, at every row of bytes. -/
theorem lawData (a : Option Addr) (len cap : Nat) (w : World) (H : Src a len w) (ht : LaidK w) :
    Calls Tryz.prog 3 #[.slice a len cap] w fun e w' => e = .returned (.bool true) ∧ Below w.heap.size w w' := lawDataF dataFns2 a len cap w H ht

end Go.Proofs.YtoaifgblbfdncaaGreatDoor
