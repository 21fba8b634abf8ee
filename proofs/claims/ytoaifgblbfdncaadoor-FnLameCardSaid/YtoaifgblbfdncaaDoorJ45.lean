/-
  The law FnLame, out of the program's contracts.
-/
import Derived.Test.YtoaifgblbfdncaaDoorJ42
import Derived.Test.YtoaifgblbfdncaaDoorJ44
namespace Go.Proofs.YtoaifgblbfdncaaDoor
open Go.RowKit

set_option maxRecDepth 100000 in
set_option maxHeartbeats 400000 in
theorem lawLame_big (a : Option Addr) (len cap : Nat) (h : 1048576 < len) (w : World) :
    Calls Tryd.prog 3 #[.slice a len cap] w fun e w' => e = .returned (.bool true) ∧ Below w.heap.size w w' := by
  have hd : decide (1048576 < (len : Int)) = true := decide_eq_true (by omega)
  have HBG := Lib.hid (fun w => bigL_any a len cap w)
  rw [hd] at HBG
  go_enter Tryd.func3, Tryd.ntmps3
  go_wp2_with fail
  refine (HBG.out _).mono ?_
  rintro e w1 ⟨rfl, rfl⟩
  go_wp2
  go_ret
  exact ⟨rfl, Below.refl _ _⟩
/-- The law, at every row of bytes. -/
theorem lawLame (a : Option Addr) (len cap : Nat) (w : World) (H : Src a len w) (ht : LaidK w) :
    Calls Tryd.prog 3 #[.slice a len cap] w fun e w' => e = .returned (.bool true) ∧ Below w.heap.size w w' := lawLameF dataFns a len cap w H ht

end Go.Proofs.YtoaifgblbfdncaaDoor
