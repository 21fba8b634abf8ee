/-
  The law FnPieces, out of the program's contracts.
-/
import Derived.Test.YtfhlpgngeiploaaJ28
import Derived.Test.YtfhlpgngeiploaaJ30
namespace Go.Proofs.Ytfhlpgngeiploaa
open Go.RowKit

set_option maxRecDepth 100000 in
set_option maxHeartbeats 800000 in
theorem lawPieces_big (a : Option Addr) (len cap : Nat) (h : 1048576 < len) (w : World) :
    Calls Try.prog 3 #[.slice a len cap] w fun e w' => e = .returned (.bool true) ∧ Below w.heap.size w w' := by
  have hd : decide (1048576 < (len : Int)) = true := decide_eq_true (by omega)
  have HB := Lib.hid (fun w => bigP_any a len cap w)
  rw [hd] at HB
  clear hd
  go_enter Try.func3, Try.ntmps3
  go_wp2_with fail
  refine (HB.out _).mono ?_
  rintro e w1 ⟨rfl, rfl⟩
  go_wp2_with fail
  go_ret
  exact ⟨rfl, Below.refl _ _⟩

/-- The law, at every row of bytes. -/
theorem lawPieces (a : Option Addr) (len cap : Nat) (w : World) (H : Src a len w) :
    Calls Try.prog 3 #[.slice a len cap] w fun e w' => e = .returned (.bool true) ∧ Below w.heap.size w w' := lawPiecesF pieceFns a len cap w H

end Go.Proofs.Ytfhlpgngeiploaa
