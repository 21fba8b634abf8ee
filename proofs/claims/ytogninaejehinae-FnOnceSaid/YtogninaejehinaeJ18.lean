/-
  The law FnOnce, out of the program's contracts.
-/
import Derived.Test.YtogninaejehinaeJ12
import Derived.Test.YtogninaejehinaeJ13
import Derived.Test.YtogninaejehinaeJ14
import Derived.Test.YtogninaejehinaeJ17
namespace Go.Proofs.Ytogninaejehinae
open Go.RowKit

theorem onceFns : OnceFns where
  ok := fun xs v b hb hl hwf X h => implSeenOk_bool xs v b hb (by omega) hwf X h
  fresh := fun xs n v b hb hl hwf hwn X h => implIsFresh_bool xs n v b hb (by omega) hwf hwn X h
  note := fun xs n v r hr hl hwf hwn X h => implNoteSeen_any xs n v r hr (by omega) hwf hwn X h
  take := fun xs v r hr hl hwf X h => implTakeAll_any xs v r hr (by omega) hwf X h
set_option maxRecDepth 100000 in
set_option maxHeartbeats 800000 in
theorem lawOnce_big (a : Option Addr) (len cap : Nat) (h : 1048576 < len) (w : World) :
    Calls Try.prog 3 #[.slice a len cap] w fun e w' => e = .returned (.bool true) ∧ Below w.heap.size w w' := by
  have hd : decide (1048576 < (len : Int)) = true := decide_eq_true (by omega)
  have HB := Lib.hid (fun w => bigN_any a len cap w)
  rw [hd] at HB
  clear hd
  go_enter Try.func3, Try.ntmps3
  go_wp2_with fail
  refine (HB.out _).mono ?_
  rintro e w1 ⟨rfl, rfl⟩
  go_wp2_with fail
  go_ret
  exact ⟨rfl, Below.refl _ _⟩

/-- The law, at every row of bytes. -/
theorem lawOnce (a : Option Addr) (len cap : Nat) (w : World) (H : Src a len w) :
    Calls Try.prog 3 #[.slice a len cap] w fun e w' => e = .returned (.bool true) ∧ Below w.heap.size w w' := lawOnceF onceFns a len cap w H

end Go.Proofs.Ytogninaejehinae
