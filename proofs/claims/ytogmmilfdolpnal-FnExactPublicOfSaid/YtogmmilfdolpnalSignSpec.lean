/-
  The given signatures: secrets, public numbers, challenges.
-/
import Derived.Test.YtogmmilfdolpnalPowAll
import Derived.Test.YtogmmilfdolpnalGroupAll
import Derived.Test.YtogmmilfdolpnalNumAll
import Derived.Test.YtogmmilfdolpnalHashSpecs
namespace Go.Proofs.Ytogmmilfdolpnal
open Go.RowKit

set_option maxRecDepth 100000 in
set_option maxHeartbeats 400000 in
theorem specPublicOf_yes (s : Nat) (h1 : 1 ≤ s) (h2 : s ≤ 1073741788) (w : World) :
    Calls Try.prog 4 #[.int .i64 s] w fun e w' => e = .returned (.int .i64 (publicP s : Nat)) ∧ w' = w := by
  have H0 := Lib.hid (inRange_yes (s : Int) 1 1073741788 (by omega) (by omega))
  have hp := specPowP_any 4 (s : Int)
  have e1 : powI 4 (s : Nat) = publicP s := powI_pow s (by omega)
  rw [e1] at hp
  have HP := Lib.hid hp
  generalize publicP s = p at HP
  clear hp e1
  go_enter Try.func4, Try.ntmps4
  go_wp2_with fail
  refine (H0.out _).mono ?_
  rintro e w1 ⟨rfl, rfl⟩
  go_wp2_with fail
  refine (HP.out _).mono ?_
  rintro e w2 ⟨rfl, rfl⟩
  go_wp2_with fail
  go_ret
  exact ⟨rfl, rfl⟩

set_option maxRecDepth 100000 in
set_option maxHeartbeats 400000 in
theorem specPublicOf_no (s : Int) (h : s < 1 ∨ 1073741788 < s) (w : World) :
    Calls Try.prog 4 #[.int .i64 s] w fun e w' => e = .returned (.int .i64 0) ∧ w' = w := by
  have H0 := Lib.hid (inRange_no s 1 1073741788 h)
  clear h
  go_enter Try.func4, Try.ntmps4
  go_wp2_with fail
  refine (H0.out _).mono ?_
  rintro e w1 ⟨rfl, rfl⟩
  go_wp2_with fail
  go_ret
  exact ⟨rfl, rfl⟩

end Go.Proofs.Ytogmmilfdolpnal
