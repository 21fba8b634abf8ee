/-
  The laws on pools, out of the program's contracts.
-/
import Derived.Test.YtphmomlgmnllkacJ39
import Derived.Test.YtphmomlgmnllkacJ43
namespace Go.Proofs.Ytphmomlgmnllkac
open Go.RowKit

theorem grantFns : GrantFns (fun _ => True) where
  stays := fun _ _ _ _ => trivial
  ok := fun pa pn lv fv ls fs h1 h2 X _ hr => implPoolOk_any pa pn lv fv ls fs h1 h2 X hr
  holder := fun pa pn lv fv ls fs a h1 X _ hr => implHolderOf_any pa pn lv fv ls fs a h1 X hr
  grant := fun pa pn lv fv ls fs who now h1 h2 X _ hr => implGrant_any pa pn lv fv ls fs who now h1 h2 X hr
  release := fun pa pn lv fv ls fs who h1 h2 X _ hr => implRelease_any pa pn lv fv ls fs who h1 h2 X hr
set_option maxRecDepth 100000 in
set_option maxHeartbeats 400000 in
theorem lawGrants_big (a : Option Addr) (len cap : Nat) (h : 1048576 < len) (w : World) :
    Calls Try.prog 7 #[.slice a len cap] w fun e w' => e = .returned (.bool true) ∧ Below w.heap.size w w' := by
  have hd : decide (1048576 < (len : Int)) = true := decide_eq_true (by omega)
  have HB := Lib.hid (fun w => bigE_any a len cap w)
  rw [hd] at HB
  clear hd
  go_enter Try.func7, Try.ntmps7
  go_wp2_with fail
  refine (HB.out _).mono ?_
  rintro e w1 ⟨rfl, rfl⟩
  go_wp2_with fail
  go_ret
  exact ⟨rfl, Below.refl _ _⟩
/-- The laws, at every row of bytes. -/
theorem lawGrants (a : Option Addr) (len cap : Nat) (w : World) (H : Src a len w) :
    Calls Try.prog 7 #[.slice a len cap] w fun e w' => e = .returned (.bool true) ∧ Below w.heap.size w w' := lawGrantsF _ grantFns a len cap w H trivial
end Go.Proofs.Ytphmomlgmnllkac
