/-
  Who is in the group, by the given one: what it answers.
-/
import Derived.Test.YtlgleodljfgecajGroupPowSpec
import Derived.Test.YtlgleodljfgecajGroup
namespace Go.Proofs.Ytlgleodljfgecaj
open Go.RowKit

set_option maxRecDepth 100000 in
set_option maxHeartbeats 400000 in
theorem specInGroup_any (y : Int) (w : World) :
    Calls Try.prog 9 #[.int .i64 y] w fun x w' => x = .returned (.bool (inGroup y)) ∧ w' = w := by
  have H1 := Lib.hid (specPowP_any y 1073741789)
  unfold inGroup
  generalize powI y 1073741789 = n at H1 ⊢
  by_cases h : 2 ≤ y ∧ y ≤ 2147483578
  · have E := Lib.hid (inGroup_mid y n h.1 (by omega))
    rw [E.out]
    have H0 := Lib.hid (inRange_yes y 2 2147483578 h.1 h.2)
    clear E h
    go_enter Try.func9, Try.ntmps9
    go_wp2_with fail
    refine (H0.out _).mono ?_
    rintro e0 w0 ⟨rfl, rfl⟩
    go_wp2_with fail
    refine (H1.out _).mono ?_
    rintro e1 w1 ⟨rfl, rfl⟩
    go_wp2
    go_ret
    exact ⟨rfl, rfl⟩
  · have E : Hid (inGroupOf y n = false) := by
      show inGroupOf y n = false
      by_cases h1 : 2 ≤ y
      · exact inGroup_high y n (by omega)
      · exact inGroup_low y n h1
    rw [E.out]
    have H0 := Lib.hid (inRange_no y 2 2147483578 (by omega))
    clear E h
    go_enter Try.func9, Try.ntmps9
    go_wp2_with fail
    refine (H0.out _).mono ?_
    rintro e0 w0 ⟨rfl, rfl⟩
    go_wp2
    go_ret
    exact ⟨rfl, rfl⟩

end Go.Proofs.Ytlgleodljfgecaj
