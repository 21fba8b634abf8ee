/-
  Numbers in four bytes, by the given ones: what they answer.
-/
import Derived.Test.YtlgleodljfgecajNumText
namespace Go.Proofs.Ytlgleodljfgecaj
open Go.RowKit

set_option maxRecDepth 100000 in
set_option maxHeartbeats 400000 in
theorem specNumberText_yes (n : Nat) (hn : n < 4294967296) (w : World) :
    Calls Try.prog 11 #[.int .i64 n] w fun e w' => e = .returned (.string ⟨(four n).toArray⟩) ∧ Below w.heap.size w w' := by
  have hr := four_read n hn w
  have h1 : (n : Int) / 16777216 % 256 = (n : Int) / 16777216 := by omega
  have H1 := Lib.hid (inRange_yes (n : Int) 0 4294967295 (by omega) (by omega))
  go_enter Try.func11, Try.ntmps11
  go_wp2_with fail
  refine (H1.out _).mono ?_
  rintro e1 w1 ⟨rfl, rfl⟩
  go_wp2
  go_ret
  exact ⟨rfl, (Below.refl _ _).alloc (Nat.le_refl _) _⟩

set_option maxHeartbeats 400000 in
theorem specNumberText_no (n : Int) (hn : n < 0 ∨ 4294967295 < n) (w : World) :
    Calls Try.prog 11 #[.int .i64 n] w fun e w' => e = .returned (.string ⟨#[]⟩) ∧ Below w.heap.size w w' := by
  have H1 := Lib.hid (inRange_no n 0 4294967295 (by omega))
  clear hn
  go_enter Try.func11, Try.ntmps11
  go_wp2_with fail
  refine (H1.out _).mono ?_
  rintro e1 w1 ⟨rfl, rfl⟩
  go_wp2
  go_ret
  exact ⟨rfl, Below.refl _ _⟩

theorem NumberText_both (n : Int) : ∃ t : ByteArray,
    (∀ w, Calls Try.prog 12 #[.int .i64 n] w fun e w' => e = .returned (.string t) ∧ Below w.heap.size w w') ∧
    (∀ w, Calls Try.prog 11 #[.int .i64 n] w fun e w' => e = .returned (.string t) ∧ Below w.heap.size w w') := by
  by_cases h : 0 ≤ n ∧ n ≤ 4294967295
  · obtain ⟨m, rfl⟩ := Int.eq_ofNat_of_zero_le h.1
    exact ⟨_, fun w => implNumberText_yes m (by omega) w, fun w => specNumberText_yes m (by omega) w⟩
  · exact ⟨_, fun w => implNumberText_no n (by omega) w, fun w => specNumberText_no n (by omega) w⟩

end Go.Proofs.Ytlgleodljfgecaj
