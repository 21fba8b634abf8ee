/-
  ShortText, the given one and the program's, answer one value at every text.
-/
import Derived.Test.YtcnnmpenahihnahVarImpl
namespace Go.Proofs.Ytcnnmpenahihnah
open Go.RowKit

set_option maxHeartbeats 400000 in
theorem specShortText_yes (s : ByteArray) (hs : s.size ≤ 20000) (w : World) :
    Calls Try.prog 8 #[.string s] w fun e w' => e = .returned (.tuple #[.string (⟨(var s.size).toArray⟩ ++ s), .bool true]) ∧ Below w.heap.size w w' := by
  have h1 : ¬ 20000 < (s.size : Int) := by omega
  have hl := var_length s.size
  have hz := size_list (var s.size)
  have H := Lib.hid (fun w => l01Var_any s.size (by omega) w)
  go_enter Try.func8, Try.ntmps8
  go_wp2_with fail
  refine (H.out _).mono ?_
  rintro e w1 ⟨rfl, hb1⟩
  go_wp2
  go_ret2
  exact ⟨rfl, hb1⟩

set_option maxHeartbeats 400000 in
theorem specShortText_no (s : ByteArray) (hs : 20000 < s.size) (w : World) :
    Calls Try.prog 8 #[.string s] w fun e w' => e = .returned (.tuple #[.string ⟨#[]⟩, .bool false]) ∧ Below w.heap.size w w' := by
  have h1 : 20000 < (s.size : Int) := by omega
  go_enter Try.func8, Try.ntmps8
  go_wp2
  go_ret2
  exact ⟨rfl, Below.refl _ _⟩

set_option maxHeartbeats 400000 in
theorem implShortText_yes (s : ByteArray) (hs : s.size ≤ 20000) (w : World) :
    Calls Try.prog 9 #[.string s] w fun e w' => e = .returned (.tuple #[.string (⟨(var s.size).toArray⟩ ++ s), .bool true]) ∧ Below w.heap.size w w' := by
  have h1 : ¬ 20000 < (s.size : Int) := by omega
  have hl := var_length s.size
  have hz := size_list (var s.size)
  have H := Lib.hid (fun w => implVarText_yes s.size (by omega) w)
  go_enter Try.func9, Try.ntmps9
  go_wp2_with fail
  refine (H.out _).mono ?_
  rintro e w1 ⟨rfl, hb1⟩
  go_wp2
  go_ret2
  exact ⟨rfl, hb1⟩

set_option maxHeartbeats 400000 in
theorem implShortText_no (s : ByteArray) (hs : 20000 < s.size) (w : World) :
    Calls Try.prog 9 #[.string s] w fun e w' => e = .returned (.tuple #[.string ⟨#[]⟩, .bool false]) ∧ Below w.heap.size w w' := by
  have h1 : 20000 < (s.size : Int) := by omega
  go_enter Try.func9, Try.ntmps9
  go_wp2
  go_ret2
  exact ⟨rfl, Below.refl _ _⟩

/-- One value for both. -/
theorem shortText_both (s : ByteArray) : ∃ (t : ByteArray) (b : Bool),
    (∀ w, Calls Try.prog 8 #[.string s] w fun e w' => e = .returned (.tuple #[.string t, .bool b]) ∧ Below w.heap.size w w') ∧
    (∀ w, Calls Try.prog 9 #[.string s] w fun e w' => e = .returned (.tuple #[.string t, .bool b]) ∧ Below w.heap.size w w') := by
  by_cases hs : s.size ≤ 20000
  · exact ⟨_, _, fun w => specShortText_yes s hs w, fun w => implShortText_yes s hs w⟩
  · exact ⟨_, _, fun w => specShortText_no s (by omega) w, fun w => implShortText_no s (by omega) w⟩

end Go.Proofs.Ytcnnmpenahihnah
