/-
  ShortText, the given one and the program's, answer one value at every text.
-/
import Derived.Test.YtcnnmpenahihnaaDoorVarImpl
namespace Go.Proofs.YtcnnmpenahihnaaDoor
open Go.RowKit

set_option maxHeartbeats 400000 in
theorem implShortText_yes (s : ByteArray) (hs : s.size ≤ 20000) (w : World) :
    Calls Tryd.prog 11 #[.string s] w fun e w' => e = .returned (.tuple #[.string (⟨(var s.size).toArray⟩ ++ s), .bool true]) ∧ Below w.heap.size w w' := by
  have h1 : ¬ 20000 < (s.size : Int) := by omega
  have hl := var_length s.size
  have hz := size_list (var s.size)
  have H := Lib.hid (fun w => implVarText_yes s.size (by omega) w)
  go_enter Tryd.func11, Tryd.ntmps11
  go_wp2_with fail
  refine (H.out _).mono ?_
  rintro e w1 ⟨rfl, hb1⟩
  go_wp2
  go_ret2
  exact ⟨rfl, hb1⟩

set_option maxHeartbeats 400000 in
theorem implShortText_no (s : ByteArray) (hs : 20000 < s.size) (w : World) :
    Calls Tryd.prog 11 #[.string s] w fun e w' => e = .returned (.tuple #[.string ⟨#[]⟩, .bool false]) ∧ Below w.heap.size w w' := by
  have h1 : 20000 < (s.size : Int) := by omega
  go_enter Tryd.func11, Tryd.ntmps11
  go_wp2
  go_ret2
  exact ⟨rfl, Below.refl _ _⟩

end Go.Proofs.YtcnnmpenahihnaaDoor
