/-
  Numbers in four bytes, by the program and by the given ones: what they answer.
-/
import Derived.Test.YtmmippdommemmanDoorSealWord
import Derived.Test.YtmmippdommemmanDoorInRange
import Derived.Test.YtmmippdommemmanDoorPlainFour
namespace Go.Proofs.YtmmippdommemmanDoor
open Go.RowKit

set_option maxHeartbeats 400000 in
theorem implNumberText_yes (n : Nat) (hn : n < 4294967296) (w : World) :
    Calls Tryd.prog 16 #[.int .i64 n] w fun e w' => e = .returned (.string ⟨(four n).toArray⟩) ∧ Below w.heap.size w w' := by
  have h1 : ¬ ((n : Int) < 0) := by omega
  have h2 : ¬ (4294967295 < (n : Int)) := by omega
  have h3 : (n : Int) % 4294967296 = (n : Int) := by omega
  have H1 := Lib.hid (wordText_any n hn)
  go_enter Tryd.func16, Tryd.ntmps16
  go_wp2_with fail
  refine (H1.out _).mono ?_
  rintro e1 w1 ⟨rfl, hb1⟩
  go_wp2
  go_ret
  exact ⟨rfl, hb1⟩

set_option maxHeartbeats 400000 in
theorem implNumberText_no (n : Int) (hn : n < 0 ∨ 4294967295 < n) (w : World) :
    Calls Tryd.prog 16 #[.int .i64 n] w fun e w' => e = .returned (.string ⟨#[]⟩) ∧ Below w.heap.size w w' := by
  by_cases h1 : n < 0
  · clear hn
    go_enter Tryd.func16, Tryd.ntmps16
    go_wp2
    go_ret
    exact ⟨rfl, Below.refl _ _⟩
  · have h2 : 4294967295 < n := by omega
    clear hn
    go_enter Tryd.func16, Tryd.ntmps16
    go_wp2
    go_ret
    exact ⟨rfl, Below.refl _ _⟩

end Go.Proofs.YtmmippdommemmanDoor
