/-
  The exact laws of chapter 8, out of the program's contracts.
-/
import Derived.Test.YtmmippdommemmanDoorReadGives
import Derived.Test.YtmmippdommemmanDoorExactAddr
import Derived.Test.YtmmippdommemmanDoorAddrFns
namespace Go.Proofs.YtmmippdommemmanDoor
open Go.RowKit

theorem ReadAddr_both (s : ByteArray) (hs : s.size ≤ 1048576) : ∃ (x : Int) (b : Bool),
    (∀ X, LaidA X → Calls Tryd.prog 9 #[.string s] X fun e X' => e = .returned (.tuple #[.int .i64 x, .bool b]) ∧ Below X.heap.size X X') ∧
    (∀ X, Calls Tryd.prog 8 #[.string s] X fun e X' => e = .returned (.tuple #[.int .i64 x, .bool b]) ∧ Below X.heap.size X X') := by
  rcases addr_or s with ⟨a, ha, rfl⟩ | h
  · exact ⟨_, _, implReadAddr_yes a ha, specReadAddr_yes a ha⟩
  · exact ⟨_, _, implReadAddr_no s hs h, specReadAddr_no s (by omega) h⟩
theorem lawReadAddr (s : ByteArray) (w : World) (ht : LaidA w) :
    Calls Tryd.prog 4 #[.string s] w fun e w' => e = .returned (.bool true) ∧ Below w.heap.size w w' := by
  by_cases hs : s.size ≤ 1048576
  · obtain ⟨x, b, h1, h2⟩ := ReadAddr_both s hs
    exact lawReadAddrF LaidA LaidA.all s hs x b h1 h2 w ht
  · exact lawReadAddr_big s (by omega) w
end Go.Proofs.YtmmippdommemmanDoor
