/-
  The exact laws of chapter 8, out of the program's contracts.
-/
import Derived.Test.YtmmippdommemmaoDoorReadGives
import Derived.Test.YtmmippdommemmaoDoorExactAddr
import Derived.Test.YtmmippdommemmaoDoorAddrFns
namespace Go.Proofs.YtmmippdommemmaoDoor
open Go.RowKit

theorem ReadAddr_both (s : ByteArray) (hs : s.size ≤ 1048576) : ∃ (x : Int) (b : Bool),
    (∀ X, LaidA X → Calls Tryd.prog 12 #[.string s] X fun e X' => e = .returned (.tuple #[.int .i64 x, .bool b]) ∧ Below X.heap.size X X') ∧
    (∀ X, Calls Tryd.prog 8 #[.string s] X fun e X' => e = .returned (.tuple #[.int .i64 x, .bool b]) ∧ Below X.heap.size X X') := by
  rcases addr_or s with ⟨a, ha, rfl⟩ | h
  · exact ⟨_, _, implReadAddr_yes a ha, specReadAddr_yes a ha⟩
  · exact ⟨_, _, implReadAddr_no s hs h, specReadAddr_no s (by omega) h⟩
theorem ReadPrefix_both (s : ByteArray) (hs : s.size ≤ 1048576) : ∃ (x y : Int) (b : Bool),
    (∀ X, LaidA X → Calls Tryd.prog 5 #[.string s] X fun e X' => e = .returned (.tuple #[.agg #[.int .i64 x, .int .i64 y], .bool b]) ∧ Below X.heap.size X X') ∧
    (∀ X, Calls Tryd.prog 4 #[.string s] X fun e X' => e = .returned (.tuple #[.agg #[.int .i64 x, .int .i64 y], .bool b]) ∧ Below X.heap.size X X') := by
  rcases pref_or s with ⟨a, n, ha, rfl⟩ | h
  · exact ⟨_, _, _, implReadPrefix_yes a n ha, specReadPrefix_yes a n ha⟩
  · exact ⟨_, _, _, implReadPrefix_no s hs h, specReadPrefix_no s (by omega) h⟩
theorem lawReadPrefix (s : ByteArray) (w : World) (ht : LaidA w) :
    Calls Tryd.prog 3 #[.string s] w fun e w' => e = .returned (.bool true) ∧ Below w.heap.size w w' := by
  by_cases hs : s.size ≤ 1048576
  · obtain ⟨x, y, b, h1, h2⟩ := ReadPrefix_both s hs
    exact lawReadPrefixF LaidA LaidA.all s hs x y b h1 h2 w ht
  · exact lawReadPrefix_big s (by omega) w

end Go.Proofs.YtmmippdommemmaoDoor
