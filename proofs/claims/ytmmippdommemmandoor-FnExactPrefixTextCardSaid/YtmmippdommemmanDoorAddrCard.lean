/-
  The exact laws of chapter 8, out of the program's contracts.
-/
import Derived.Test.YtmmippdommemmanDoorAddrGives
import Derived.Test.YtmmippdommemmanDoorExactAddr
import Derived.Test.YtmmippdommemmanDoorAddrFns
namespace Go.Proofs.YtmmippdommemmanDoor
open Go.RowKit

theorem AddrText_both (a : Int) : ∃ (t : ByteArray),
    (∀ X, LaidT X → Calls Tryd.prog 7 #[.int .i64 a] X fun e X' => e = .returned (.string t) ∧ Below X.heap.size X X') ∧
    (∀ X, Calls Tryd.prog 6 #[.int .i64 a] X fun e X' => e = .returned (.string t) ∧ Below X.heap.size X X') := by
  by_cases h : a < 0 ∨ 4294967295 < a
  · exact ⟨_, fun X _ => implAddrText_no a h X, specAddrText_no a h⟩
  · obtain ⟨m, rfl⟩ : ∃ m : Nat, a = (m : Int) := ⟨a.toNat, by omega⟩
    exact ⟨_, implAddrText_yes m (by omega), specAddrText_yes m (by omega)⟩
theorem lawAddrText (a : Int) (w : World) (ht : LaidT w) :
    Calls Tryd.prog 3 #[.int .i64 a] w fun e w' => e = .returned (.bool true) ∧ Below w.heap.size w w' := by
  obtain ⟨t, h1, h2⟩ := AddrText_both a
  exact lawAddrTextF LaidT LaidT.all a t h1 h2 w ht
theorem PrefixText_both (a n : Int) : ∃ (t : ByteArray) (b : Bool),
    (∀ X, LaidT X → Calls Tryd.prog 12 #[.agg #[.int .i64 a, .int .i64 n]] X fun e X' => e = .returned (.tuple #[.string t, .bool b]) ∧ Below X.heap.size X X') ∧
    (∀ X, Calls Tryd.prog 10 #[.agg #[.int .i64 a, .int .i64 n]] X fun e X' => e = .returned (.tuple #[.string t, .bool b]) ∧ Below X.heap.size X X') := by
  by_cases h : PrefOk a n
  · have h1 : 0 ≤ a := h.1.1
    have h2 : 0 ≤ n := h.2.1.1
    obtain ⟨m, rfl⟩ : ∃ m : Nat, a = (m : Int) := ⟨a.toNat, by omega⟩
    obtain ⟨k, rfl⟩ : ∃ k : Nat, n = (k : Int) := ⟨n.toNat, by omega⟩
    exact ⟨_, _, implPrefixText_yes m k h, specPrefixText_yes m k h⟩
  · exact ⟨_, _, fun X _ => implPrefixText_no a n h X, specPrefixText_no a n h⟩
theorem lawPrefixText (a n : Int) (w : World) (ht : LaidT w) :
    Calls Tryd.prog 5 #[.agg #[.int .i64 a, .int .i64 n]] w fun e w' => e = .returned (.bool true) ∧ Below w.heap.size w w' := by
  obtain ⟨t, b, h1, h2⟩ := PrefixText_both a n
  exact lawPrefixTextF LaidT LaidT.all a n t b h1 h2 w ht

end Go.Proofs.YtmmippdommemmanDoor
