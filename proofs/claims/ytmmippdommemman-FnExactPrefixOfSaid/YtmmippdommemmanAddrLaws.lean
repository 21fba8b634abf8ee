/-
  The exact laws of chapter 8, out of the program's contracts.
-/
import Derived.Test.YtmmippdommemmanAddrImpl
import Derived.Test.YtmmippdommemmanExactAddr
import Derived.Test.YtmmippdommemmanAddrFns
namespace Go.Proofs.Ytmmippdommemman
open Go.RowKit

theorem AddrOk_both (a : Int) : ∃ (b : Bool),
    (∀ X, (fun _ => True) X → Calls Try.prog 17 #[.int .i64 a] X fun e X' => e = .returned (.bool b) ∧ Below X.heap.size X X') ∧
    (∀ X, Calls Try.prog 14 #[.int .i64 a] X fun e X' => e = .returned (.bool b) ∧ Below X.heap.size X X') := by
  by_cases h : a < 0 ∨ 4294967295 < a
  · exact ⟨_, fun X _ => implAddrOk_no a h X, fun X => (specAddrOk_no a h X).mono (by rintro e Y ⟨rfl, rfl⟩; exact ⟨rfl, Below.refl _ _⟩)⟩
  · exact ⟨_, fun X _ => implAddrOk_yes a (by omega) (by omega) X, fun X => (specAddrOk_yes a (by omega) (by omega) X).mono (by rintro e Y ⟨rfl, rfl⟩; exact ⟨rfl, Below.refl _ _⟩)⟩
theorem PrefixOk_both (a n : Int) : ∃ (b : Bool),
    (∀ X, (fun _ => True) X → Calls Try.prog 8 #[.agg #[.int .i64 a, .int .i64 n]] X fun e X' => e = .returned (.bool b) ∧ Below X.heap.size X X') ∧
    (∀ X, Calls Try.prog 6 #[.agg #[.int .i64 a, .int .i64 n]] X fun e X' => e = .returned (.bool b) ∧ Below X.heap.size X X') := by
  by_cases h : PrefOk a n
  · exact ⟨_, fun X _ => implPrefixOk_yes a n h X, specPrefixOk_right a n h⟩
  · exact ⟨_, fun X _ => implPrefixOk_no a n h X, specPrefixOk_wrong a n h⟩
theorem lawPrefixOk (a n : Int) (w : World) :
    Calls Try.prog 3 #[.agg #[.int .i64 a, .int .i64 n]] w fun e w' => e = .returned (.bool true) ∧ Below w.heap.size w w' := by
  obtain ⟨b, h1, h2⟩ := PrefixOk_both a n
  exact lawPrefixOkF (fun _ => True) (fun _ _ _ _ => trivial) a n b h1 h2 w trivial
theorem PrefixOf_both (a n : Int) : ∃ (x y : Int) (b : Bool),
    (∀ X, (fun _ => True) X → Calls Try.prog 10 #[.int .i64 a, .int .i64 n] X fun e X' => e = .returned (.tuple #[.agg #[.int .i64 x, .int .i64 y], .bool b]) ∧ Below X.heap.size X X') ∧
    (∀ X, Calls Try.prog 9 #[.int .i64 a, .int .i64 n] X fun e X' => e = .returned (.tuple #[.agg #[.int .i64 x, .int .i64 y], .bool b]) ∧ Below X.heap.size X X') := by
  by_cases h : (a < 0 ∨ 4294967295 < a) ∨ (n < 0 ∨ 32 < n)
  · exact ⟨_, _, _, fun X _ => implPrefixOf_no a n h X, specPrefixOf_no a n h⟩
  · obtain ⟨m, rfl⟩ : ∃ m : Nat, a = (m : Int) := ⟨a.toNat, by omega⟩
    obtain ⟨k, rfl⟩ : ∃ k : Nat, n = (k : Int) := ⟨n.toNat, by omega⟩
    exact ⟨_, _, _, fun X _ => implPrefixOf_yes m k (by omega) (by omega) X, specPrefixOf_yes m k (by omega) (by omega)⟩
theorem lawPrefixOf (a n : Int) (w : World) :
    Calls Try.prog 4 #[.int .i64 a, .int .i64 n] w fun e w' => e = .returned (.bool true) ∧ Below w.heap.size w w' := by
  obtain ⟨x, y, b, h1, h2⟩ := PrefixOf_both a n
  exact lawPrefixOfF (fun _ => True) (fun _ _ _ _ => trivial) a n x y b h1 h2 w trivial
theorem InPrefix_both (a n x : Int) : ∃ (b : Bool),
    (∀ X, (fun _ => True) X → Calls Try.prog 13 #[.agg #[.int .i64 a, .int .i64 n], .int .i64 x] X fun e X' => e = .returned (.bool b) ∧ Below X.heap.size X X') ∧
    (∀ X, Calls Try.prog 12 #[.agg #[.int .i64 a, .int .i64 n], .int .i64 x] X fun e X' => e = .returned (.bool b) ∧ Below X.heap.size X X') := by
  by_cases h : InPref a n x
  · exact ⟨_, fun X _ => implInPrefix_yes a n x h X, specInPrefix_yes a n x h⟩
  · exact ⟨_, fun X _ => implInPrefix_no a n x h X, specInPrefix_no a n x h⟩
theorem lawInPrefix (a n x : Int) (w : World) :
    Calls Try.prog 5 #[.agg #[.int .i64 a, .int .i64 n], .int .i64 x] w fun e w' => e = .returned (.bool true) ∧ Below w.heap.size w w' := by
  obtain ⟨b, h1, h2⟩ := InPrefix_both a n x
  exact lawInPrefixF (fun _ => True) (fun _ _ _ _ => trivial) a n x b h1 h2 w trivial

end Go.Proofs.Ytmmippdommemman
