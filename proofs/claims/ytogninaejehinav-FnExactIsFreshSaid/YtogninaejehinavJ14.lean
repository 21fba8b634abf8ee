/-
  The exact law on IsFresh, at every argument.
-/
import Derived.Test.YtogninaejehinavJ12
import Derived.Test.YtogninaejehinavJ08
import Derived.Test.YtogninaejehinavJ13
namespace Go.Proofs.Ytogninaejehinav
open Go.RowKit

theorem lawIsFresh (v : Value) (xs : List Int) (n : Int) (hwf : ∀ x ∈ xs, IntZ x) (hwn : IntZ n) (w : World) (ha : layIntS.rd w [v] xs) :
    Calls Try.prog 5 #[v, .int .i64 n] w fun e w' => e = .returned (.bool true) ∧ Below w.heap.size w w' := by
  obtain ⟨b, hb⟩ : ∃ b : Bool, b = true ↔ FreshP xs n := by
    by_cases h : FreshP xs n
    · exact ⟨true, fun _ => h, fun _ => rfl⟩
    · exact ⟨false, fun e => (by cases e), fun e => absurd e h⟩
  exact lawIsFreshF v xs n b (fun hl u X h => implIsFresh_bool xs n u b hb (by omega) hwf hwn X h) (fun hl u X h => specIsFresh_bool xs n u b hb (by omega) X h) w ha

end Go.Proofs.Ytogninaejehinav
