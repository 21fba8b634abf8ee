/-
  The exact law on TakeAll, at every argument.
-/
import Derived.Test.YtogninaejehinawJ13
import Derived.Test.YtogninaejehinawJ15
namespace Go.Proofs.Ytogninaejehinaw
open Go.RowKit

theorem lawTakeAll (v : Value) (xs : List Int) (hwf : ∀ x ∈ xs, IntZ x) (w : World) (ha : layIntS.rd w [v] xs) :
    Calls Try.prog 3 #[v] w fun e w' => e = .returned (.bool true) ∧ Below w.heap.size w w' := by
  obtain ⟨r, hr⟩ := takes_is xs []
  exact lawTakeAllF v xs r (fun hl => by have := takes_len hr; omega) (fun hl u X h => implTakeAll_any xs u r hr (by omega) hwf X h) (fun hl u X h => specTakeAll_any xs u r hr (by omega) X h) w ha

end Go.Proofs.Ytogninaejehinaw
