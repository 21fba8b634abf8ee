/-
  The exact law on NoteSeen, at every argument.
-/
import Derived.Test.YtogninaejehinavJ13
import Derived.Test.YtogninaejehinavJ11
import Derived.Test.YtogninaejehinavJ14
namespace Go.Proofs.Ytogninaejehinav
open Go.RowKit

theorem lawNoteSeen (v : Value) (xs : List Int) (n : Int) (hwf : ∀ x ∈ xs, IntZ x) (hwn : IntZ n) (w : World) (ha : layIntS.rd w [v] xs) :
    Calls Try.prog 6 #[v, .int .i64 n] w fun e w' => e = .returned (.bool true) ∧ Below w.heap.size w w' := by
  obtain ⟨r, hr⟩ := note_is xs n
  exact lawNoteSeenF v xs n r (fun hl => by have := note_len hr; omega) (fun hl u X h => implNoteSeen_any xs n u r hr (by omega) hwf hwn X h) (fun hl u X h => specNoteSeen_any xs n u r hr (by omega) X h) w ha

end Go.Proofs.Ytogninaejehinav
