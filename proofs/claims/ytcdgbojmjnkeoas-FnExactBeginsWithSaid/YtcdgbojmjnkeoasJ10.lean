/-
  The exact laws on TurnOk and BeginsWith, at every argument.
-/
import Derived.Test.YtcdgbojmjnkeoasJ08
import Derived.Test.YtcdgbojmjnkeoasJ09
namespace Go.Proofs.Ytcdgbojmjnkeoas
open Go.RowKit

theorem bool_of (p : Prop) : ∃ c : Bool, c = true ↔ p := by
  by_cases h : p
  · exact ⟨true, ⟨fun _ => h, fun _ => rfl⟩⟩
  · exact ⟨false, ⟨fun e => (by cases e), fun e => absurd e h⟩⟩
theorem lawTurnOk (n0 n1 n2 : Int) (w : World) :
    Calls Try.prog 3 #[.agg #[.int .i64 n0, .int .i64 n1, .int .i64 n2]] w fun e w' => e = .returned (.bool true) ∧ Below w.heap.size w w' := by
  obtain ⟨b, hb⟩ := bool_of (TurnP n0 n1 n2)
  exact lawTurnOkF n0 n1 n2 b (fun X => implTurnOk_bool n0 n1 n2 b hb X) (fun X => specTurnOk_bool n0 n1 n2 b hb X) w
theorem lawBeginsWith (va vb : Value) (ps bs : List ByteArray) (ka : RoomString ps) (kb : RoomString bs) (w : World) (ha : layStringS.rd w [va] ps) (hb : layStringS.rd w [vb] bs) :
    Calls Try.prog 4 #[va, vb] w fun e w' => e = .returned (.bool true) ∧ Below w.heap.size w w' := by
  obtain ⟨b, hbb⟩ := bool_of (bs <+: ps)
  exact lawBeginsWithF va vb ps bs ka kb b (fun f1 f2 u v X h1 h2 => implBegins_bool ps bs u v b hbb (by have := f1.1; omega) (by have := f2.1; omega) X h1 h2) (fun f1 f2 u v X h1 h2 => specBegins_bool ps bs u v b hbb (by have := f1.1; omega) (by have := f2.1; omega) X h1 h2) w ha hb

end Go.Proofs.Ytcdgbojmjnkeoas
