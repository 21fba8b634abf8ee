/-
  The laws' own comparison of hashers, and one without arguments.
-/
import Derived.Test.YtogmmilfdolpnajRows
import Derived.Test.YtogmmilfdolpnajKit
import Derived.Deep.RegionHeld3
import Derived.BigQuiet
import Derived.Deep.QuietTactic
import Derived.Deep.LoopGhost
import Derived.Deep.DeepCutAuto
namespace Go.Proofs.Ytogmmilfdolpnaj
open Go.RowKit

set_option maxRecDepth 100000 in
set_option maxHeartbeats 400000 in
theorem eqHasher_same (st rest : ByteArray) (n : Int) (w : World) :
    Calls Try.prog 18 #[.agg #[.string st, .string rest, .int .i64 n], .agg #[.string st, .string rest, .int .i64 n]] w fun e w' => e = .returned (.bool true) ∧ Below w.heap.size w w' := by
  go_enter Try.func18, Try.ntmps18
  go_wp2_with fail
  go_ret
  exact ⟨rfl, ((Below.refl _ _).alloc (Nat.le_refl _) _).alloc (by simp) _⟩

end Go.Proofs.Ytogmmilfdolpnaj
