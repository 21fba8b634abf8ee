/-
  The given words of digests: turned, read of a text.
-/
import Derived.Test.YtogmmilfdolpnajRows
import Derived.Test.YtogmmilfdolpnajKit
import Derived.Test.YtogmmilfdolpnajPlainSha
import Derived.Deep.RegionHeld3
import Derived.BigQuiet
import Derived.Deep.QuietTactic
import Derived.Deep.LoopGhost
import Derived.Deep.DeepCutAuto
namespace Go.Proofs.Ytogmmilfdolpnaj
open Go.RowKit

/-- A place behind another one, as a number of its own. -/
theorem place (k j n : Nat) (h : k + j < n) (hn : n ≤ 1099511627776) : ∃ m : Nat, (k : Int) + (j : Int) = (m : Int) ∧ IntKind.i64.wrap (m : Int) = (m : Int) ∧ (m : Int) < (n : Int) ∧ Hid (m = k + j) :=
  ⟨k + j, by omega, by rw [IntKind.wrap_i64]; omega, by omega, rfl⟩

theorem byte_getD (s : ByteArray) (k : Nat) (h : k < s.size) : s.data.toList.getD k 0 = s[k] := by
  rw [List.getD_eq_getElem?_getD, List.getElem?_eq_getElem (by simpa using h)]
  rfl

theorem word_mul (a b c d : Nat) (ha : a < 256) (hb : b < 256) (hc : c < 256) (hd : d < 256) :
    (((a : Int) % 4294967296 * 16777216 + (b : Int) % 4294967296 * 65536 + (c : Int) % 4294967296 * 256) % 4294967296 + (d : Int) % 4294967296) % 4294967296 = ((a * 16777216 + b * 65536 + c * 256 + d : Nat) : Int) := by
  omega

end Go.Proofs.Ytogmmilfdolpnaj
