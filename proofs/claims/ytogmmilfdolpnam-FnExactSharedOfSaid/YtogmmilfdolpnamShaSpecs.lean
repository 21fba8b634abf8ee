/-
  The given words of digests: turned, read of a text.
  The given rows of words of digests: the words of a text, the bytes of words, the tables.
-/
import Derived.Test.YtogmmilfdolpnamRows
import Derived.Test.YtogmmilfdolpnamKit
import Derived.Test.YtogmmilfdolpnamPlainAll
import Derived.Deep.RegionHeld3
import Derived.BigQuiet
import Derived.Deep.QuietTactic
import Derived.Deep.LoopGhost
import Derived.Deep.DeepCutAuto
import Derived.Test.YtogmmilfdolpnamRowW
namespace Go.Proofs.Ytogmmilfdolpnam
open Go.RowKit

/-- A place behind another one, as a number of its own. -/
theorem place (k j n : Nat) (h : k + j < n) (hn : n ≤ 1099511627776) : ∃ m : Nat, (k : Int) + (j : Int) = (m : Int) ∧ IntKind.i64.wrap (m : Int) = (m : Int) ∧ (m : Int) < (n : Int) ∧ Hid (m = k + j) :=
  ⟨k + j, by omega, by rw [IntKind.wrap_i64]; omega, by omega, rfl⟩

theorem byte_getD (s : ByteArray) (k : Nat) (h : k < s.size) : s.data.toList.getD k 0 = s[k] := by
  rw [List.getD_eq_getElem?_getD, List.getElem?_eq_getElem (by simpa using h)]
  rfl

theorem word_mul (a b c d : Nat) (ha : a < 256) (hb : b < 256) (hc : c < 256) (hd : d < 256) :
    (((a : Int) % 4294967296 * 16777216 + (b : Int) % 4294967296 * 65536 + (c : Int) % 4294967296 * 256) % 4294967296 + (d : Int) % 4294967296) % 4294967296 = ((a * 16777216 + b * 65536 + c * 256 + d : Nat) : Int) := by
  omega

end Go.Proofs.Ytogmmilfdolpnam
namespace Go.Proofs.Ytogmmilfdolpnam
open Go.RowKit

theorem infoWord : (Try.prog.info? 42).map (fun i => (i.zero, i.size, i.bytes)) = some (some (.int .u32 0), 1, 4) := by kernel_rfl
theorem infoByteS : (Try.prog.info? 5).map (fun i => (i.zero, i.size, i.bytes)) = some (some (.int .u8 0), 1, 1) := by kernel_rfl

theorem four_ints (x : Nat) (hx : x < 4294967296) : ((x : Int) / 16777216 = ((UInt8.ofNat (x / 16777216)).toNat : Int)) ∧ ((x : Int) / 65536 % 256 = ((UInt8.ofNat (x / 65536 % 256)).toNat : Int)) ∧ ((x : Int) / 256 % 256 = ((UInt8.ofNat (x / 256 % 256)).toNat : Int)) ∧ ((x : Int) % 256 = ((UInt8.ofNat (x % 256)).toNat : Int)) := by
  refine ⟨?_, ?_, ?_, ?_⟩ <;> rw [UInt8.toNat_ofNat'] <;> omega

theorem bytesOf_take (l : List Nat) (k : Nat) (h : k < l.length) : bytesOf (l.take (k + 1)) = bytesOf (l.take k) ++ four (l.getD k 0) := by
  rw [List.take_add_one, bytesOf_append, List.getElem?_eq_getElem h, List.getD_eq_getElem?_getD, List.getElem?_eq_getElem h]
  simp [bytesOf]

end Go.Proofs.Ytogmmilfdolpnam
