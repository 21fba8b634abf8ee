/-
  Numbers in four bytes, by the program and by the given ones: what they answer.
  Numbers in four bytes, by the given ones: what they answer.
  A number read from four bytes, by the given one: what it answers.
-/
import Derived.Test.YtogmmilfdolpnalSealWord
import Derived.Test.YtogmmilfdolpnalInRange
import Derived.Test.YtogmmilfdolpnalPlainAll
namespace Go.Proofs.Ytogmmilfdolpnal
open Go.RowKit

end Go.Proofs.Ytogmmilfdolpnal
namespace Go.Proofs.Ytogmmilfdolpnal
open Go.RowKit

end Go.Proofs.Ytogmmilfdolpnal
namespace Go.Proofs.Ytogmmilfdolpnal
open Go.RowKit

theorem w64_in (n : Int) (h : -9223372036854775808 ≤ n ∧ n ≤ 9223372036854775807) : wrap64 n = n := by unfold wrap64; omega
theorem word_sum (a b c d : Nat) (ha : a < 256) (hb : b < 256) (hc : c < 256) (hd : d < 256) :
    wrap64 (wrap64 (wrap64 (wrap64 (wrap64 (a : Int) * 16777216) + wrap64 (wrap64 (b : Int) * 65536)) + wrap64 (wrap64 (c : Int) * 256)) + wrap64 (d : Int)) = ((a * 16777216 + b * 65536 + c * 256 + d : Nat) : Int) := by
  rw [w64_in (a : Int) (by omega), w64_in (b : Int) (by omega), w64_in (c : Int) (by omega), w64_in (d : Int) (by omega), w64_in ((a : Int) * 16777216) (by omega), w64_in ((b : Int) * 65536) (by omega), w64_in ((c : Int) * 256) (by omega), w64_in ((a : Int) * 16777216 + (b : Int) * 65536) (by omega), w64_in ((a : Int) * 16777216 + (b : Int) * 65536 + (c : Int) * 256) (by omega), w64_in ((a : Int) * 16777216 + (b : Int) * 65536 + (c : Int) * 256 + (d : Int)) (by omega)]
  omega

end Go.Proofs.Ytogmmilfdolpnal
