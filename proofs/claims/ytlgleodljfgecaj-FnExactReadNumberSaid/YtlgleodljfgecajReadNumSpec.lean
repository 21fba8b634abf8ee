/-
  A number read from four bytes, by the given one: what it answers.
-/
import Derived.Test.YtlgleodljfgecajNumText
namespace Go.Proofs.Ytlgleodljfgecaj
open Go.RowKit

theorem w64_in (n : Int) (h : -9223372036854775808 ≤ n ∧ n ≤ 9223372036854775807) : wrap64 n = n := by unfold wrap64; omega
theorem word_sum (a b c d : Nat) (ha : a < 256) (hb : b < 256) (hc : c < 256) (hd : d < 256) :
    wrap64 (wrap64 (wrap64 (wrap64 (wrap64 (a : Int) * 16777216) + wrap64 (wrap64 (b : Int) * 65536)) + wrap64 (wrap64 (c : Int) * 256)) + wrap64 (d : Int)) = ((a * 16777216 + b * 65536 + c * 256 + d : Nat) : Int) := by
  rw [w64_in (a : Int) (by omega), w64_in (b : Int) (by omega), w64_in (c : Int) (by omega), w64_in (d : Int) (by omega), w64_in ((a : Int) * 16777216) (by omega), w64_in ((b : Int) * 65536) (by omega), w64_in ((c : Int) * 256) (by omega), w64_in ((a : Int) * 16777216 + (b : Int) * 65536) (by omega), w64_in ((a : Int) * 16777216 + (b : Int) * 65536 + (c : Int) * 256) (by omega), w64_in ((a : Int) * 16777216 + (b : Int) * 65536 + (c : Int) * 256 + (d : Int)) (by omega)]
  omega

set_option maxHeartbeats 400000 in
theorem specReadNumber_no (s : ByteArray) (hs : s.size ≠ 4) (w : World) :
    Calls Try.prog 13 #[.string s] w fun e w' => e = .returned (.tuple #[.int .i64 0, .bool false]) ∧ Below w.heap.size w w' := by
  have h1 : ((s.size : Int) != 4) = true := bne_iff_ne.2 (by omega)
  go_enter Try.func13, Try.ntmps13
  go_wp2
  go_ret2
  exact ⟨rfl, Below.refl _ _⟩

set_option maxRecDepth 100000 in
set_option maxHeartbeats 800000 in
theorem specReadNumber_yes (s : ByteArray) (hs : s.size = 4) (w : World) :
    Calls Try.prog 13 #[.string s] w fun e w' => e = .returned (.tuple #[.int .i64 (fourBack s.data.toList : Nat), .bool true]) ∧ Below w.heap.size w w' := by
  obtain ⟨b0, b1, b2, b3, rfl⟩ := four_bytes s hs
  have h1 : (((⟨#[b0, b1, b2, b3]⟩ : ByteArray).size : Int) != 4) = false := by rfl
  have l0 := b0.toNat_lt
  have l1 := b1.toNat_lt
  have l2 := b2.toNat_lt
  have l3 := b3.toNat_lt
  go_enter Try.func13, Try.ntmps13
  go_wp2
  go_quiet (fail)
  go_wp2
  go_ret2
  exact ⟨ret_ib (word_sum _ _ _ _ b0.toNat_lt b1.toNat_lt b2.toNat_lt b3.toNat_lt) rfl, below_drewN (Below.refl _ _) _⟩

theorem ReadNumber_both (s : ByteArray) : ∃ (n : Int) (b : Bool),
    (∀ w, Calls Try.prog 14 #[.string s] w fun e w' => e = .returned (.tuple #[.int .i64 n, .bool b]) ∧ Below w.heap.size w w') ∧
    (∀ w, Calls Try.prog 13 #[.string s] w fun e w' => e = .returned (.tuple #[.int .i64 n, .bool b]) ∧ Below w.heap.size w w') := by
  by_cases h : s.size = 4
  · exact ⟨_, _, fun w => implReadNumber_yes s h w, fun w => specReadNumber_yes s h w⟩
  · exact ⟨_, _, fun w => (implReadNumber_no s h w).mono fun e w' ⟨he, hw⟩ => ⟨he, by rw [hw]; exact Below.refl _ _⟩, fun w => specReadNumber_no s h w⟩

end Go.Proofs.Ytlgleodljfgecaj
