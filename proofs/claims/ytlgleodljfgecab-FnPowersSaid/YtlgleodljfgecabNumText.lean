/-
  Numbers in four bytes, by the program and by the given ones: what they answer.
-/
import Derived.Test.YtlgleodljfgecabSealWord
import Derived.Test.YtlgleodljfgecabInRange
import Derived.Test.YtlgleodljfgecabPlainFour
namespace Go.Proofs.Ytlgleodljfgecab
open Go.RowKit

set_option maxHeartbeats 400000 in
theorem implNumberText_yes (n : Nat) (hn : n < 4294967296) (w : World) :
    Calls Try.prog 10 #[.int .i64 n] w fun e w' => e = .returned (.string ⟨(four n).toArray⟩) ∧ Below w.heap.size w w' := by
  have h1 : ¬ ((n : Int) < 0) := by omega
  have h2 : ¬ (4294967295 < (n : Int)) := by omega
  have h3 : (n : Int) % 4294967296 = (n : Int) := by omega
  have H1 := Lib.hid (wordText_any n hn)
  go_enter Try.func10, Try.ntmps10
  go_wp2_with fail
  refine (H1.out _).mono ?_
  rintro e1 w1 ⟨rfl, hb1⟩
  go_wp2
  go_ret
  exact ⟨rfl, hb1⟩

set_option maxHeartbeats 400000 in
theorem implNumberText_no (n : Int) (hn : n < 0 ∨ 4294967295 < n) (w : World) :
    Calls Try.prog 10 #[.int .i64 n] w fun e w' => e = .returned (.string ⟨#[]⟩) ∧ Below w.heap.size w w' := by
  by_cases h1 : n < 0
  · clear hn
    go_enter Try.func10, Try.ntmps10
    go_wp2
    go_ret
    exact ⟨rfl, Below.refl _ _⟩
  · have h2 : 4294967295 < n := by omega
    clear hn
    go_enter Try.func10, Try.ntmps10
    go_wp2
    go_ret
    exact ⟨rfl, Below.refl _ _⟩

set_option maxHeartbeats 400000 in
theorem implReadNumber_no (s : ByteArray) (hs : s.size ≠ 4) (w : World) :
    Calls Try.prog 9 #[.string s] w fun e w' => e = .returned (.tuple #[.int .i64 0, .bool false]) ∧ w' = w := by
  have h1 : ((s.size : Int) != 4) = true := bne_iff_ne.2 (by omega)
  go_enter Try.func9, Try.ntmps9
  go_wp2
  go_ret2
  exact ⟨rfl, rfl⟩

set_option maxRecDepth 100000 in
set_option maxHeartbeats 800000 in
theorem textWord_any (s : ByteArray) (hs : s.size = 4) (w : World) :
    Calls Try.prog 21 #[.string s] w fun e w' => e = .returned (.int .u32 (fourBack s.data.toList : Nat)) ∧ Below w.heap.size w w' := by
  obtain ⟨b0, b1, b2, b3, rfl⟩ := four_bytes s hs
  go_enter Try.func21, Try.ntmps21
  go_wp2
  go_quiet (fail)
  go_wp2
  go_ret
  exact ⟨congrArg (fun z => Ending.returned (.int .u32 z)) (word_or _ _ _ _ b0.toNat_lt b1.toNat_lt b2.toNat_lt b3.toNat_lt), below_drewN (Below.refl _ _) _⟩

set_option maxHeartbeats 400000 in
theorem implReadNumber_yes (s : ByteArray) (hs : s.size = 4) (w : World) :
    Calls Try.prog 9 #[.string s] w fun e w' => e = .returned (.tuple #[.int .i64 (fourBack s.data.toList : Nat), .bool true]) ∧ Below w.heap.size w w' := by
  have h1 : ((s.size : Int) != 4) = false := by rw [hs]; rfl
  have hl := fourBack_lt s.data.toList
  have H1 := Lib.hid (textWord_any s hs)
  generalize fourBack s.data.toList = n at hl H1
  go_enter Try.func9, Try.ntmps9
  go_wp2_with fail
  refine (H1.out _).mono ?_
  rintro e1 w1 ⟨rfl, hb1⟩
  go_wp2
  go_ret2
  exact ⟨ret_ib (by go_num) rfl, hb1⟩

end Go.Proofs.Ytlgleodljfgecab
