/-
  The given AddrOk and AddrText; how many addresses a prefix has.
-/
import Derived.Test.YtkfcoldjgijpcapReadAddrSpec
import Derived.Test.YtkfcoldjgijpcapInRange
import Derived.Test.YtkfcoldjgijpcapDecimalSpec
namespace Go.Proofs.Ytkfcoldjgijpcap
open Go.RowKit

theorem specAddrOk_yes (a : Int) (h0 : 0 ≤ a) (h1 : a ≤ 4294967295) (w : World) :
    Calls Try.prog 41 #[.int .i64 a] w fun e w' => e = .returned (.bool true) ∧ w' = w := by
  have H := Lib.hid (inRange_yes a 0 4294967295 h0 h1)
  clear h0 h1
  go_enter Try.func41, Try.ntmps41
  go_wp2_with fail
  refine (H.out _).mono ?_
  rintro e w1 ⟨rfl, rfl⟩
  go_wp2_with fail
  go_ret
  exact ⟨rfl, rfl⟩
theorem specAddrOk_no (a : Int) (h : a < 0 ∨ 4294967295 < a) (w : World) :
    Calls Try.prog 41 #[.int .i64 a] w fun e w' => e = .returned (.bool false) ∧ w' = w := by
  have H := Lib.hid (inRange_no a 0 4294967295 h)
  clear h
  go_enter Try.func41, Try.ntmps41
  go_wp2_with fail
  refine (H.out _).mono ?_
  rintro e w1 ⟨rfl, rfl⟩
  go_wp2_with fail
  go_ret
  exact ⟨rfl, rfl⟩
theorem dec_few (n : Nat) (h : n < 1000) : (⟨(Lib.decDigits n).toArray⟩ : ByteArray).size ≤ 3 := by
  show (Lib.decDigits n).toArray.size ≤ 3
  rw [List.size_toArray]
  exact dec_length 3 n (by omega) (by omega)
theorem addr_texts (a : Nat) : addrP a = (⟨(Lib.decDigits (a / 16777216)).toArray⟩ : ByteArray) ++ ⟨#[46]⟩ ++ ⟨(Lib.decDigits (a / 65536 % 256)).toArray⟩ ++ ⟨#[46]⟩ ++ ⟨(Lib.decDigits (a / 256 % 256)).toArray⟩ ++ ⟨#[46]⟩ ++ ⟨(Lib.decDigits (a % 256)).toArray⟩ := by
  unfold addrP addrL
  rw [joinAt_four]
  apply ByteArray.ext
  apply Array.ext'
  simp

set_option maxRecDepth 100000 in
set_option maxHeartbeats 400000 in
theorem specSize_any (n : Nat) (hn : n ≤ 32) (w : World) :
    Calls Try.prog 55 #[.int .i64 n] w fun e w' => e = .returned (.int .i64 (sizeP n : Nat)) ∧ w' = w := by
  go_enter Try.func55, Try.ntmps55
  go_wp2_with fail
  go_loop [3, 4] (fun o c => ∃ i v : Nat, i ≤ 32 - n ∧ c = .int .i64 (n + i : Nat) ∧ Hid (v = 2 ^ i) ∧ v ≤ 4294967296 ∧ o = .int .i64 v) (fun _ c => 32 - (intOf c).toNat)
  case atStart => exact ⟨0, 1, by omega, rfl, rfl, by omega, rfl⟩
  case round =>
    obtain ⟨i, v, hi, rfl, HV, hv, rfl⟩ := hrel
    by_cases hlt : n + i < 32
    · have hlt' : ((n + i : Nat) : Int) < 32 := by omega
      have hv2 : 2 * v ≤ 4294967296 := by
        have h := HV.out
        have h2 : 2 ^ (i + 1) ≤ 2 ^ 32 := Nat.pow_le_pow_right (n := 2) (by omega) (by omega)
        rw [Nat.pow_succ] at h2
        omega
      go_wp2_with fail
      go_round
      case rel => exact ⟨i + 1, 2 * v, by omega, by go_num, by show _ = _; rw [HV.out, Nat.pow_succ, Nat.mul_comm], hv2, by go_num⟩
      case measure => simp [intOf]; omega
    · have hlt' : ¬ (((n + i : Nat) : Int) < 32) := by omega
      have hiv : v = sizeP n := by
        rw [HV.out]
        unfold sizeP
        congr 1
        omega
      have HI := Lib.hid hiv
      clear hiv
      go_wp2_with fail
      go_ret
      rw [HI.out]
      exact ⟨rfl, rfl⟩

end Go.Proofs.Ytkfcoldjgijpcap
