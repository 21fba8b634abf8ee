/-
  The given AddrOk and AddrText; how many addresses a prefix has.
-/
import Derived.Test.YtmmippdommemmanDoorReadAddrSpec
import Derived.Test.YtmmippdommemmanDoorInRange
import Derived.Test.YtmmippdommemmanDoorDecimalSpec
namespace Go.Proofs.YtmmippdommemmanDoor
open Go.RowKit

theorem specAddrOk_yes (a : Int) (h0 : 0 ≤ a) (h1 : a ≤ 4294967295) (w : World) :
    Calls Tryd.prog 13 #[.int .i64 a] w fun e w' => e = .returned (.bool true) ∧ w' = w := by
  have H := Lib.hid (inRange_yes a 0 4294967295 h0 h1)
  clear h0 h1
  go_enter Tryd.func13, Tryd.ntmps13
  go_wp2_with fail
  refine (H.out _).mono ?_
  rintro e w1 ⟨rfl, rfl⟩
  go_wp2_with fail
  go_ret
  exact ⟨rfl, rfl⟩
theorem specAddrOk_no (a : Int) (h : a < 0 ∨ 4294967295 < a) (w : World) :
    Calls Tryd.prog 13 #[.int .i64 a] w fun e w' => e = .returned (.bool false) ∧ w' = w := by
  have H := Lib.hid (inRange_no a 0 4294967295 h)
  clear h
  go_enter Tryd.func13, Tryd.ntmps13
  go_wp2_with fail
  refine (H.out _).mono ?_
  rintro e w1 ⟨rfl, rfl⟩
  go_wp2_with fail
  go_ret
  exact ⟨rfl, rfl⟩
theorem specDecimal_nat (n : Nat) (h : n ≤ 1000000000) (w : World) :
    Calls Tryd.prog 14 #[.int .i64 n] w fun e w' => e = .returned (.string ⟨(Lib.decDigits n).toArray⟩) ∧ Below w.heap.size w w' := by
  have := specDecimal_any (n : Int) (by omega) (by omega) w
  rw [Lib.itoa_nonneg] at this
  exact this

theorem dec_few (n : Nat) (h : n < 1000) : (⟨(Lib.decDigits n).toArray⟩ : ByteArray).size ≤ 3 := by
  show (Lib.decDigits n).toArray.size ≤ 3
  rw [List.size_toArray]
  exact dec_length 3 n (by omega) (by omega)
theorem addr_texts (a : Nat) : addrP a = (⟨(Lib.decDigits (a / 16777216)).toArray⟩ : ByteArray) ++ ⟨#[46]⟩ ++ ⟨(Lib.decDigits (a / 65536 % 256)).toArray⟩ ++ ⟨#[46]⟩ ++ ⟨(Lib.decDigits (a / 256 % 256)).toArray⟩ ++ ⟨#[46]⟩ ++ ⟨(Lib.decDigits (a % 256)).toArray⟩ := by
  unfold addrP addrL
  rw [joinAt_four]
  apply ByteArray.ext
  apply Array.ext'
  simp

set_option maxRecDepth 100000 in
set_option maxHeartbeats 800000 in
theorem specAddrText_yes (a : Nat) (ha : a ≤ 4294967295) (w : World) :
    Calls Tryd.prog 6 #[.int .i64 a] w fun e w' => e = .returned (.string (addrP a)) ∧ Below w.heap.size w w' := by
  have H := Lib.hid (specAddrOk_yes a (by omega) (by omega))
  have h0 := specDecimal_nat (a / 16777216) (by omega)
  have h1 := specDecimal_nat (a / 65536 % 256) (by omega)
  have h2 := specDecimal_nat (a / 256 % 256) (by omega)
  have h3 := specDecimal_nat (a % 256) (by omega)
  have z0 := dec_few (a / 16777216) (by omega)
  have z1 := dec_few (a / 65536 % 256) (by omega)
  have z2 := dec_few (a / 256 % 256) (by omega)
  have z3 := dec_few (a % 256) (by omega)
  rw [addr_texts a]
  obtain ⟨d0, D0⟩ : ∃ d : ByteArray, Hid (d = ⟨(Lib.decDigits (a / 16777216)).toArray⟩) := ⟨_, rfl⟩
  obtain ⟨d1, D1⟩ : ∃ d : ByteArray, Hid (d = ⟨(Lib.decDigits (a / 65536 % 256)).toArray⟩) := ⟨_, rfl⟩
  obtain ⟨d2, D2⟩ : ∃ d : ByteArray, Hid (d = ⟨(Lib.decDigits (a / 256 % 256)).toArray⟩) := ⟨_, rfl⟩
  obtain ⟨d3, D3⟩ : ∃ d : ByteArray, Hid (d = ⟨(Lib.decDigits (a % 256)).toArray⟩) := ⟨_, rfl⟩
  rw [← D0.out] at h0 z0 ⊢
  rw [← D1.out] at h1 z1 ⊢
  rw [← D2.out] at h2 z2 ⊢
  rw [← D3.out] at h3 z3 ⊢
  have H0 := Lib.hid h0
  have H1 := Lib.hid h1
  have H2 := Lib.hid h2
  have H3 := Lib.hid h3
  have zd : (⟨#[46]⟩ : ByteArray).size = 1 := rfl
  have s0 : ¬ (9223372036854775807 < d0.size + 1) := by omega
  have s1 : ¬ (9223372036854775807 < d0.size + 1 + d1.size) := by omega
  have s2 : ¬ (9223372036854775807 < d0.size + 1 + d1.size + 1) := by omega
  have s3 : ¬ (9223372036854775807 < d0.size + 1 + d1.size + 1 + d2.size) := by omega
  have s4 : ¬ (9223372036854775807 < d0.size + 1 + d1.size + 1 + d2.size + 1) := by omega
  have s5 : ¬ (9223372036854775807 < d0.size + 1 + d1.size + 1 + d2.size + 1 + d3.size) := by omega
  clear h0 h1 h2 h3 D0 D1 D2 D3
  go_enter Tryd.func6, Tryd.ntmps6
  go_wp2_with fail
  refine (H.out _).mono ?_
  rintro e w0 ⟨rfl, rfl⟩
  go_wp2_with fail
  refine (H0.out _).mono ?_
  rintro e w1 ⟨rfl, hb1⟩
  have HB1 := Lib.hid hb1
  clear hb1
  go_wp2_with fail
  refine (H1.out _).mono ?_
  rintro e w2 ⟨rfl, hb2⟩
  have HB2 := Lib.hid (HB1.out.trans (hb2.mono HB1.out.size))
  clear hb2
  go_wp2_with fail
  refine (H2.out _).mono ?_
  rintro e w3 ⟨rfl, hb3⟩
  have HB3 := Lib.hid (HB2.out.trans (hb3.mono HB2.out.size))
  clear hb3
  go_wp2_with fail
  refine (H3.out _).mono ?_
  rintro e w4 ⟨rfl, hb4⟩
  have HB4 := Lib.hid (HB3.out.trans (hb4.mono HB3.out.size))
  clear hb4
  go_wp2_with fail
  go_ret
  exact ⟨rfl, HB4.out⟩
theorem specAddrText_no (a : Int) (h : a < 0 ∨ 4294967295 < a) (w : World) :
    Calls Tryd.prog 6 #[.int .i64 a] w fun e w' => e = .returned (.string ⟨#[]⟩) ∧ Below w.heap.size w w' := by
  have H := Lib.hid (specAddrOk_no a h)
  clear h
  go_enter Tryd.func6, Tryd.ntmps6
  go_wp2_with fail
  refine (H.out _).mono ?_
  rintro e w0 ⟨rfl, rfl⟩
  go_wp2_with fail
  go_ret
  exact ⟨rfl, Below.refl _ _⟩

set_option maxRecDepth 100000 in
set_option maxHeartbeats 400000 in
theorem specSize_any (n : Nat) (hn : n ≤ 32) (w : World) :
    Calls Tryd.prog 33 #[.int .i64 n] w fun e w' => e = .returned (.int .i64 (sizeP n : Nat)) ∧ w' = w := by
  go_enter Tryd.func33, Tryd.ntmps33
  go_wp2_with fail
  go_loop [3, 4] (fun o c => ∃ i v : Nat, i ≤ 32 - n ∧ c = .int .i64 (n + i : Nat) ∧ Hid (v = 2 ^ i) ∧ v ≤ 4294967296 ∧ o = .int .i64 v) (fun _ c => 32 - (intOf c).toNat)
  case atStart => exact ⟨0, 1, by omega, rfl, rfl, by omega, rfl⟩
  case round =>
    obtain ⟨i, v, hi, rfl, HV, hv, rfl⟩ := hrel
    by_cases hlt : n + i < 32
    · have hlt' : ((n + i : Nat) : Int) < 32 := by omega
      have hv2 : 2 * v ≤ 4294967296 := by
        have h := HV.out
        have h2 : 2 ^ (i + 1) ≤ 2 ^ 32 := Nat.pow_le_pow_right (n := 2) (by omega) (by omega)
        rw [Nat.pow_succ] at h2
        omega
      go_wp2_with fail
      go_round
      case rel => exact ⟨i + 1, 2 * v, by omega, by go_num, by show _ = _; rw [HV.out, Nat.pow_succ, Nat.mul_comm], hv2, by go_num⟩
      case measure => simp [intOf]; omega
    · have hlt' : ¬ (((n + i : Nat) : Int) < 32) := by omega
      have hiv : v = sizeP n := by
        rw [HV.out]
        unfold sizeP
        congr 1
        omega
      have HI := Lib.hid hiv
      clear hiv
      go_wp2_with fail
      go_ret
      rw [HI.out]
      exact ⟨rfl, rfl⟩

end Go.Proofs.YtmmippdommemmanDoor
