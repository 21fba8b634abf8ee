/-
  The given signatures: secrets, public numbers, challenges.
-/
import Derived.Test.YtogmmilfdolpnabPowAll
import Derived.Test.YtogmmilfdolpnabGroupAll
import Derived.Test.YtogmmilfdolpnabNumAll
import Derived.Test.YtogmmilfdolpnabHashSpecs
namespace Go.Proofs.Ytogmmilfdolpnab
open Go.RowKit

set_option maxRecDepth 100000 in
set_option maxHeartbeats 400000 in
theorem specHead_any (s : ByteArray) (hs : 4 ≤ s.size) (w : World) :
    Calls Try.prog 29 #[.string s] w fun e w' => e = .returned (.int .i64 (firstP s : Nat)) ∧ Below w.heap.size w w' := by
  have hz : (s.extract 0 4).size = 4 := by rw [ByteArray.size_extract]; omega
  have h1 := specReadNumber_yes (s.extract 0 4) hz
  have hF : fourBack (s.extract 0 4).data.toList = firstP s := rfl
  rw [hF] at h1
  obtain ⟨n, N⟩ : ∃ n, Hid (n = firstP s) := ⟨_, rfl⟩
  rw [← N.out] at h1 ⊢
  obtain ⟨f, hf⟩ : ∃ f, s.extract 0 4 = f := ⟨_, rfl⟩
  rw [hf] at h1
  have H1 := Lib.hid h1
  have hle : (4 : Int) ≤ (s.size : Int) := by omega
  clear h1 hF hz N
  go_enter Try.func29, Try.ntmps29
  go_wp2_with fail
  refine (H1.out _).mono ?_
  rintro e w1 ⟨rfl, hb1⟩
  have HB1 := Lib.hid hb1
  clear hb1
  go_wp2_with fail
  go_ret
  exact ⟨rfl, HB1.out⟩

set_option maxRecDepth 100000 in
set_option maxHeartbeats 400000 in
theorem specSecretOf_any (seed : ByteArray) (hs : seed.size ≤ 400000000) (w : World) :
    Calls Try.prog 14 #[.string seed] w fun e w' => e = .returned (.int .i64 (secretP seed : Nat)) ∧ Below w.heap.size w w' := by
  have z0 : (⟨#[115]⟩ : ByteArray).size = 1 := rfl
  have h1 := specDigP_any (seed ++ (⟨#[115]⟩ : ByteArray)) (by rw [ByteArray.size_append, z0]; omega)
  have h2 := specHead_any (digP (seed ++ (⟨#[115]⟩ : ByteArray))) (by rw [digP_size]; omega)
  have hl := firstP_lt (digP (seed ++ (⟨#[115]⟩ : ByteArray)))
  have hS : secretP seed = 1 + firstP (digP (seed ++ (⟨#[115]⟩ : ByteArray))) % 1073741788 := rfl
  obtain ⟨d, D⟩ : ∃ d, Hid (d = digP (seed ++ (⟨#[115]⟩ : ByteArray))) := ⟨_, rfl⟩
  rw [← D.out] at h1 h2 hl hS
  obtain ⟨n, N⟩ : ∃ n, Hid (n = firstP d) := ⟨_, rfl⟩
  rw [← N.out] at h2 hl hS
  have H1 := Lib.hid h1
  have H2 := Lib.hid h2
  obtain ⟨m, hm, hm2, hm3⟩ : ∃ m : Nat, (n : Int) % 1073741788 = (m : Int) ∧ (n : Int).tmod 1073741788 = (m : Int) ∧ m = n % 1073741788 := ⟨n % 1073741788, by omega, by rw [Int.tmod_eq_emod_of_nonneg (by omega)]; omega, rfl⟩
  have HS : Hid (((1 : Int) + (m : Int)) = ((secretP seed : Nat) : Int)) := by show _ = _; rw [hS]; omega
  have hml : m < 1073741788 := by omega
  have s1 : ¬ (9223372036854775807 < seed.size + 1) := by omega
  clear h1 h2 hS D N hm3 hl z0
  rw [← HS.out]
  go_enter Try.func14, Try.ntmps14
  go_wp2_with fail
  refine (H1.out _).mono ?_
  rintro e w1 ⟨rfl, hb1⟩
  have HB1 := Lib.hid hb1
  clear hb1
  go_wp2_with fail
  refine (H2.out _).mono ?_
  rintro e w2 ⟨rfl, hb2⟩
  have HB2 := Lib.hid (HB1.out.trans (hb2.mono HB1.out.size))
  clear hb2
  go_wp2_with fail
  go_ret
  exact ⟨rfl, HB2.out⟩

set_option maxRecDepth 100000 in
set_option maxHeartbeats 400000 in
theorem specPublicOf_yes (s : Nat) (h1 : 1 ≤ s) (h2 : s ≤ 1073741788) (w : World) :
    Calls Try.prog 17 #[.int .i64 s] w fun e w' => e = .returned (.int .i64 (publicP s : Nat)) ∧ w' = w := by
  have H0 := Lib.hid (inRange_yes (s : Int) 1 1073741788 (by omega) (by omega))
  have hp := specPowP_any 4 (s : Int)
  have e1 : powI 4 (s : Nat) = publicP s := powI_pow s (by omega)
  rw [e1] at hp
  have HP := Lib.hid hp
  generalize publicP s = p at HP
  clear hp e1
  go_enter Try.func17, Try.ntmps17
  go_wp2_with fail
  refine (H0.out _).mono ?_
  rintro e w1 ⟨rfl, rfl⟩
  go_wp2_with fail
  refine (HP.out _).mono ?_
  rintro e w2 ⟨rfl, rfl⟩
  go_wp2_with fail
  go_ret
  exact ⟨rfl, rfl⟩

set_option maxRecDepth 100000 in
set_option maxHeartbeats 400000 in
theorem specPublicOf_no (s : Int) (h : s < 1 ∨ 1073741788 < s) (w : World) :
    Calls Try.prog 17 #[.int .i64 s] w fun e w' => e = .returned (.int .i64 0) ∧ w' = w := by
  have H0 := Lib.hid (inRange_no s 1 1073741788 h)
  clear h
  go_enter Try.func17, Try.ntmps17
  go_wp2_with fail
  refine (H0.out _).mono ?_
  rintro e w1 ⟨rfl, rfl⟩
  go_wp2_with fail
  go_ret
  exact ⟨rfl, rfl⟩

end Go.Proofs.Ytogmmilfdolpnab
