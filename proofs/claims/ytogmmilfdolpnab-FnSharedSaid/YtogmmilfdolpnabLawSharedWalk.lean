/-
  The law on shared numbers: its walk; what the program's functions give, by name.
-/
import Derived.Test.YtogmmilfdolpnabCheckSpec
import Derived.Test.YtogmmilfdolpnabDecimalSpec
import Derived.Test.YtogmmilfdolpnabDrawAll
namespace Go.Proofs.Ytogmmilfdolpnab
open Go.RowKit

/-- The program's PublicOf and SharedOf answer what the plain functions say. -/
structure SharedFns : Prop where
  pub_yes : ∀ s : Nat, 1 ≤ s → s ≤ 1073741788 → ∀ X, Calls Try.prog 18 #[.int .i64 s] X fun e X' => e = .returned (.int .i64 (publicP s : Nat)) ∧ Below X.heap.size X X'
  shared_yes : ∀ s p : Nat, 1 ≤ s → s ≤ 1073741788 → inGroup (p : Nat) = true → ∀ X, Calls Try.prog 16 #[.int .i64 s, .int .i64 p] X fun e X' => e = .returned (.tuple #[.int .i64 (powP p s : Nat), .bool true]) ∧ Below X.heap.size X X'
  shared_no : ∀ s p : Int, inGroup p = false ∨ (s < 1 ∨ 1073741788 < s) → ∀ X, Calls Try.prog 16 #[.int .i64 s, .int .i64 p] X fun e X' => e = .returned (.tuple #[.int .i64 0, .bool false]) ∧ Below X.heap.size X X'

set_option maxHeartbeats 400000 in
theorem bigH_any (a : Option Addr) (len cap : Nat) (w : World) :
    Calls Try.prog 5 #[.slice a len cap] w fun e w' => e = .returned (.bool (decide (1048576 < (len : Int)))) ∧ w' = w := by
  go_enter Try.func5, Try.ntmps5
  go_wp2
  go_ret
  exact ⟨rfl, rfl⟩

set_option maxRecDepth 100000 in
set_option maxHeartbeats 400000 in
theorem lawShared_big (a : Option Addr) (len cap : Nat) (h : 1048576 < len) (w : World) :
    Calls Try.prog 4 #[.slice a len cap] w fun e w' => e = .returned (.bool true) ∧ Below w.heap.size w w' := by
  have hd : decide (1048576 < (len : Int)) = true := decide_eq_true (by omega)
  have HB := Lib.hid (fun w => bigH_any a len cap w)
  rw [hd] at HB
  go_enter Try.func4, Try.ntmps4
  go_wp2_with fail
  refine (HB.out _).mono ?_
  rintro e w1 ⟨rfl, rfl⟩
  go_wp2
  go_ret
  exact ⟨rfl, Below.refl _ _⟩

set_option maxRecDepth 100000 in
set_option maxHeartbeats 4000000 in
theorem lawSharedF (F : SharedFns) (a : Option Addr) (len cap : Nat) (w : World) (H : Src a len w) :
    Calls Try.prog 4 #[.slice a len cap] w fun e w' => e = .returned (.bool true) ∧ Below w.heap.size w w' := by
  have hd : decide (1048576 < (len : Int)) = false := decide_eq_false (by have := H.few; omega)
  have HB := Lib.hid (fun w => bigH_any a len cap w)
  rw [hd] at HB
  have HS := Lib.hid H
  clear H hd
  go_enter Try.func4, Try.ntmps4
  go_wp2_with fail
  refine (HB.out _).mono ?_
  rintro e w1 ⟨rfl, rfl⟩
  go_wp2_with fail
  refine (drawPlaces_any a len cap _ HS.out).mono ?_
  rintro e w2 ⟨g, cp, zs, hz, hzs, rfl, hg, hcell, hb2⟩
  obtain ⟨z0, hz0, c0⟩ : ∃ z0 : Int, (0 ≤ z0 ∧ z0 ≤ 9999) ∧ w2.cell? ⟨g, 0, none⟩ = some (.int .i64 z0) := ⟨_, hzs _ (by rw [List.getD_eq_getElem?_getD, List.getElem?_eq_getElem (by omega)]; exact List.getElem_mem _), hcell 0 (by omega)⟩
  obtain ⟨z1, hz1, c1⟩ : ∃ z1 : Int, (0 ≤ z1 ∧ z1 ≤ 9999) ∧ w2.cell? ⟨g, 1, none⟩ = some (.int .i64 z1) := ⟨_, hzs _ (by rw [List.getD_eq_getElem?_getD, List.getElem?_eq_getElem (by omega)]; exact List.getElem_mem _), hcell 1 (by omega)⟩
  have HB2 := Lib.hid hb2
  clear hb2 hcell hzs hz HB HS
  have k1 := specDecimal_any z0 (by omega) (by omega)
  have k2 := specDecimal_any z1 (by omega) (by omega)
  have l1 : (⟨(Lib.itoa z0).toArray⟩ : ByteArray).size ≤ 1000 := by show (Lib.itoa z0).toArray.size ≤ 1000; rw [List.size_toArray]; exact Nat.le_trans (Lib.itoa_length_le z0 (by omega) (by omega)) (by decide)
  have l2 : (⟨(Lib.itoa z1).toArray⟩ : ByteArray).size ≤ 1000 := by show (Lib.itoa z1).toArray.size ≤ 1000; rw [List.size_toArray]; exact Nat.le_trans (Lib.itoa_length_le z1 (by omega) (by omega)) (by decide)
  generalize (⟨(Lib.itoa z0).toArray⟩ : ByteArray) = t0 at k1 l1
  generalize (⟨(Lib.itoa z1).toArray⟩ : ByteArray) = t1 at k2 l2
  have zb : (⟨#[98]⟩ : ByteArray).size = 1 := rfl
  have k3 := specSecretOf_any t0 (by omega)
  have k4 := specSecretOf_any (t1 ++ (⟨#[98]⟩ : ByteArray)) (by rw [ByteArray.size_append, zb]; omega)
  have h3 := secretP_in t0
  have h4 := secretP_in (t1 ++ (⟨#[98]⟩ : ByteArray))
  obtain ⟨x, X⟩ : ∃ n, Hid (n = secretP t0) := ⟨_, rfl⟩
  obtain ⟨y, Y⟩ : ∃ n, Hid (n = secretP (t1 ++ (⟨#[98]⟩ : ByteArray))) := ⟨_, rfl⟩
  rw [← X.out] at k3 h3
  rw [← Y.out] at k4 h4
  have gx := public_in x (by omega) (by omega)
  have gy := public_in y (by omega) (by omega)
  have k5 := specPublicOf_yes y (by omega) (by omega)
  have k6 := F.shared_yes x (publicP y) (by omega) (by omega) gy
  have k7 := specPublicOf_yes x (by omega) (by omega)
  have k8 := F.shared_yes y (publicP x) (by omega) (by omega) gx
  have hsame := shared_same x y
  rw [← hsame] at k8
  have k9 := F.shared_no x 1 (.inl (inGroup_low 1 _ (by omega)))
  have k10 := F.shared_no 0 (publicP y : Nat) (.inr (.inl (by omega)))
  have k11 := implInGroup_any (powP (publicP y) x : Nat)
  rw [shared_in x y (by omega) (by omega) (by omega) (by omega)] at k11
  have k12 := F.pub_yes x (by omega) (by omega)
  obtain ⟨p, P⟩ : ∃ n, Hid (n = publicP x) := ⟨_, rfl⟩
  obtain ⟨q, Q⟩ : ∃ n, Hid (n = publicP y) := ⟨_, rfl⟩
  rw [← Q.out] at k5 k6 k8 k10 k11
  rw [← P.out] at k7 k8 k12
  obtain ⟨r, R⟩ : ∃ n, Hid (n = powP q x) := ⟨_, rfl⟩
  rw [← R.out] at k6 k8 k11
  have K1 := Lib.hid k1
  have K2 := Lib.hid k2
  have K3 := Lib.hid k3
  have K4 := Lib.hid k4
  have K5 := Lib.hid k5
  have K6 := Lib.hid k6
  have K7 := Lib.hid k7
  have K8 := Lib.hid k8
  have K9 := Lib.hid k9
  have K10 := Lib.hid k10
  have K11 := Lib.hid k11
  have K12 := Lib.hid k12
  have s1 : ¬ (9223372036854775807 < t1.size + 1) := by omega
  clear k1 k2 k3 k4 k5 k6 k7 k8 k9 k10 k11 k12 hsame gx gy X Y P Q R zb
  go_wp2_with fail
  refine (K1.out _).mono ?_
  rintro e w3 ⟨rfl, hb3⟩
  have c1' : w3.cell? ⟨g, 1, none⟩ = some (.int .i64 z1) := by rw [hb3.cell (p := ⟨g, 1, none⟩) hg]; exact c1
  have hg3 : g < w3.heap.size := Nat.lt_of_lt_of_le hg hb3.size
  have HB3 := Lib.hid (HB2.out.trans (hb3.mono HB2.out.size))
  clear hb3 HB2 c0 c1 hg
  go_wp2_with fail
  refine (K3.out _).mono ?_
  rintro e w4 ⟨rfl, hb4⟩
  have c1 : w4.cell? ⟨g, 1, none⟩ = some (.int .i64 z1) := by rw [hb4.cell (p := ⟨g, 1, none⟩) hg3]; exact c1'
  have HB4 := Lib.hid (HB3.out.trans (hb4.mono HB3.out.size))
  clear hb4 HB3 c1' hg3
  go_wp2_with fail
  refine (K2.out _).mono ?_
  rintro e w5 ⟨rfl, hb5⟩
  have HB5 := Lib.hid (HB4.out.trans (hb5.mono HB4.out.size))
  clear hb5 HB4 c1
  go_wp2_with fail
  refine (K4.out _).mono ?_
  rintro e w6 ⟨rfl, hb6⟩
  have HB6 := Lib.hid (HB5.out.trans (hb6.mono HB5.out.size))
  clear hb6 HB5
  go_wp2_with fail
  refine (K5.out _).mono ?_
  rintro e w7 ⟨rfl, rfl⟩
  go_wp2_with fail
  refine (K6.out _).mono ?_
  rintro e w8 ⟨rfl, hb8⟩
  have HB8 := Lib.hid (HB6.out.trans (hb8.mono HB6.out.size))
  clear hb8 HB6
  go_wp2_with fail
  refine (K7.out _).mono ?_
  rintro e w9 ⟨rfl, rfl⟩
  go_wp2_with fail
  refine (K8.out _).mono ?_
  rintro e w10 ⟨rfl, hb10⟩
  have HB10 := Lib.hid (HB8.out.trans (hb10.mono HB8.out.size))
  clear hb10 HB8
  go_wp2_with fail
  refine (K9.out _).mono ?_
  rintro e w11 ⟨rfl, hb11⟩
  have HB11 := Lib.hid (HB10.out.trans (hb11.mono HB10.out.size))
  clear hb11 HB10
  go_wp2_with fail
  refine (K5.out _).mono ?_
  rintro e w12 ⟨rfl, rfl⟩
  go_wp2_with fail
  refine (K10.out _).mono ?_
  rintro e w13 ⟨rfl, hb13⟩
  have HB13 := Lib.hid (HB11.out.trans (hb13.mono HB11.out.size))
  clear hb13 HB11
  go_wp2_with fail
  refine (K11.out _).mono ?_
  rintro e w14 ⟨rfl, hb14⟩
  have HB14 := Lib.hid (HB13.out.trans (hb14.mono HB13.out.size))
  clear hb14 HB13
  go_wp2_with fail
  refine (K12.out _).mono ?_
  rintro e w15 ⟨rfl, hb15⟩
  have HB15 := Lib.hid (HB14.out.trans (hb15.mono HB14.out.size))
  clear hb15 HB14
  go_wp2_with fail
  refine (K7.out _).mono ?_
  rintro e w16 ⟨rfl, rfl⟩
  go_wp2_with fail
  go_ret
  exact ⟨rfl, HB15.out⟩

end Go.Proofs.Ytogmmilfdolpnab
