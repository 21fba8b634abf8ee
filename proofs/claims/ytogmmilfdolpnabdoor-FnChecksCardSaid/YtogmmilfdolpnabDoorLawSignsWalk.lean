/-
  The law on signed texts: its walk.
-/
import Derived.Test.YtogmmilfdolpnabDoorSignFns
import Derived.Test.YtogmmilfdolpnabDoorSigEq
import Derived.Test.YtogmmilfdolpnabDoorDrawSigs
namespace Go.Proofs.YtogmmilfdolpnabDoor
open Go.RowKit

set_option maxHeartbeats 400000 in
theorem bigS_any (a : Option Addr) (len cap : Nat) (w : World) :
    Calls Tryd.prog 6 #[.slice a len cap] w fun e w' => e = .returned (.bool (decide (1048576 < (len : Int)))) ∧ w' = w := by
  go_enter Tryd.func6, Tryd.ntmps6
  go_wp2
  go_ret
  exact ⟨rfl, rfl⟩

set_option maxRecDepth 100000 in
set_option maxHeartbeats 800000 in
theorem drawSecretOf_any (a : Option Addr) (len cap : Nat) (w : World) (H : Src a len w) :
    Calls Tryd.prog 15 #[.slice a len cap] w fun e w' => ∃ t : ByteArray, t.size ≤ 200 ∧ e = .returned (.string t) ∧ Below w.heap.size w w' := by
  have HS := Lib.hid H
  clear H
  go_enter Tryd.func15, Tryd.ntmps15
  go_wp2_with fail
  refine (new_any a len cap _ HS.out).mono ?_
  rintro e w1 ⟨c, rfl, hc, hcur, hb⟩
  have HC1 := Lib.hid hcur
  have HB1 := Lib.hid hb
  clear hcur hb
  go_wp2_with fail
  refine (hashText_any _ HC1.out).mono ?_
  rintro e w3 ⟨t, ht, rfl, hcur, ho⟩
  have HB3 := Lib.hid (HB1.out.trans (ho.below hc HB1.out.size))
  have HL := Lib.hid ht
  clear hcur ho ht
  go_wp2_with fail
  go_ret
  exact ⟨t, HL.out, rfl, HB3.out⟩

set_option maxRecDepth 100000 in
set_option maxHeartbeats 400000 in
theorem lawSigns_big (a : Option Addr) (len cap : Nat) (h : 1048576 < len) (w : World) :
    Calls Tryd.prog 4 #[.slice a len cap] w fun e w' => e = .returned (.bool true) ∧ Below w.heap.size w w' := by
  have hd : decide (1048576 < (len : Int)) = true := decide_eq_true (by omega)
  have HB := Lib.hid (fun w => bigS_any a len cap w)
  rw [hd] at HB
  go_enter Tryd.func4, Tryd.ntmps4
  go_wp2_with fail
  refine (HB.out _).mono ?_
  rintro e w1 ⟨rfl, rfl⟩
  go_wp2
  go_ret
  exact ⟨rfl, Below.refl _ _⟩

/-- Two variables of two cells, alike, behind what was there. -/
structure TV (w : World) (t : TypeId) (q r : Nat) (a b : Value) (X : World) : Prop where
  below : Below w.heap.size w X
  one : VarP q t a b X
  two : VarP r t a b X
theorem TV.next {w : World} {t : TypeId} {q r : Nat} {a b : Value} {X Y : World} (h : TV w t q r a b X) (hb : Below X.heap.size X Y) : TV w t q r a b Y := ⟨h.below.trans (hb.mono h.below.size), h.one.next hb, h.two.next hb⟩

set_option maxRecDepth 100000 in
set_option maxHeartbeats 4000000 in
theorem lawSignsF (F : SignFns) (a : Option Addr) (len cap : Nat) (w : World) (H : Src a len w) (ht : LaidK w) :
    Calls Tryd.prog 4 #[.slice a len cap] w fun e w' => e = .returned (.bool true) ∧ Below w.heap.size w w' := by
  have hd : decide (1048576 < (len : Int)) = false := decide_eq_false (by have := H.few; omega)
  have HB := Lib.hid (fun w => bigS_any a len cap w)
  rw [hd] at HB
  have HS := Lib.hid H
  have HT := Lib.hid ht
  clear H ht hd
  go_enter Tryd.func4, Tryd.ntmps4
  go_wp2_with fail
  refine (HB.out _).mono ?_
  rintro e w1 ⟨rfl, rfl⟩
  go_wp2_with fail
  refine (drawSecretOf_any a len cap _ HS.out).mono ?_
  rintro e w2 ⟨seed, hsl, rfl, hb2⟩
  have HB2 := Lib.hid hb2
  clear hb2 HB HS
  have z0 : (⟨#[109]⟩ : ByteArray).size = 1 := rfl
  have hmz : (seed ++ (⟨#[109]⟩ : ByteArray)).size ≤ 300000000 := by rw [ByteArray.size_append, z0]; omega
  have hsec := secretP_in seed
  have k1 := F.secret seed (by omega)
  have k2 := F.pub_yes (secretP seed) (by omega) (by omega)
  have k3 := F.sign_yes (secretP seed) (seed ++ (⟨#[109]⟩ : ByteArray)) (by omega) (by omega) hmz
  have hE := signE_lt (secretP seed) (seed ++ (⟨#[109]⟩ : ByteArray))
  have hS := signS_lt (secretP seed) (seed ++ (⟨#[109]⟩ : ByteArray))
  have hg := public_in (secretP seed) (by omega) (by omega)
  have k4 := F.sig_yes _ _ hE hS
  have k6 := F.sign_no 0 seed (by omega)
  have k7 := specSecretOf_any seed (by omega)
  have k8 := implInGroup_any (publicP (secretP seed) : Nat)
  rw [hg] at k8
  have hback := back_sign (secretP seed) (seed ++ (⟨#[109]⟩ : ByteArray))
  have hchal : chalP (backP (publicP (secretP seed)) (signE (secretP seed) (seed ++ (⟨#[109]⟩ : ByteArray))) (signS (secretP seed) (seed ++ (⟨#[109]⟩ : ByteArray)))) (publicP (secretP seed)) (seed ++ (⟨#[109]⟩ : ByteArray)) = signE (secretP seed) (seed ++ (⟨#[109]⟩ : ByteArray)) := by rw [hback]; rfl
  have k9 := F.check_in (publicP (secretP seed)) (seed ++ (⟨#[109]⟩ : ByteArray)) _ _ hg hE hS hmz
  have k10 := specCheck_in (publicP (secretP seed)) (seed ++ (⟨#[109]⟩ : ByteArray)) _ _ hg hE hS hmz
  rw [hchal] at k9 k10
  have hbeq : ((signE (secretP seed) (seed ++ (⟨#[109]⟩ : ByteArray)) : Int) == ((signE (secretP seed) (seed ++ (⟨#[109]⟩ : ByteArray)) : Nat) : Int)) = true := by simp
  rw [hbeq] at k9 k10
  obtain ⟨s, SS⟩ : ∃ n, Hid (n = secretP seed) := ⟨_, rfl⟩
  rw [← SS.out] at k1 k2 k3 hE hS k4 k7 k8 k9 k10 hsec
  obtain ⟨E, EE⟩ : ∃ n, Hid (n = signE s (seed ++ (⟨#[109]⟩ : ByteArray))) := ⟨_, rfl⟩
  obtain ⟨S, SI⟩ : ∃ n, Hid (n = signS s (seed ++ (⟨#[109]⟩ : ByteArray))) := ⟨_, rfl⟩
  obtain ⟨p, PP⟩ : ∃ n, Hid (n = publicP s) := ⟨_, rfl⟩
  rw [← EE.out] at k3 hE k4 k9 k10
  rw [← SI.out] at k3 hS k4 k9 k10
  rw [← PP.out] at k2 k8 k9 k10
  -- the bytes of the signature come back
  have hz8 : (numB E ++ numB S).size = 8 := by rw [ByteArray.size_append, numB_size, numB_size]
  have fE : fourBack (numB E).data.toList = E := fourBack_four E (by omega)
  have fS : fourBack (numB S).data.toList = S := fourBack_four S (by omega)
  have hl : (numB E ++ numB S).extract 0 4 = numB E := rfl
  have hr : (numB E ++ numB S).extract 4 8 = numB S := rfl
  have k5 := F.read_eight (numB E ++ numB S) (numB E) (numB S) hz8 hl hr (.tuple #[.agg #[.int .i64 E, .int .i64 S], .bool true]) (.inl ⟨by rw [fE]; exact hE, by rw [fS]; exact hS, by rw [fE, fS]⟩)
  obtain ⟨t, TT⟩ : ∃ n, Hid (n = numB E ++ numB S) := ⟨_, rfl⟩
  rw [← TT.out] at k4 k5 hz8
  have K1 := Lib.hid k1
  have K2 := Lib.hid k2
  have K3 := Lib.hid k3
  have K4 := Lib.hid k4
  have K5 := Lib.hid k5
  have K6 := Lib.hid k6
  have K7 := Lib.hid k7
  have K8 := Lib.hid k8
  have K9 := Lib.hid k9
  have K10 := Lib.hid k10
  have hsame := sig_same (E : Int) (S : Int)
  have hguard := sigGuard
  have ht8 : (t.size : Int) = 8 := by omega
  have s1 : ¬ (9223372036854775807 < seed.size + 1) := by omega
  have hs1 : (1 : Int) ≤ (s : Int) := by omega
  have hs2 : (s : Int) < 1073741789 := by omega
  clear k1 k2 k3 k4 k5 k6 k7 k8 k9 k10 hback hchal hbeq hg SS EE SI PP TT fE fS hl hr hmz z0 hz8 hsec
  go_wp2_with fail
  refine (K1.out _ (HT.out.stays HB2.out (Nat.le_refl _))).mono ?_
  rintro e w3 ⟨rfl, hb3⟩
  have HB3 := Lib.hid (HB2.out.trans (hb3.mono HB2.out.size))
  clear hb3 HB2
  go_wp2_with fail
  refine (K2.out _).mono ?_
  rintro e w4 ⟨rfl, hb4⟩
  have HB4 := Lib.hid (HB3.out.trans (hb4.mono HB3.out.size))
  clear hb4 HB3
  go_wp2_with fail
  refine (K3.out _ (HT.out.stays HB4.out (Nat.le_refl _))).mono ?_
  rintro e w5 ⟨rfl, hb5⟩
  have hb5' := HB4.out.trans (hb5.mono HB4.out.size)
  have V5 := Lib.hid (VarP.new w5 34 (.int .i64 (E : Int)) (.int .i64 (S : Int)))
  have HB5 := Lib.hid (hb5'.alloc hb5'.size (.cells #[.int .i64 (E : Int), .int .i64 (S : Int)] 34))
  clear hb5 HB4 hb5'
  go_wp2_with fail
  refine (K4.out _).mono ?_
  rintro e w6 ⟨rfl, hb6⟩
  have V6 := Lib.hid (V5.out.next hb6)
  have HB6 := Lib.hid (HB5.out.trans (hb6.mono HB5.out.size))
  clear hb6 HB5 V5
  go_wp2_with fail
  refine (K5.out _).mono ?_
  rintro e w7 ⟨rfl, hb7⟩
  have ha7 : Below w7.heap.size w7 (w7.alloc (.cells #[.int .i64 (E : Int), .int .i64 (S : Int)] 34)) := (Below.refl _ _).alloc (Nat.le_refl _) _
  have hB7 := HB6.out.trans (hb7.mono HB6.out.size)
  have V7 : Hid (TV w1 34 w5.heap.size w7.heap.size (.int .i64 (E : Int)) (.int .i64 (S : Int)) (w7.alloc (.cells #[.int .i64 (E : Int), .int .i64 (S : Int)] 34))) := ⟨hB7.trans (ha7.mono hB7.size), (V6.out.next hb7).next ha7, VarP.new _ _ _ _⟩
  clear hb7 HB6 V6 ha7 hB7
  go_wp2_with fail
  refine (K6.out _ (HT.out.stays V7.out.below (Nat.le_refl _))).mono ?_
  rintro e w8 ⟨rfl, hb8⟩
  have hV8 := V7.out.next hb8
  have hV9 := hV8.next ((Below.refl _ _).alloc (Nat.le_refl _) (.cells #[.int .i64 0, .int .i64 0] 34))
  have c0 := hV9.one.c0
  have c1 := hV9.one.c1
  have d0 := hV9.two.c0
  have d1 := hV9.two.c1
  have V9 := Lib.hid hV9
  clear hb8 hV8 hV9 V7
  go_wp2_with fail
  refine (K7.out _).mono ?_
  rintro e w10 ⟨rfl, hb10⟩
  have V10 := Lib.hid (V9.out.next hb10)
  clear hb10 V9 c0 c1 d0 d1
  go_wp2_with fail
  refine (K8.out _).mono ?_
  rintro e w11 ⟨rfl, hb11⟩
  have V11 := Lib.hid (V10.out.next hb11)
  have c0 := V11.out.one.c0
  have c1 := V11.out.one.c1
  clear hb11 V10
  go_wp2_with fail
  refine (K9.out _ (HT.out.stays V11.out.below (Nat.le_refl _))).mono ?_
  rintro e w12 ⟨rfl, hb12⟩
  have V12 := Lib.hid (V11.out.next hb12)
  have d0 := V12.out.two.c0
  have d1 := V12.out.two.c1
  clear hb12 V11 c0 c1
  go_wp2_with fail
  refine (K10.out _).mono ?_
  rintro e w13 ⟨rfl, hb13⟩
  have V13 := Lib.hid (V12.out.next hb13)
  clear hb13 V12 d0 d1
  go_wp2_with fail
  go_ret
  exact ⟨rfl, V13.out.below⟩

end Go.Proofs.YtogmmilfdolpnabDoor
