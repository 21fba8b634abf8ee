/-
  The law on locked texts: its walk.
-/
import Derived.Test.YtogmmilfdolpnabDoorLockFns
import Derived.Test.YtogmmilfdolpnabDoorDrawLocks
namespace Go.Proofs.YtogmmilfdolpnabDoor
open Go.RowKit

set_option maxRecDepth 100000 in
set_option maxHeartbeats 400000 in
theorem lawLocks_big (a : Option Addr) (len cap : Nat) (h : 1048576 < len) (w : World) :
    Calls Tryd.prog 3 #[.slice a len cap] w fun e w' => e = .returned (.bool true) ∧ Below w.heap.size w w' := by
  have hd : decide (1048576 < (len : Int)) = true := decide_eq_true (by omega)
  have HB := Lib.hid (fun w => bigM_any a len cap w)
  rw [hd] at HB
  go_enter Tryd.func3, Tryd.ntmps3
  go_wp2_with fail
  refine (HB.out _).mono ?_
  rintro e w1 ⟨rfl, rfl⟩
  go_wp2
  go_ret
  exact ⟨rfl, Below.refl _ _⟩

theorem mask_front (key : ByteArray) (num n m : Nat) (h : n ≤ m) : (maskB key num m).extract 0 n = maskB key num n := by
  unfold maskB
  apply ByteArray.ext
  apply Array.ext'
  rw [← maskP_front key num n m h]
  simp

set_option maxRecDepth 100000 in
set_option maxHeartbeats 4000000 in
theorem lawLocksF (F : LockFns) (a : Option Addr) (len cap : Nat) (w : World) (H : Src a len w) (ht : LaidK w) :
    Calls Tryd.prog 3 #[.slice a len cap] w fun e w' => e = .returned (.bool true) ∧ Below w.heap.size w w' := by
  have hd : decide (1048576 < (len : Int)) = false := decide_eq_false (by have := H.few; omega)
  have HB := Lib.hid (fun w => bigM_any a len cap w)
  rw [hd] at HB
  have HS := Lib.hid H
  have HT := Lib.hid ht
  clear H ht hd
  go_enter Tryd.func3, Tryd.ntmps3
  go_wp2_with fail
  refine (HB.out _).mono ?_
  rintro e w1 ⟨rfl, rfl⟩
  go_wp2_with fail
  refine (drawLockText_any a len cap _ HS.out).mono ?_
  rintro e w2 ⟨key, num, s, hkl, hnr, hsl, rfl, hb2⟩
  have HB2 := Lib.hid hb2
  clear hb2 HB
  -- the masks
  have km1 := F.mask_yes key 3 40 (by omega) (by omega) (by omega)
  have km2 := F.mask_yes key 3 70 (by omega) (by omega) (by omega)
  have z1 := maskB_size key 3 40
  have z2 := maskB_size key 3 70
  have hbx := mask_front key 3 40 70 (by omega)
  obtain ⟨ma, MA⟩ : ∃ m, Hid (m = maskB key 3 40) := ⟨_, rfl⟩
  obtain ⟨mb, MB⟩ : ∃ m, Hid (m = maskB key 3 70) := ⟨_, rfl⟩
  rw [← MA.out] at km1 z1 hbx
  rw [← MB.out] at km2 z2 hbx
  have KM1 : Hid (∀ X, LaidK X → Calls Tryd.prog 13 #[.string key, .int .i64 3, .int .i64 40] X fun e X' => e = .returned (.tuple #[.string ma, .bool true]) ∧ Below X.heap.size X X') := km1
  have KM2 : Hid (∀ X, LaidK X → Calls Tryd.prog 13 #[.string key, .int .i64 3, .int .i64 70] X fun e X' => e = .returned (.tuple #[.string mb, .bool true]) ∧ Below X.heap.size X X') := km2
  have BG := Lib.hid (begins_yes ma mb (by omega) (by rw [z1]; exact hbx))
  have hm70 : (mb.size : Int) = 70 := by omega
  clear km1 km2 hbx
  -- what is locked
  obtain ⟨t, x, ok, right, kl, ko, ks, hif⟩ : ∃ (t x : ByteArray) (ok right : Bool),
      (∀ X, LaidK X → Calls Tryd.prog 8 #[.string key, .int .i64 num, .string s] X fun e X' => e = .returned (.tuple #[.string t, .bool ok]) ∧ Below X.heap.size X X') ∧
      (∀ X, LaidK X → Calls Tryd.prog 9 #[.string key, .int .i64 num, .string t] X fun e X' => e = .returned (.tuple #[.string x, .bool right]) ∧ Below X.heap.size X X') ∧
      (∀ X, Calls Tryd.prog 10 #[.string key, .int .i64 num, .string s] X fun e X' => e = .returned (.tuple #[.string t, .bool ok]) ∧ Below X.heap.size X X') ∧
      ((ok = true ∧ right = true ∧ x = s ∧ t.size = s.size + 16) ∨ ok = false) := by
    by_cases hr : 0 ≤ num ∧ num ≤ 1000000000
    · obtain ⟨n, rfl⟩ : ∃ n : Nat, num = (n : Int) := ⟨num.toNat, by omega⟩
      exact ⟨lockP key n s, s, true, true, F.lock_yes key n s (by omega) (by omega) (by omega), open_lock F key n s (by omega) (by omega) (by omega), specLock_yes key n s (by omega) (by omega) (by omega), .inl ⟨rfl, rfl, rfl, lockP_size key n s⟩⟩
    · exact ⟨⟨#[]⟩, ⟨#[]⟩, false, false, F.lock_no key num s (by omega) (by omega), F.open_short key num ⟨#[]⟩ (by decide), specLock_no key num s (by omega), .inr rfl⟩
  have KL := Lib.hid kl
  have KO := Lib.hid ko
  have KS := Lib.hid ks
  clear kl ko ks
  go_wp2_with fail
  refine (KL.out _ (HT.out.stays HB2.out (Nat.le_refl _))).mono ?_
  rintro e w3 ⟨rfl, hb3⟩
  have HB3 := Lib.hid (HB2.out.trans (hb3.mono HB2.out.size))
  clear hb3 HB2
  go_wp2_with fail
  refine (KO.out _ (HT.out.stays HB3.out (Nat.le_refl _))).mono ?_
  rintro e w4 ⟨rfl, hb4⟩
  have HB4 := Lib.hid (HB3.out.trans (hb4.mono HB3.out.size))
  clear hb4 HB3
  go_wp2_with fail
  refine (KS.out _).mono ?_
  rintro e w5 ⟨rfl, hb5⟩
  have HB5 := Lib.hid (HB4.out.trans (hb5.mono HB4.out.size))
  have HS5 := Lib.hid (HS.out.below HB5.out)
  clear hb5 HB4 KL KO KS
  rcases hif with ⟨rfl, rfl, rfl, hts⟩ | rfl
  · have hts2 : (t.size : Int) = (x.size : Int) + 16 := by omega
    go_wp2_with fail
    refine (drawOpenText_any a len cap _ HS5.out).mono ?_
    rintro e w6 ⟨k, n, u, hkl2, hnr2, hul, rfl, hb6⟩
    have HB6 := Lib.hid (HB5.out.trans (hb6.mono HB5.out.size))
    clear hb6 HB5 HS5
    obtain ⟨y, b, hy, hback, ko, ks⟩ := open_both F k n u (by omega) (by omega) (by omega)
    have kl := F.lock_yes k n y (by omega) (by omega) hy
    have KO := Lib.hid ko
    have KS := Lib.hid ks
    obtain ⟨bk, BK⟩ : ∃ m, Hid (m = lockP k n y) := ⟨_, rfl⟩
    rw [← BK.out] at kl hback
    have KL := Lib.hid kl
    clear ko ks kl hy
    go_wp2_with fail
    refine (KO.out _ (HT.out.stays HB6.out (Nat.le_refl _))).mono ?_
    rintro e w7 ⟨rfl, hb7⟩
    have HB7 := Lib.hid (HB6.out.trans (hb7.mono HB6.out.size))
    clear hb7 HB6
    go_wp2_with fail
    refine (KS.out _).mono ?_
    rintro e w8 ⟨rfl, hb8⟩
    have HB8 := Lib.hid (HB7.out.trans (hb8.mono HB7.out.size))
    clear hb8 HB7
    go_wp2_with fail
    refine (KL.out _ (HT.out.stays HB8.out (Nat.le_refl _))).mono ?_
    rintro e w9 ⟨rfl, hb9⟩
    have HB9 := Lib.hid (HB8.out.trans (hb9.mono HB8.out.size))
    clear hb9 HB8
    go_wp2_with fail
    refine (KM1.out _ (HT.out.stays HB9.out (Nat.le_refl _))).mono ?_
    rintro e w10 ⟨rfl, hb10⟩
    have HB10 := Lib.hid (HB9.out.trans (hb10.mono HB9.out.size))
    clear hb10 HB9
    go_wp2_with fail
    refine (KM2.out _ (HT.out.stays HB10.out (Nat.le_refl _))).mono ?_
    rintro e w11 ⟨rfl, hb11⟩
    have HB11 := Lib.hid (HB10.out.trans (hb11.mono HB10.out.size))
    clear hb11 HB10 KO KS KL
    cases b
    · clear hback
      go_wp2_with fail
      refine (BG.out _).mono ?_
      rintro e w12 ⟨rfl, rfl⟩
      go_wp2_with fail
      go_ret
      exact ⟨rfl, HB11.out⟩
    · have hbk := hback rfl
      subst hbk
      clear hback
      go_wp2_with fail
      refine (BG.out _).mono ?_
      rintro e w12 ⟨rfl, rfl⟩
      go_wp2_with fail
      go_ret
      exact ⟨rfl, HB11.out⟩
  · go_wp2_with fail
    refine (drawOpenText_any a len cap _ HS5.out).mono ?_
    rintro e w6 ⟨k, n, u, hkl2, hnr2, hul, rfl, hb6⟩
    have HB6 := Lib.hid (HB5.out.trans (hb6.mono HB5.out.size))
    clear hb6 HB5 HS5
    obtain ⟨y, b, hy, hback, ko, ks⟩ := open_both F k n u (by omega) (by omega) (by omega)
    have kl := F.lock_yes k n y (by omega) (by omega) hy
    have KO := Lib.hid ko
    have KS := Lib.hid ks
    obtain ⟨bk, BK⟩ : ∃ m, Hid (m = lockP k n y) := ⟨_, rfl⟩
    rw [← BK.out] at kl hback
    have KL := Lib.hid kl
    clear ko ks kl hy
    go_wp2_with fail
    refine (KO.out _ (HT.out.stays HB6.out (Nat.le_refl _))).mono ?_
    rintro e w7 ⟨rfl, hb7⟩
    have HB7 := Lib.hid (HB6.out.trans (hb7.mono HB6.out.size))
    clear hb7 HB6
    go_wp2_with fail
    refine (KS.out _).mono ?_
    rintro e w8 ⟨rfl, hb8⟩
    have HB8 := Lib.hid (HB7.out.trans (hb8.mono HB7.out.size))
    clear hb8 HB7
    go_wp2_with fail
    refine (KL.out _ (HT.out.stays HB8.out (Nat.le_refl _))).mono ?_
    rintro e w9 ⟨rfl, hb9⟩
    have HB9 := Lib.hid (HB8.out.trans (hb9.mono HB8.out.size))
    clear hb9 HB8
    go_wp2_with fail
    refine (KM1.out _ (HT.out.stays HB9.out (Nat.le_refl _))).mono ?_
    rintro e w10 ⟨rfl, hb10⟩
    have HB10 := Lib.hid (HB9.out.trans (hb10.mono HB9.out.size))
    clear hb10 HB9
    go_wp2_with fail
    refine (KM2.out _ (HT.out.stays HB10.out (Nat.le_refl _))).mono ?_
    rintro e w11 ⟨rfl, hb11⟩
    have HB11 := Lib.hid (HB10.out.trans (hb11.mono HB10.out.size))
    clear hb11 HB10 KO KS KL
    cases b
    · clear hback
      go_wp2_with fail
      refine (BG.out _).mono ?_
      rintro e w12 ⟨rfl, rfl⟩
      go_wp2_with fail
      go_ret
      exact ⟨rfl, HB11.out⟩
    · have hbk := hback rfl
      subst hbk
      clear hback
      go_wp2_with fail
      refine (BG.out _).mono ?_
      rintro e w12 ⟨rfl, rfl⟩
      go_wp2_with fail
      go_ret
      exact ⟨rfl, HB11.out⟩

end Go.Proofs.YtogmmilfdolpnabDoor
