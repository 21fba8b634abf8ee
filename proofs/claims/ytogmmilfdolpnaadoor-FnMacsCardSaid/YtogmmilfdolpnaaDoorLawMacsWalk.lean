/-
  The law on sums under a key and expansions: its walk.
-/
import Derived.Test.YtogmmilfdolpnaaDoorExpandImpl
import Derived.Test.YtogmmilfdolpnaaDoorMacSpec
import Derived.Test.YtogmmilfdolpnaaDoorSameImpl
import Derived.Test.YtogmmilfdolpnaaDoorDrawMac
namespace Go.Proofs.YtogmmilfdolpnaaDoor
open Go.RowKit

/-- A long key counts as its digest. -/
theorem macP_key (k s : ByteArray) : macP (keyP k) s = macP k s := by
  have e : keyP (keyP k) = keyP k := by
    have h := keyP_size k
    have e2 : ∀ x : ByteArray, x.size ≤ 64 → keyP x = x := fun x hx => by unfold keyP; rw [if_neg (by omega)]
    exact e2 _ h
  unfold macP padP
  rw [e]
/-- Two numbers of a row that is not changed, and nothing below is. -/
structure PL (w : World) (g : Nat) (z0 z1 : Int) (X : World) : Prop where
  c0 : X.cell? ⟨g, 0, none⟩ = some (.int .i64 z0)
  c1 : X.cell? ⟨g, 1, none⟩ = some (.int .i64 z1)
  lt : g < X.heap.size
  below : Below w.heap.size w X
theorem PL.next {w : World} {g : Nat} {z0 z1 : Int} {X Y : World} (h : PL w g z0 z1 X) (hb : Below X.heap.size X Y) : PL w g z0 z1 Y :=
  ⟨by rw [hb.cell (p := ⟨g, 0, none⟩) h.lt]; exact h.c0, by rw [hb.cell (p := ⟨g, 1, none⟩) h.lt]; exact h.c1, Nat.lt_of_lt_of_le h.lt hb.size, h.below.trans (hb.mono h.below.size)⟩
theorem PL.drew {w : World} {g : Nat} {z0 z1 : Int} {X : World} (h : PL w g z0 z1 X) : PL w g z0 z1 X.drew := ⟨h.c0, h.c1, h.lt, h.below.drew⟩
theorem PL.two {w : World} {g : Nat} {z0 z1 : Int} {X : World} (h : PL w g z0 z1 X) : X.cell? ⟨g, 0, none⟩ = some (.int .i64 z0) ∧ X.cell? ⟨g, 1, none⟩ = some (.int .i64 z1) ∧ PL w g z0 z1 X := ⟨h.c0, h.c1, h⟩

set_option maxRecDepth 100000 in
set_option maxHeartbeats 400000 in
theorem lawMacs_big (a : Option Addr) (len cap : Nat) (h : 1048576 < len) (w : World) :
    Calls Tryd.prog 7 #[.slice a len cap] w fun e w' => e = .returned (.bool true) ∧ Below w.heap.size w w' := by
  have hd : decide (1048576 < (len : Int)) = true := decide_eq_true (by omega)
  have HB := Lib.hid (fun w => bigM_any a len cap w)
  rw [hd] at HB
  go_enter Tryd.func7, Tryd.ntmps7
  go_wp2_with fail
  refine (HB.out _).mono ?_
  rintro e w1 ⟨rfl, rfl⟩
  go_wp2
  go_ret
  exact ⟨rfl, Below.refl _ _⟩

set_option maxRecDepth 100000 in
set_option maxHeartbeats 4000000 in
theorem lawMacs (a : Option Addr) (len cap : Nat) (w : World) (H : Src a len w) (ht : LaidK w) :
    Calls Tryd.prog 7 #[.slice a len cap] w fun e w' => e = .returned (.bool true) ∧ Below w.heap.size w w' := by
  have hd : decide (1048576 < (len : Int)) = false := decide_eq_false (by have := H.few; omega)
  have HB := Lib.hid (fun w => bigM_any a len cap w)
  rw [hd] at HB
  have HS := Lib.hid H
  have HT := Lib.hid ht
  clear H ht hd
  go_enter Tryd.func7, Tryd.ntmps7
  go_wp2_with fail
  refine (HB.out _).mono ?_
  rintro e w1 ⟨rfl, rfl⟩
  go_wp2_with fail
  refine (drawMacOf_any a len cap _ HS.out).mono ?_
  rintro e w2 ⟨key, s, hkl, hsl, rfl, hb2⟩
  have HB2 := Lib.hid hb2
  clear hb2 HB
  -- what each call gives
  have KM := Lib.hid (implMacOf_any key s (by omega) (by omega))
  have KS := Lib.hid (specMacOf_any key s (by omega) (by omega))
  have km2 := implMacOf_any (keyP key) s (by have := keyP_size key; omega) (by omega)
  rw [macP_key key s] at km2
  have kd := implDigP_any key (by omega)
  have hm32 := macP_size key s
  have KX := Lib.hid (fun n hn => implExpand_yes key s n hn (by omega) (by omega))
  have KN := Lib.hid (implExpand_no key s (-1) (by omega))
  have KF := Lib.hid (fun n m h => expandP_front key s n m h)
  have KL := Lib.hid (fun n => expandP_length key s n)
  obtain ⟨m, M⟩ : ∃ m, Hid (m = macP key s) := ⟨_, rfl⟩
  rw [← M.out] at KM KS km2 hm32
  have KE : Hid (∀ X, Calls Tryd.prog 40 #[.string m, .string m] X fun e X' => e = .returned (.bool true) ∧ Below X.heap.size X X') := fun X => by
    have h := implSameMac_any m m (by omega) X
    have e : (m.toList == m.toList) = true := by simp
    rw [e] at h
    exact h
  go_wp2_with fail
  refine (KM.out _ (HT.out.stays HB2.out (Nat.le_refl _))).mono ?_
  rintro e w3 ⟨rfl, hb3⟩
  have HB3 := Lib.hid (HB2.out.trans (hb3.mono HB2.out.size))
  clear hb3
  by_cases hlong : 64 < (key.size : Int)
  · have hk2 : keyP key = digP key := by unfold keyP; rw [if_pos (by omega)]
    rw [hk2] at km2
    obtain ⟨dk, DK⟩ : ∃ d, Hid (d = digP key) := ⟨_, rfl⟩
    rw [← DK.out] at km2 kd
    have KM2 := Lib.hid km2
    have KD := Lib.hid kd
    clear km2 kd hk2
    go_wp2_with fail
    refine (KD.out _ (HT.out.stays HB3.out (Nat.le_refl _))).mono ?_
    rintro e w4 ⟨rfl, hb4⟩
    have HB4 := Lib.hid (HB3.out.trans (hb4.mono HB3.out.size))
    clear hb4 HB3 HB2
    have HS4 := Lib.hid (HS.out.below HB4.out)
    go_wp2_with fail
    refine (drawPlaces_any a len cap _ HS4.out).mono ?_
    rintro e w5 ⟨g, cp, zs, hz, hzs, rfl, hg, hcell, hb5⟩
    obtain ⟨z0, hz0, c0⟩ : ∃ z0 : Int, (0 ≤ z0 ∧ z0 ≤ 9999) ∧ w5.cell? ⟨g, 0, none⟩ = some (.int .i64 z0) := ⟨_, hzs _ (by rw [List.getD_eq_getElem?_getD, List.getElem?_eq_getElem (by omega)]; exact List.getElem_mem _), hcell 0 (by omega)⟩
    obtain ⟨z1, hz1, c1⟩ : ∃ z1 : Int, (0 ≤ z1 ∧ z1 ≤ 9999) ∧ w5.cell? ⟨g, 1, none⟩ = some (.int .i64 z1) := ⟨_, hzs _ (by rw [List.getD_eq_getElem?_getD, List.getElem?_eq_getElem (by omega)]; exact List.getElem_mem _), hcell 1 (by omega)⟩
    have P5 : Hid (PL w1 g z0 z1 w5) := ⟨c0, c1, hg, HB4.out.trans (hb5.mono HB4.out.size)⟩
    clear hb5 hcell hzs hz HB4 HS4 hg
    obtain ⟨n1, hn1, r1, r2⟩ : ∃ n : Nat, n < 90 ∧ z0 % 90 = (n : Int) ∧ z0.tmod 90 = (n : Int) := by
      refine ⟨(z0 % 90).toNat, by omega, by omega, ?_⟩
      rw [Int.tmod_eq_emod_of_nonneg hz0.1]
      omega
    obtain ⟨n2, hn2, r3, r4⟩ : ∃ n : Nat, n < 90 ∧ z1 % 90 = (n : Int) ∧ z1.tmod 90 = (n : Int) := by
      refine ⟨(z1 % 90).toNat, by omega, by omega, ?_⟩
      rw [Int.tmod_eq_emod_of_nonneg hz1.1]
      omega
    obtain ⟨n3, r5, hn3⟩ : ∃ n : Nat, (n1 : Int) + (n2 : Int) = (n : Int) ∧ n = n1 + n2 := ⟨n1 + n2, by omega, rfl⟩
    have hwa : IntKind.i64.wrap ((n1 : Int) + (n2 : Int)) = (n1 : Int) + (n2 : Int) := by rw [IntKind.wrap_i64]; omega
    have x1 := KX.out n1 (by omega)
    have x2 := KX.out n3 (by omega)
    have l1 := KL.out n1
    have l2 := KL.out n3
    have lf := KF.out n1 n3 (by omega)
    obtain ⟨ea, EA⟩ : ∃ e : ByteArray, Hid (e = ⟨(expandP key s n1).toArray⟩) := ⟨_, rfl⟩
    obtain ⟨eb, EB⟩ : ∃ e : ByteArray, Hid (e = ⟨(expandP key s n3).toArray⟩) := ⟨_, rfl⟩
    have la : ea.size = n1 := by rw [EA.out]; show (expandP key s n1).toArray.size = n1; rw [List.size_toArray]; exact l1
    have lb : eb.size = n3 := by rw [EB.out]; show (expandP key s n3).toArray.size = n3; rw [List.size_toArray]; exact l2
    have hbx : eb.extract 0 ea.size = ea := by rw [la, EB.out, front_bytes _ _, lf, EA.out]
    rw [← EA.out] at x1
    rw [← EB.out] at x2
    have X1 := Lib.hid x1
    have X2 : Hid (∀ X, (X.cell? ⟨g, 0, none⟩ = some (.int .i64 z0) ∧ X.cell? ⟨g, 1, none⟩ = some (.int .i64 z1) ∧ PL w1 g z0 z1 X) → Calls Tryd.prog 37 #[.string key, .string s, .int .i64 ((n1 : Int) + (n2 : Int))] X fun e Y => e = .returned (.tuple #[.string eb, .bool true]) ∧ (Y.cell? ⟨g, 0, none⟩ = some (.int .i64 z0) ∧ Y.cell? ⟨g, 1, none⟩ = some (.int .i64 z1) ∧ PL w1 g z0 z1 Y)) := fun X hX => by
      rw [r5]
      refine (x2 X (HT.out.stays hX.2.2.below (Nat.le_refl _))).mono ?_
      rintro e Y ⟨rfl, hb⟩
      exact ⟨rfl, (hX.2.2.next hb).two⟩
    have BG := Lib.hid (begins_yes ea eb (by omega) hbx)
    have la2 : (ea.size : Int) = (n1 : Int) := by omega
    have hm2 : (m.size : Int) = 32 := by omega
    clear r5 x1 x2 l1 l2 lf hbx lb KX KL KF la
    go_wp2_with fail
    refine (X1.out _ (HT.out.stays P5.out.below (Nat.le_refl _))).mono ?_
    rintro e w6 ⟨rfl, hb6⟩
    have P6 := Lib.hid (P5.out.next hb6)
    clear hb6 c0 c1 P5
    go_wp2_with fail
    go_region_held3 (fun X => X.cell? ⟨g, 0, none⟩ = some (.int .i64 z0) ∧ X.cell? ⟨g, 1, none⟩ = some (.int .i64 z1) ∧ PL w1 g z0 z1 X) (first | (with_reducible assumption) | (with_reducible exact (PL.drew P6.out).two)) (first | (go_at_call 37; refine (X2.out _ (by assumption)).mono ?_; rintro e w7 ⟨rfl, hS⟩))
    have P7 := Lib.hid hS.2.2
    clear hS P6
    go_wp2_with fail
    refine (KN.out _).mono ?_
    rintro e w8 ⟨rfl, hb8⟩
    have P8 := Lib.hid (P7.out.next hb8)
    clear hb8 P7
    go_wp2_with fail
    refine (KS.out _).mono ?_
    rintro e w9 ⟨rfl, hb9⟩
    have P9 := Lib.hid (P8.out.next hb9)
    clear hb9 P8
    go_wp2_with fail
    refine (KM2.out _ (HT.out.stays P9.out.below (Nat.le_refl _))).mono ?_
    rintro e w10 ⟨rfl, hb10⟩
    have P10 := Lib.hid (P9.out.next hb10)
    have c10 := P10.out.c0
    clear hb10 P9
    go_wp2_with fail
    refine (BG.out _).mono ?_
    rintro e w11 ⟨rfl, rfl⟩
    go_wp2_with fail
    refine (KE.out _).mono ?_
    rintro e w12 ⟨rfl, hb12⟩
    have P12 := Lib.hid (P10.out.next hb12)
    clear hb12 P10 c10
    go_wp2_with fail
    refine (turnedText_any m (by omega) (by omega) g cp z0 z1 hz0 hz1 _ P12.out.lt P12.out.c0 P12.out.c1).mono ?_
    rintro e w13 ⟨t, htn, rfl, hb13⟩
    have P13 := Lib.hid (P12.out.next hb13)
    have hsf := implSameMac_any m t (by omega)
    have hne : (m.toList == t.toList) = false := by
      rw [Bool.eq_false_iff]
      intro h
      exact htn (eq_of_beq h).symm
    rw [hne] at hsf
    have KF2 := Lib.hid hsf
    clear hb13 P12 hsf htn hne
    go_wp2_with fail
    refine (KF2.out _).mono ?_
    rintro e w14 ⟨rfl, hb14⟩
    have P14 := Lib.hid (P13.out.next hb14)
    clear hb14 P13
    go_wp2_with fail
    go_ret
    exact ⟨rfl, P14.out.below⟩
  · have hk2 : keyP key = key := by unfold keyP; rw [if_neg (by omega)]
    rw [hk2] at km2
    have KM2 := Lib.hid km2
    have HB4 := HB3
    clear km2 kd hk2 HB3 HB2
    have HS4 := Lib.hid (HS.out.below HB4.out)
    go_wp2_with fail
    refine (drawPlaces_any a len cap _ HS4.out).mono ?_
    rintro e w5 ⟨g, cp, zs, hz, hzs, rfl, hg, hcell, hb5⟩
    obtain ⟨z0, hz0, c0⟩ : ∃ z0 : Int, (0 ≤ z0 ∧ z0 ≤ 9999) ∧ w5.cell? ⟨g, 0, none⟩ = some (.int .i64 z0) := ⟨_, hzs _ (by rw [List.getD_eq_getElem?_getD, List.getElem?_eq_getElem (by omega)]; exact List.getElem_mem _), hcell 0 (by omega)⟩
    obtain ⟨z1, hz1, c1⟩ : ∃ z1 : Int, (0 ≤ z1 ∧ z1 ≤ 9999) ∧ w5.cell? ⟨g, 1, none⟩ = some (.int .i64 z1) := ⟨_, hzs _ (by rw [List.getD_eq_getElem?_getD, List.getElem?_eq_getElem (by omega)]; exact List.getElem_mem _), hcell 1 (by omega)⟩
    have P5 : Hid (PL w1 g z0 z1 w5) := ⟨c0, c1, hg, HB4.out.trans (hb5.mono HB4.out.size)⟩
    clear hb5 hcell hzs hz HB4 HS4 hg
    obtain ⟨n1, hn1, r1, r2⟩ : ∃ n : Nat, n < 90 ∧ z0 % 90 = (n : Int) ∧ z0.tmod 90 = (n : Int) := by
      refine ⟨(z0 % 90).toNat, by omega, by omega, ?_⟩
      rw [Int.tmod_eq_emod_of_nonneg hz0.1]
      omega
    obtain ⟨n2, hn2, r3, r4⟩ : ∃ n : Nat, n < 90 ∧ z1 % 90 = (n : Int) ∧ z1.tmod 90 = (n : Int) := by
      refine ⟨(z1 % 90).toNat, by omega, by omega, ?_⟩
      rw [Int.tmod_eq_emod_of_nonneg hz1.1]
      omega
    obtain ⟨n3, r5, hn3⟩ : ∃ n : Nat, (n1 : Int) + (n2 : Int) = (n : Int) ∧ n = n1 + n2 := ⟨n1 + n2, by omega, rfl⟩
    have hwa : IntKind.i64.wrap ((n1 : Int) + (n2 : Int)) = (n1 : Int) + (n2 : Int) := by rw [IntKind.wrap_i64]; omega
    have x1 := KX.out n1 (by omega)
    have x2 := KX.out n3 (by omega)
    have l1 := KL.out n1
    have l2 := KL.out n3
    have lf := KF.out n1 n3 (by omega)
    obtain ⟨ea, EA⟩ : ∃ e : ByteArray, Hid (e = ⟨(expandP key s n1).toArray⟩) := ⟨_, rfl⟩
    obtain ⟨eb, EB⟩ : ∃ e : ByteArray, Hid (e = ⟨(expandP key s n3).toArray⟩) := ⟨_, rfl⟩
    have la : ea.size = n1 := by rw [EA.out]; show (expandP key s n1).toArray.size = n1; rw [List.size_toArray]; exact l1
    have lb : eb.size = n3 := by rw [EB.out]; show (expandP key s n3).toArray.size = n3; rw [List.size_toArray]; exact l2
    have hbx : eb.extract 0 ea.size = ea := by rw [la, EB.out, front_bytes _ _, lf, EA.out]
    rw [← EA.out] at x1
    rw [← EB.out] at x2
    have X1 := Lib.hid x1
    have X2 : Hid (∀ X, (X.cell? ⟨g, 0, none⟩ = some (.int .i64 z0) ∧ X.cell? ⟨g, 1, none⟩ = some (.int .i64 z1) ∧ PL w1 g z0 z1 X) → Calls Tryd.prog 37 #[.string key, .string s, .int .i64 ((n1 : Int) + (n2 : Int))] X fun e Y => e = .returned (.tuple #[.string eb, .bool true]) ∧ (Y.cell? ⟨g, 0, none⟩ = some (.int .i64 z0) ∧ Y.cell? ⟨g, 1, none⟩ = some (.int .i64 z1) ∧ PL w1 g z0 z1 Y)) := fun X hX => by
      rw [r5]
      refine (x2 X (HT.out.stays hX.2.2.below (Nat.le_refl _))).mono ?_
      rintro e Y ⟨rfl, hb⟩
      exact ⟨rfl, (hX.2.2.next hb).two⟩
    have BG := Lib.hid (begins_yes ea eb (by omega) hbx)
    have la2 : (ea.size : Int) = (n1 : Int) := by omega
    have hm2 : (m.size : Int) = 32 := by omega
    clear r5 x1 x2 l1 l2 lf hbx lb KX KL KF la
    go_wp2_with fail
    refine (X1.out _ (HT.out.stays P5.out.below (Nat.le_refl _))).mono ?_
    rintro e w6 ⟨rfl, hb6⟩
    have P6 := Lib.hid (P5.out.next hb6)
    clear hb6 c0 c1 P5
    go_wp2_with fail
    go_region_held3 (fun X => X.cell? ⟨g, 0, none⟩ = some (.int .i64 z0) ∧ X.cell? ⟨g, 1, none⟩ = some (.int .i64 z1) ∧ PL w1 g z0 z1 X) (first | (with_reducible assumption) | (with_reducible exact (PL.drew P6.out).two)) (first | (go_at_call 37; refine (X2.out _ (by assumption)).mono ?_; rintro e w7 ⟨rfl, hS⟩))
    have P7 := Lib.hid hS.2.2
    clear hS P6
    go_wp2_with fail
    refine (KN.out _).mono ?_
    rintro e w8 ⟨rfl, hb8⟩
    have P8 := Lib.hid (P7.out.next hb8)
    clear hb8 P7
    go_wp2_with fail
    refine (KS.out _).mono ?_
    rintro e w9 ⟨rfl, hb9⟩
    have P9 := Lib.hid (P8.out.next hb9)
    clear hb9 P8
    go_wp2_with fail
    refine (KM2.out _ (HT.out.stays P9.out.below (Nat.le_refl _))).mono ?_
    rintro e w10 ⟨rfl, hb10⟩
    have P10 := Lib.hid (P9.out.next hb10)
    have c10 := P10.out.c0
    clear hb10 P9
    go_wp2_with fail
    refine (BG.out _).mono ?_
    rintro e w11 ⟨rfl, rfl⟩
    go_wp2_with fail
    refine (KE.out _).mono ?_
    rintro e w12 ⟨rfl, hb12⟩
    have P12 := Lib.hid (P10.out.next hb12)
    clear hb12 P10 c10
    go_wp2_with fail
    refine (turnedText_any m (by omega) (by omega) g cp z0 z1 hz0 hz1 _ P12.out.lt P12.out.c0 P12.out.c1).mono ?_
    rintro e w13 ⟨t, htn, rfl, hb13⟩
    have P13 := Lib.hid (P12.out.next hb13)
    have hsf := implSameMac_any m t (by omega)
    have hne : (m.toList == t.toList) = false := by
      rw [Bool.eq_false_iff]
      intro h
      exact htn (eq_of_beq h).symm
    rw [hne] at hsf
    have KF2 := Lib.hid hsf
    clear hb13 P12 hsf htn hne
    go_wp2_with fail
    refine (KF2.out _).mono ?_
    rintro e w14 ⟨rfl, hb14⟩
    have P14 := Lib.hid (P13.out.next hb14)
    clear hb14 P13
    go_wp2_with fail
    go_ret
    exact ⟨rfl, P14.out.below⟩

end Go.Proofs.YtogmmilfdolpnaaDoor
