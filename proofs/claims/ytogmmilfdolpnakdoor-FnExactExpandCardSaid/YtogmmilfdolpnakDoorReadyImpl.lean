/-
  The program's key made ready.
-/
import Derived.Test.YtogmmilfdolpnakDoorDigestImpl
import Derived.Test.YtogmmilfdolpnakDoorXorImpl
import Derived.Test.YtogmmilfdolpnakDoorVarTwo
import Derived.Lib.Repeat
namespace Go.Proofs.YtogmmilfdolpnakDoor
open Go.RowKit

theorem implDigP_any (s : ByteArray) (hs : s.size ≤ 500000000) (w : World) (hK : LaidK w) :
    Calls Tryd.prog 46 #[.string s] w fun e w' => e = .returned (.string (digP s)) ∧ Below w.heap.size w w' := implDigestOf_any s hs w hK
/-- One byte many times. -/
theorem repeat_any (b : UInt8) (n : Nat) (hn : n ≤ 1000) (w : World) :
    Calls Tryd.prog 44 #[.string ⟨#[b]⟩, .int .i64 (n : Nat)] w fun e w' => e = .returned (.string ⟨(List.replicate n b).toArray⟩) ∧ Below w.heap.size w w' := by
  have h := Tryd.strings_Repeat ⟨#[b]⟩ n w (by omega) (by show 1 * n ≤ _; omega)
  have e0 : Lib.repeatL [b] n = List.replicate n b := by
    have := Lib.repeatL_replicate b 1 n
    rw [Nat.mul_one] at this
    exact this
  rw [e0] at h
  exact h
theorem pad_eq (key k : ByteArray) (n : Nat) (x : UInt8) (hkey : keyP key = k) (hk : k.size ≤ 64) (hn : n = 64 - k.size) :
    (⟨(xorUp (k ++ (⟨(List.replicate n (0 : UInt8)).toArray⟩ : ByteArray)).data.toList (⟨(List.replicate 64 x).toArray⟩ : ByteArray).data.toList (k ++ (⟨(List.replicate n (0 : UInt8)).toArray⟩ : ByteArray)).size).toArray⟩ : ByteArray) = padP key x := by
  have hl : k.data.toList.length = k.size := by simp
  have e1 : (k ++ (⟨(List.replicate n (0 : UInt8)).toArray⟩ : ByteArray)).data.toList = k.data.toList ++ List.replicate (64 - k.data.toList.length) 0 := by
    rw [hl, ← hn]
    simp
  have e2 : (k ++ (⟨(List.replicate n (0 : UInt8)).toArray⟩ : ByteArray)).size = 64 := by
    rw [ByteArray.size_append]
    have : (⟨(List.replicate n (0 : UInt8)).toArray⟩ : ByteArray).size = n := by show (List.replicate n (0 : UInt8)).toArray.size = n; simp
    omega
  rw [e1, e2]
  show (⟨(xorUp _ (List.replicate 64 x) 64).toArray⟩ : ByteArray) = _
  rw [xorUp_pad _ _ (by omega)]
  unfold padP
  rw [hkey]

set_option maxRecDepth 100000 in
set_option maxHeartbeats 1600000 in
theorem readyKeyK_any (key k : ByteArray) (hkey : keyP key = k) (hk64 : k.size ≤ 64) (hk : key.size ≤ 400000000) (w : World) (hK : LaidK w) :
    Calls Tryd.prog 31 #[.string key] w fun e w' => e = .returned (.agg #[.string (padP key 54), .string (padP key 92)]) ∧ Below w.heap.size w w' := by
  have V0 := Lib.hid (VarP.new w 55 (.string ⟨#[]⟩) (.string ⟨#[]⟩))
  have B0 := Lib.hid ((Below.refl w.heap.size w).alloc (Nat.le_refl _) (.cells #[.string ⟨#[]⟩, .string ⟨#[]⟩] 55))
  by_cases hlong : 64 < (key.size : Int)
  · have hk2 : digP key = k := by rw [← hkey]; unfold keyP; rw [if_pos (by omega)]
    have h1 := fun X hX => implDigP_any key (by omega) X hX
    rw [hk2] at h1
    have H1 := Lib.hid h1
    have HK := Lib.hid (hK.stays B0.out (Nat.le_refl _))
    clear hk2 h1 hK
    obtain ⟨n, hn, hn2⟩ : ∃ n : Nat, 64 - (k.size : Int) = (n : Int) ∧ n = 64 - k.size := ⟨64 - k.size, by omega, rfl⟩
    have hR0 := repeat_any 0 n (by omega)
    have hR1 := repeat_any 54 64 (by omega)
    have hR2 := repeat_any 92 64 (by omega)
    have hp1 := pad_eq key k n 54 hkey hk64 hn2
    have hp2 := pad_eq key k n 92 hkey hk64 hn2
    obtain ⟨zr, hz, ZR⟩ : ∃ z : ByteArray, z.size = n ∧ Hid (z = ⟨(List.replicate n (0 : UInt8)).toArray⟩) := ⟨_, by show (List.replicate n (0 : UInt8)).toArray.size = n; simp, rfl⟩
    obtain ⟨ra, hra, RA⟩ : ∃ z : ByteArray, z.size = 64 ∧ Hid (z = ⟨(List.replicate 64 (54 : UInt8)).toArray⟩) := ⟨_, rfl, rfl⟩
    obtain ⟨rb, hrb, RB⟩ : ∃ z : ByteArray, z.size = 64 ∧ Hid (z = ⟨(List.replicate 64 (92 : UInt8)).toArray⟩) := ⟨_, rfl, rfl⟩
    rw [← ZR.out] at hR0 hp1 hp2
    rw [← RA.out] at hR1 hp1
    rw [← RB.out] at hR2 hp2
    have s0 : ¬ (9223372036854775807 < k.size + zr.size) := by omega
    have hf : (k ++ zr).size = 64 := by rw [ByteArray.size_append]; omega
    have hX1 := exclusiveOr_any (k ++ zr) ra (by omega) (by omega)
    have hX2 := exclusiveOr_any (k ++ zr) rb (by omega) (by omega)
    rw [hp1] at hX1
    rw [hp2] at hX2
    obtain ⟨pa, PA⟩ : ∃ p, Hid (p = padP key 54) := ⟨_, rfl⟩
    obtain ⟨pb, PB⟩ : ∃ p, Hid (p = padP key 92) := ⟨_, rfl⟩
    rw [← PA.out] at hX1 ⊢
    rw [← PB.out] at hX2 ⊢
    have R0 : Hid (∀ X, Calls Tryd.prog 44 #[.string ⟨#[0]⟩, .int .i64 n] X fun e Y => e = .returned (.string zr) ∧ Below X.heap.size X Y) := hR0
    have R1 : Hid (∀ X, Calls Tryd.prog 44 #[.string ⟨#[54]⟩, .int .i64 64] X fun e Y => e = .returned (.string ra) ∧ Below X.heap.size X Y) := hR1
    have R2 : Hid (∀ X, Calls Tryd.prog 44 #[.string ⟨#[92]⟩, .int .i64 64] X fun e Y => e = .returned (.string rb) ∧ Below X.heap.size X Y) := hR2
    have X1 := Lib.hid hX1
    have X2 := Lib.hid hX2
    clear hR0 hR1 hR2 hX1 hX2 hp1 hp2 hkey hra hrb hf hn2
    go_enter Tryd.func31, Tryd.ntmps31
    go_wp2_with fail
    refine (H1.out _ HK.out).mono ?_
    rintro e w1 ⟨rfl, hb1⟩
    have V1 := Lib.hid (V0.out.next hb1)
    have B1 := Lib.hid (B0.out.trans (hb1.mono B0.out.size))
    clear hb1 V0 B0 H1 HK
    go_wp2_with fail
    refine (R0.out _).mono ?_
    rintro e w2 ⟨rfl, hb2⟩
    have V2 := Lib.hid (V1.out.next hb2)
    have B2 := Lib.hid (B1.out.trans (hb2.mono B1.out.size))
    clear hb2 V1 B1
    go_wp2_with fail
    refine (R1.out _).mono ?_
    rintro e w3 ⟨rfl, hb3⟩
    have V3 := Lib.hid (V2.out.next hb3)
    have B3 := Lib.hid (B2.out.trans (hb3.mono B2.out.size))
    clear hb3 V2 B2
    go_wp2_with fail
    refine (X1.out _).mono ?_
    rintro e w4 ⟨rfl, hb4⟩
    have V4 := Lib.hid (V3.out.next hb4)
    have B4 := Lib.hid (B3.out.trans (hb4.mono B3.out.size))
    clear hb4 V3 B3
    go_wp2_with fail
    refine (R2.out _).mono ?_
    rintro e w5 ⟨rfl, hb5⟩
    have V5 := Lib.hid (V4.out.next hb5)
    have B5 := Lib.hid (B4.out.trans (hb5.mono B4.out.size))
    clear hb5 V4 B4
    go_wp2_with fail
    refine (X2.out _).mono ?_
    rintro e w6 ⟨rfl, hb6⟩
    have V6 := Lib.hid (V5.out.next hb6)
    have B6 := Lib.hid (B5.out.trans (hb6.mono B5.out.size))
    have c0 := V6.out.c0
    have c1 := V6.out.c1
    have f0 := V6.out.free 0
    have f1 := V6.out.free 1
    have V7 := Lib.hid (V6.out.set2 (.string pa) (.string pb))
    clear hb6 V5 B5
    go_wp2_with fail
    have d0 := V7.out.c0
    have d1 := V7.out.c1
    refine bodyPost_ret (v := .agg #[.string pa, .string pb]) (by simp [results, Tryd.results31, go_sem, d0, d1]) rfl ⟨rfl, ?_⟩
    exact B6.out.trans ((Only.set2 w6 w.heap.size (.string pa) (.string pb)).below (Nat.le_refl _) B6.out.size)
  · have hk2 : key = k := by rw [← hkey]; unfold keyP; rw [if_neg (by omega)]
    subst hk2
    have V1 := V0
    have B1 := B0
    clear hK V0 B0
    obtain ⟨n, hn, hn2⟩ : ∃ n : Nat, 64 - (key.size : Int) = (n : Int) ∧ n = 64 - key.size := ⟨64 - key.size, by omega, rfl⟩
    have hR0 := repeat_any 0 n (by omega)
    have hR1 := repeat_any 54 64 (by omega)
    have hR2 := repeat_any 92 64 (by omega)
    have hp1 := pad_eq key key n 54 hkey hk64 hn2
    have hp2 := pad_eq key key n 92 hkey hk64 hn2
    obtain ⟨zr, hz, ZR⟩ : ∃ z : ByteArray, z.size = n ∧ Hid (z = ⟨(List.replicate n (0 : UInt8)).toArray⟩) := ⟨_, by show (List.replicate n (0 : UInt8)).toArray.size = n; simp, rfl⟩
    obtain ⟨ra, hra, RA⟩ : ∃ z : ByteArray, z.size = 64 ∧ Hid (z = ⟨(List.replicate 64 (54 : UInt8)).toArray⟩) := ⟨_, rfl, rfl⟩
    obtain ⟨rb, hrb, RB⟩ : ∃ z : ByteArray, z.size = 64 ∧ Hid (z = ⟨(List.replicate 64 (92 : UInt8)).toArray⟩) := ⟨_, rfl, rfl⟩
    rw [← ZR.out] at hR0 hp1 hp2
    rw [← RA.out] at hR1 hp1
    rw [← RB.out] at hR2 hp2
    have s0 : ¬ (9223372036854775807 < key.size + zr.size) := by omega
    have hf : (key ++ zr).size = 64 := by rw [ByteArray.size_append]; omega
    have hX1 := exclusiveOr_any (key ++ zr) ra (by omega) (by omega)
    have hX2 := exclusiveOr_any (key ++ zr) rb (by omega) (by omega)
    rw [hp1] at hX1
    rw [hp2] at hX2
    obtain ⟨pa, PA⟩ : ∃ p, Hid (p = padP key 54) := ⟨_, rfl⟩
    obtain ⟨pb, PB⟩ : ∃ p, Hid (p = padP key 92) := ⟨_, rfl⟩
    rw [← PA.out] at hX1 ⊢
    rw [← PB.out] at hX2 ⊢
    have R0 : Hid (∀ X, Calls Tryd.prog 44 #[.string ⟨#[0]⟩, .int .i64 n] X fun e Y => e = .returned (.string zr) ∧ Below X.heap.size X Y) := hR0
    have R1 : Hid (∀ X, Calls Tryd.prog 44 #[.string ⟨#[54]⟩, .int .i64 64] X fun e Y => e = .returned (.string ra) ∧ Below X.heap.size X Y) := hR1
    have R2 : Hid (∀ X, Calls Tryd.prog 44 #[.string ⟨#[92]⟩, .int .i64 64] X fun e Y => e = .returned (.string rb) ∧ Below X.heap.size X Y) := hR2
    have X1 := Lib.hid hX1
    have X2 := Lib.hid hX2
    clear hR0 hR1 hR2 hX1 hX2 hp1 hp2 hkey hra hrb hf hn2
    go_enter Tryd.func31, Tryd.ntmps31
    go_wp2_with fail
    refine (R0.out _).mono ?_
    rintro e w2 ⟨rfl, hb2⟩
    have V2 := Lib.hid (V1.out.next hb2)
    have B2 := Lib.hid (B1.out.trans (hb2.mono B1.out.size))
    clear hb2 V1 B1
    go_wp2_with fail
    refine (R1.out _).mono ?_
    rintro e w3 ⟨rfl, hb3⟩
    have V3 := Lib.hid (V2.out.next hb3)
    have B3 := Lib.hid (B2.out.trans (hb3.mono B2.out.size))
    clear hb3 V2 B2
    go_wp2_with fail
    refine (X1.out _).mono ?_
    rintro e w4 ⟨rfl, hb4⟩
    have V4 := Lib.hid (V3.out.next hb4)
    have B4 := Lib.hid (B3.out.trans (hb4.mono B3.out.size))
    clear hb4 V3 B3
    go_wp2_with fail
    refine (R2.out _).mono ?_
    rintro e w5 ⟨rfl, hb5⟩
    have V5 := Lib.hid (V4.out.next hb5)
    have B5 := Lib.hid (B4.out.trans (hb5.mono B4.out.size))
    clear hb5 V4 B4
    go_wp2_with fail
    refine (X2.out _).mono ?_
    rintro e w6 ⟨rfl, hb6⟩
    have V6 := Lib.hid (V5.out.next hb6)
    have B6 := Lib.hid (B5.out.trans (hb6.mono B5.out.size))
    have c0 := V6.out.c0
    have c1 := V6.out.c1
    have f0 := V6.out.free 0
    have f1 := V6.out.free 1
    have V7 := Lib.hid (V6.out.set2 (.string pa) (.string pb))
    clear hb6 V5 B5
    go_wp2_with fail
    have d0 := V7.out.c0
    have d1 := V7.out.c1
    refine bodyPost_ret (v := .agg #[.string pa, .string pb]) (by simp [results, Tryd.results31, go_sem, d0, d1]) rfl ⟨rfl, ?_⟩
    exact B6.out.trans ((Only.set2 w6 w.heap.size (.string pa) (.string pb)).below (Nat.le_refl _) B6.out.size)

theorem readyKey_any (key : ByteArray) (hk : key.size ≤ 400000000) (w : World) (hK : LaidK w) :
    Calls Tryd.prog 31 #[.string key] w fun e w' => e = .returned (.agg #[.string (padP key 54), .string (padP key 92)]) ∧ Below w.heap.size w w' := readyKeyK_any key (keyP key) rfl (keyP_size key) hk w hK

end Go.Proofs.YtogmmilfdolpnakDoor
