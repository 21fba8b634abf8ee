/-
  The program's exclusive or of two texts.
  The program's key made ready.
  The program's sums under a key.
  The program's expansions.
-/
import Derived.Test.YtkjjdoadjhjmbaeGreatDoorRows
import Derived.Test.YtkjjdoadjhjmbaeGreatDoorJ33
import Derived.Test.YtkjjdoadjhjmbaeGreatDoorJ03
import Derived.Test.YtkjjdoadjhjmbaeGreatDoorJ02
import Derived.Lib.ConvBytes
import Derived.Deep.RegionHeld3
import Derived.BigQuiet
import Derived.Deep.QuietTactic
import Derived.Deep.LoopGhost
import Derived.Deep.DeepCutAuto
import Derived.Test.YtkjjdoadjhjmbaeGreatDoorJ21
import Derived.Test.YtkjjdoadjhjmbaeGreatDoorJ14
import Derived.Lib.Repeat
namespace Go.Proofs.YtkjjdoadjhjmbaeGreatDoor
open Go.RowKit

set_option maxRecDepth 100000 in
set_option maxHeartbeats 1600000 in
theorem exclusiveOr_any (t y : ByteArray) (hz : t.size ≤ 1000000000) (hy : t.size ≤ y.size) (w : World) :
    Calls Tryz.prog 91 #[.string t, .string y] w fun e w' => e = .returned (.string ⟨(xorUp t.data.toList y.data.toList t.size).toArray⟩) ∧ Below w.heap.size w w' := by
  obtain ⟨cp, w1, hcv, hb1, hr1⟩ := bytes_text w t
  have htl : t.data.toList.length = t.size := by simp
  have HB1 := Lib.hid hb1
  have HR1 := Lib.hid hr1
  clear hb1 hr1
  go_enter Tryz.func91, Tryz.ntmps91
  go_wp2_with fail
  clear hcv
  go_loopw [11] (fun i wr => ∃ n : Nat, n ≤ t.size ∧ i = .int .i64 (n : Int) ∧ RowB w.heap.size (xorUp t.data.toList y.data.toList n) wr ∧ Below w.heap.size w wr) (fun i _ => t.size - (intOf i).toNat)
  case atStart =>
    exact ⟨0, by omega, rfl, HR1.out, HB1.out⟩
  case round =>
    obtain ⟨n, hn, rfl, hrow, hnx⟩ := hrel
    have HN := Lib.hid hnx
    have hl := xorUp_length t.data.toList y.data.toList n (by omega)
    by_cases hlt : (n : Int) < (t.size : Int)
    · have c0 := hrow.cell n (by omega)
      have f0 := hrow.free n (by omega)
      rw [xorUp_at _ _ n] at c0
      obtain ⟨a, AA⟩ : ∃ b : UInt8, Hid (b = t.data.toList.getD n 0) := ⟨_, rfl⟩
      obtain ⟨b, BB⟩ : ∃ b : UInt8, Hid (b = y.data.toList.getD n 0) := ⟨_, rfl⟩
      rw [← AA.out] at c0
      have hyn : (n : Int) < (y.size : Int) := by omega
      have hnz : (n : Int) < 1000000000 := by omega
      have hb : (y[n]'(by omega)) = b := by rw [BB.out]; exact text_byte y n (by omega)
      obtain ⟨x, hx, X⟩ : ∃ x : Nat, bits .xor .u8 (a.toNat : Int) (b.toNat : Int) = (x : Int) ∧ Hid (x = (a ^^^ b).toNat) := ⟨_, xor_bytes a b, rfl⟩
      have HR : Hid (RowB w.heap.size (xorUp t.data.toList y.data.toList (n + 1)) (wr.setCell ⟨w.heap.size, n, none⟩ (.int .u8 (x : Int)))) := by
        rw [X.out, ← xorUp_set _ _ n (by omega), ← AA.out, ← BB.out]
        exact hrow.set n (by omega) (a ^^^ b)
      clear hrow hnx
      go_wp2_with fail
      go_region
      all_goals
        go_wp2_with fail
        go_roundw
        case rel => exact ⟨n + 1, by omega, by go_num, HR.out.drew, (HN.out.setCell (p := ⟨w.heap.size, n, none⟩) (Nat.le_refl _) _).drew⟩
        case measure => simp [intOf]; omega
    · have hnt : n = t.size := by omega
      subst hnt
      have hrd := hrow.back t.size cp (by omega)
      clear hrow hnx
      go_wp2_with fail
      go_ret
      exact ⟨rfl, HN.out⟩

end Go.Proofs.YtkjjdoadjhjmbaeGreatDoor
namespace Go.Proofs.YtkjjdoadjhjmbaeGreatDoor
open Go.RowKit

theorem implDigP_any (s : ByteArray) (hs : s.size ≤ 500000000) (w : World) (hK : LaidK w) :
    Calls Tryz.prog 89 #[.string s] w fun e w' => e = .returned (.string (digP s)) ∧ Below w.heap.size w w' := implDigestOf_any s hs w hK
/-- One byte many times. -/
theorem repeat_any (b : UInt8) (n : Nat) (hn : n ≤ 1000) (w : World) :
    Calls Tryz.prog 90 #[.string ⟨#[b]⟩, .int .i64 (n : Nat)] w fun e w' => e = .returned (.string ⟨(List.replicate n b).toArray⟩) ∧ Below w.heap.size w w' := by
  have h := Tryz.strings_Repeat ⟨#[b]⟩ n w (by omega) (by show 1 * n ≤ _; omega)
  have e0 : Lib.repeatL [b] n = List.replicate n b := by
    have := Lib.repeatL_replicate b 1 n
    rw [Nat.mul_one] at this
    exact this
  rw [e0] at h
  exact h
theorem pad_eq (key k : ByteArray) (n : Nat) (x : UInt8) (hkey : keyP key = k) (hk : k.size ≤ 64) (hn : n = 64 - k.size) :
    (⟨(xorUp (k ++ (⟨(List.replicate n (0 : UInt8)).toArray⟩ : ByteArray)).data.toList (⟨(List.replicate 64 x).toArray⟩ : ByteArray).data.toList (k ++ (⟨(List.replicate n (0 : UInt8)).toArray⟩ : ByteArray)).size).toArray⟩ : ByteArray) = padP key x := by
  have hl : k.data.toList.length = k.size := by simp
  have e1 : (k ++ (⟨(List.replicate n (0 : UInt8)).toArray⟩ : ByteArray)).data.toList = k.data.toList ++ List.replicate (64 - k.data.toList.length) 0 := by
    rw [hl, ← hn]
    simp
  have e2 : (k ++ (⟨(List.replicate n (0 : UInt8)).toArray⟩ : ByteArray)).size = 64 := by
    rw [ByteArray.size_append]
    have : (⟨(List.replicate n (0 : UInt8)).toArray⟩ : ByteArray).size = n := by show (List.replicate n (0 : UInt8)).toArray.size = n; simp
    omega
  rw [e1, e2]
  show (⟨(xorUp _ (List.replicate 64 x) 64).toArray⟩ : ByteArray) = _
  rw [xorUp_pad _ _ (by omega)]
  unfold padP
  rw [hkey]

set_option maxRecDepth 100000 in
set_option maxHeartbeats 1600000 in
theorem readyKeyK_any (key k : ByteArray) (hkey : keyP key = k) (hk64 : k.size ≤ 64) (hk : key.size ≤ 400000000) (w : World) (hK : LaidK w) :
    Calls Tryz.prog 61 #[.string key] w fun e w' => e = .returned (.agg #[.string (padP key 54), .string (padP key 92)]) ∧ Below w.heap.size w w' := by
  have V0 := Lib.hid (VarP.new w 98 (.string ⟨#[]⟩) (.string ⟨#[]⟩))
  have B0 := Lib.hid ((Below.refl w.heap.size w).alloc (Nat.le_refl _) (.cells #[.string ⟨#[]⟩, .string ⟨#[]⟩] 98))
  by_cases hlong : 64 < (key.size : Int)
  · have hk2 : digP key = k := by rw [← hkey]; unfold keyP; rw [if_pos (by omega)]
    have h1 := fun X hX => implDigP_any key (by omega) X hX
    rw [hk2] at h1
    have H1 := Lib.hid h1
    have HK := Lib.hid (hK.stays B0.out (Nat.le_refl _))
    clear hk2 h1 hK
    obtain ⟨n, hn, hn2⟩ : ∃ n : Nat, 64 - (k.size : Int) = (n : Int) ∧ n = 64 - k.size := ⟨64 - k.size, by omega, rfl⟩
    have hR0 := repeat_any 0 n (by omega)
    have hR1 := repeat_any 54 64 (by omega)
    have hR2 := repeat_any 92 64 (by omega)
    have hp1 := pad_eq key k n 54 hkey hk64 hn2
    have hp2 := pad_eq key k n 92 hkey hk64 hn2
    obtain ⟨zr, hz, ZR⟩ : ∃ z : ByteArray, z.size = n ∧ Hid (z = ⟨(List.replicate n (0 : UInt8)).toArray⟩) := ⟨_, by show (List.replicate n (0 : UInt8)).toArray.size = n; simp, rfl⟩
    obtain ⟨ra, hra, RA⟩ : ∃ z : ByteArray, z.size = 64 ∧ Hid (z = ⟨(List.replicate 64 (54 : UInt8)).toArray⟩) := ⟨_, rfl, rfl⟩
    obtain ⟨rb, hrb, RB⟩ : ∃ z : ByteArray, z.size = 64 ∧ Hid (z = ⟨(List.replicate 64 (92 : UInt8)).toArray⟩) := ⟨_, rfl, rfl⟩
    rw [← ZR.out] at hR0 hp1 hp2
    rw [← RA.out] at hR1 hp1
    rw [← RB.out] at hR2 hp2
    have s0 : ¬ (9223372036854775807 < k.size + zr.size) := by omega
    have hf : (k ++ zr).size = 64 := by rw [ByteArray.size_append]; omega
    have hX1 := exclusiveOr_any (k ++ zr) ra (by omega) (by omega)
    have hX2 := exclusiveOr_any (k ++ zr) rb (by omega) (by omega)
    rw [hp1] at hX1
    rw [hp2] at hX2
    obtain ⟨pa, PA⟩ : ∃ p, Hid (p = padP key 54) := ⟨_, rfl⟩
    obtain ⟨pb, PB⟩ : ∃ p, Hid (p = padP key 92) := ⟨_, rfl⟩
    rw [← PA.out] at hX1 ⊢
    rw [← PB.out] at hX2 ⊢
    have R0 : Hid (∀ X, Calls Tryz.prog 90 #[.string ⟨#[0]⟩, .int .i64 n] X fun e Y => e = .returned (.string zr) ∧ Below X.heap.size X Y) := hR0
    have R1 : Hid (∀ X, Calls Tryz.prog 90 #[.string ⟨#[54]⟩, .int .i64 64] X fun e Y => e = .returned (.string ra) ∧ Below X.heap.size X Y) := hR1
    have R2 : Hid (∀ X, Calls Tryz.prog 90 #[.string ⟨#[92]⟩, .int .i64 64] X fun e Y => e = .returned (.string rb) ∧ Below X.heap.size X Y) := hR2
    have X1 := Lib.hid hX1
    have X2 := Lib.hid hX2
    clear hR0 hR1 hR2 hX1 hX2 hp1 hp2 hkey hra hrb hf hn2
    go_enter Tryz.func61, Tryz.ntmps61
    go_wp2_with fail
    refine (H1.out _ HK.out).mono ?_
    rintro e w1 ⟨rfl, hb1⟩
    have V1 := Lib.hid (V0.out.next hb1)
    have B1 := Lib.hid (B0.out.trans (hb1.mono B0.out.size))
    clear hb1 V0 B0 H1 HK
    go_wp2_with fail
    refine (R0.out _).mono ?_
    rintro e w2 ⟨rfl, hb2⟩
    have V2 := Lib.hid (V1.out.next hb2)
    have B2 := Lib.hid (B1.out.trans (hb2.mono B1.out.size))
    clear hb2 V1 B1
    go_wp2_with fail
    refine (R1.out _).mono ?_
    rintro e w3 ⟨rfl, hb3⟩
    have V3 := Lib.hid (V2.out.next hb3)
    have B3 := Lib.hid (B2.out.trans (hb3.mono B2.out.size))
    clear hb3 V2 B2
    go_wp2_with fail
    refine (X1.out _).mono ?_
    rintro e w4 ⟨rfl, hb4⟩
    have V4 := Lib.hid (V3.out.next hb4)
    have B4 := Lib.hid (B3.out.trans (hb4.mono B3.out.size))
    clear hb4 V3 B3
    go_wp2_with fail
    refine (R2.out _).mono ?_
    rintro e w5 ⟨rfl, hb5⟩
    have V5 := Lib.hid (V4.out.next hb5)
    have B5 := Lib.hid (B4.out.trans (hb5.mono B4.out.size))
    clear hb5 V4 B4
    go_wp2_with fail
    refine (X2.out _).mono ?_
    rintro e w6 ⟨rfl, hb6⟩
    have V6 := Lib.hid (V5.out.next hb6)
    have B6 := Lib.hid (B5.out.trans (hb6.mono B5.out.size))
    have c0 := V6.out.c0
    have c1 := V6.out.c1
    have f0 := V6.out.free 0
    have f1 := V6.out.free 1
    have V7 := Lib.hid (V6.out.set2 (.string pa) (.string pb))
    clear hb6 V5 B5
    go_wp2_with fail
    have d0 := V7.out.c0
    have d1 := V7.out.c1
    refine bodyPost_ret (v := .agg #[.string pa, .string pb]) (by simp [results, Tryz.results61, go_sem, d0, d1]) rfl ⟨rfl, ?_⟩
    exact B6.out.trans ((Only.set2 w6 w.heap.size (.string pa) (.string pb)).below (Nat.le_refl _) B6.out.size)
  · have hk2 : key = k := by rw [← hkey]; unfold keyP; rw [if_neg (by omega)]
    subst hk2
    have V1 := V0
    have B1 := B0
    clear hK V0 B0
    obtain ⟨n, hn, hn2⟩ : ∃ n : Nat, 64 - (key.size : Int) = (n : Int) ∧ n = 64 - key.size := ⟨64 - key.size, by omega, rfl⟩
    have hR0 := repeat_any 0 n (by omega)
    have hR1 := repeat_any 54 64 (by omega)
    have hR2 := repeat_any 92 64 (by omega)
    have hp1 := pad_eq key key n 54 hkey hk64 hn2
    have hp2 := pad_eq key key n 92 hkey hk64 hn2
    obtain ⟨zr, hz, ZR⟩ : ∃ z : ByteArray, z.size = n ∧ Hid (z = ⟨(List.replicate n (0 : UInt8)).toArray⟩) := ⟨_, by show (List.replicate n (0 : UInt8)).toArray.size = n; simp, rfl⟩
    obtain ⟨ra, hra, RA⟩ : ∃ z : ByteArray, z.size = 64 ∧ Hid (z = ⟨(List.replicate 64 (54 : UInt8)).toArray⟩) := ⟨_, rfl, rfl⟩
    obtain ⟨rb, hrb, RB⟩ : ∃ z : ByteArray, z.size = 64 ∧ Hid (z = ⟨(List.replicate 64 (92 : UInt8)).toArray⟩) := ⟨_, rfl, rfl⟩
    rw [← ZR.out] at hR0 hp1 hp2
    rw [← RA.out] at hR1 hp1
    rw [← RB.out] at hR2 hp2
    have s0 : ¬ (9223372036854775807 < key.size + zr.size) := by omega
    have hf : (key ++ zr).size = 64 := by rw [ByteArray.size_append]; omega
    have hX1 := exclusiveOr_any (key ++ zr) ra (by omega) (by omega)
    have hX2 := exclusiveOr_any (key ++ zr) rb (by omega) (by omega)
    rw [hp1] at hX1
    rw [hp2] at hX2
    obtain ⟨pa, PA⟩ : ∃ p, Hid (p = padP key 54) := ⟨_, rfl⟩
    obtain ⟨pb, PB⟩ : ∃ p, Hid (p = padP key 92) := ⟨_, rfl⟩
    rw [← PA.out] at hX1 ⊢
    rw [← PB.out] at hX2 ⊢
    have R0 : Hid (∀ X, Calls Tryz.prog 90 #[.string ⟨#[0]⟩, .int .i64 n] X fun e Y => e = .returned (.string zr) ∧ Below X.heap.size X Y) := hR0
    have R1 : Hid (∀ X, Calls Tryz.prog 90 #[.string ⟨#[54]⟩, .int .i64 64] X fun e Y => e = .returned (.string ra) ∧ Below X.heap.size X Y) := hR1
    have R2 : Hid (∀ X, Calls Tryz.prog 90 #[.string ⟨#[92]⟩, .int .i64 64] X fun e Y => e = .returned (.string rb) ∧ Below X.heap.size X Y) := hR2
    have X1 := Lib.hid hX1
    have X2 := Lib.hid hX2
    clear hR0 hR1 hR2 hX1 hX2 hp1 hp2 hkey hra hrb hf hn2
    go_enter Tryz.func61, Tryz.ntmps61
    go_wp2_with fail
    refine (R0.out _).mono ?_
    rintro e w2 ⟨rfl, hb2⟩
    have V2 := Lib.hid (V1.out.next hb2)
    have B2 := Lib.hid (B1.out.trans (hb2.mono B1.out.size))
    clear hb2 V1 B1
    go_wp2_with fail
    refine (R1.out _).mono ?_
    rintro e w3 ⟨rfl, hb3⟩
    have V3 := Lib.hid (V2.out.next hb3)
    have B3 := Lib.hid (B2.out.trans (hb3.mono B2.out.size))
    clear hb3 V2 B2
    go_wp2_with fail
    refine (X1.out _).mono ?_
    rintro e w4 ⟨rfl, hb4⟩
    have V4 := Lib.hid (V3.out.next hb4)
    have B4 := Lib.hid (B3.out.trans (hb4.mono B3.out.size))
    clear hb4 V3 B3
    go_wp2_with fail
    refine (R2.out _).mono ?_
    rintro e w5 ⟨rfl, hb5⟩
    have V5 := Lib.hid (V4.out.next hb5)
    have B5 := Lib.hid (B4.out.trans (hb5.mono B4.out.size))
    clear hb5 V4 B4
    go_wp2_with fail
    refine (X2.out _).mono ?_
    rintro e w6 ⟨rfl, hb6⟩
    have V6 := Lib.hid (V5.out.next hb6)
    have B6 := Lib.hid (B5.out.trans (hb6.mono B5.out.size))
    have c0 := V6.out.c0
    have c1 := V6.out.c1
    have f0 := V6.out.free 0
    have f1 := V6.out.free 1
    have V7 := Lib.hid (V6.out.set2 (.string pa) (.string pb))
    clear hb6 V5 B5
    go_wp2_with fail
    have d0 := V7.out.c0
    have d1 := V7.out.c1
    refine bodyPost_ret (v := .agg #[.string pa, .string pb]) (by simp [results, Tryz.results61, go_sem, d0, d1]) rfl ⟨rfl, ?_⟩
    exact B6.out.trans ((Only.set2 w6 w.heap.size (.string pa) (.string pb)).below (Nat.le_refl _) B6.out.size)

theorem readyKey_any (key : ByteArray) (hk : key.size ≤ 400000000) (w : World) (hK : LaidK w) :
    Calls Tryz.prog 61 #[.string key] w fun e w' => e = .returned (.agg #[.string (padP key 54), .string (padP key 92)]) ∧ Below w.heap.size w w' := readyKeyK_any key (keyP key) rfl (keyP_size key) hk w hK

end Go.Proofs.YtkjjdoadjhjmbaeGreatDoor
namespace Go.Proofs.YtkjjdoadjhjmbaeGreatDoor
open Go.RowKit

set_option maxRecDepth 100000 in
set_option maxHeartbeats 1600000 in
theorem sumOf_any (inner outer : ByteArray) (z1 : inner.size ≤ 1000) (z2 : outer.size ≤ 1000) (g m : Nat) (xs : List ByteArray) (hm : xs.length = m) (hm2 : m ≤ 1000) (t : ByteArray) (ht : (⟨(Lib.join (xs.map (·.data.toList)) []).toArray⟩ : ByteArray) = t) (hts : t.size ≤ 400000000)
    (w : World) (hK : LaidK w) (hc : ∀ (j : Nat) x, xs[j]? = some x → w.cell? ⟨g, 0 + j, none⟩ = some (.string x)) (hg : g < w.heap.size) :
    Calls Tryz.prog 63 #[.agg #[.string inner, .string outer], .slice (some ⟨g, 0, none⟩) m m] w fun e w' => e = .returned (.string (digP (outer ++ digP (inner ++ t)))) ∧ Below w.heap.size w w' := by
  have P0 := Lib.hid (PV.new w 98 (.string inner) (.string outer))
  have K1 : Hid (∀ X, (X.cell? ⟨w.heap.size, 0, none⟩ = some (.string inner) ∧ X.cell? ⟨w.heap.size, 1, none⟩ = some (.string outer) ∧ PV w 98 (.string inner) (.string outer) X) → Calls Tryz.prog 92 #[.slice (some ⟨g, 0, none⟩) m m, .string ⟨#[]⟩] X fun e Y => e = .returned (.string t) ∧ (Y.cell? ⟨w.heap.size, 0, none⟩ = some (.string inner) ∧ Y.cell? ⟨w.heap.size, 1, none⟩ = some (.string outer) ∧ PV w 98 (.string inner) (.string outer) Y)) := fun X hX => by
    have hlen : (Lib.join (xs.map (·.data.toList)) (⟨#[]⟩ : ByteArray).data.toList).length ≤ 140737488355328 := by
      have h := congrArg ByteArray.size ht
      have h2 : (⟨(Lib.join (xs.map (·.data.toList)) []).toArray⟩ : ByteArray).size = (Lib.join (xs.map (·.data.toList)) []).length := by show (Lib.join (xs.map (·.data.toList)) []).toArray.size = _; simp
      show (Lib.join (xs.map (·.data.toList)) []).length ≤ _
      omega
    have h := Tryz.strings_Join g 0 m xs ⟨#[]⟩ X (fun j x hj => by rw [hX.2.2.below.cell (p := ⟨g, 0 + j, none⟩) hg]; exact hc j x hj) (Nat.lt_of_lt_of_le hg hX.2.2.below.size) (by omega) (by omega) hlen
    rw [hm] at h
    have ht2 : (⟨(Lib.join (xs.map (·.data.toList)) (⟨#[]⟩ : ByteArray).data.toList).toArray⟩ : ByteArray) = t := ht
    rw [ht2] at h
    refine h.mono ?_
    rintro e Y ⟨rfl, hb⟩
    exact ⟨rfl, (hX.2.2.next hb).two⟩
  have q1 : (inner ++ t).size ≤ 500000000 := by rw [ByteArray.size_append]; omega
  have q2 : (outer ++ digP (inner ++ t)).size ≤ 500000000 := by rw [ByteArray.size_append, digP_size]; omega
  have m1 : ∀ X, (Op.stringOp .add inner t).run Tryz.prog X = .ok (.string (inner ++ t)) X := fun X => run_string_add_sum X inner t (by omega)
  have m2 : ∀ X, (Op.stringOp .add outer (digP (inner ++ t))).run Tryz.prog X = .ok (.string (outer ++ digP (inner ++ t))) X := fun X => run_string_add_sum X outer (digP (inner ++ t)) (by rw [digP_size]; omega)
  have k2 := fun X hX => implDigP_any (inner ++ t) q1 X hX
  have k3 := fun X hX => implDigP_any (outer ++ digP (inner ++ t)) q2 X hX
  obtain ⟨i1, I1⟩ : ∃ i, Hid (i = inner ++ t) := ⟨_, rfl⟩
  rw [← I1.out] at m1 m2 k2 k3 ⊢
  obtain ⟨d1, D1⟩ : ∃ i, Hid (i = digP i1) := ⟨_, rfl⟩
  rw [← D1.out] at m2 k2 k3 ⊢
  obtain ⟨i2, I2⟩ : ∃ i, Hid (i = outer ++ d1) := ⟨_, rfl⟩
  rw [← I2.out] at m2 k3 ⊢
  obtain ⟨d2, D2⟩ : ∃ i, Hid (i = digP i2) := ⟨_, rfl⟩
  rw [← D2.out] at k3 ⊢
  have K2 : Hid (∀ X, (X.cell? ⟨w.heap.size, 0, none⟩ = some (.string inner) ∧ X.cell? ⟨w.heap.size, 1, none⟩ = some (.string outer) ∧ PV w 98 (.string inner) (.string outer) X) → Calls Tryz.prog 89 #[.string i1] X fun e Y => e = .returned (.string d1) ∧ (Y.cell? ⟨w.heap.size, 0, none⟩ = some (.string inner) ∧ Y.cell? ⟨w.heap.size, 1, none⟩ = some (.string outer) ∧ PV w 98 (.string inner) (.string outer) Y)) := fun X hX => by
    refine (k2 X (hK.stays hX.2.2.below (Nat.le_refl _))).mono ?_
    rintro e Y ⟨rfl, hb⟩
    exact ⟨rfl, (hX.2.2.next hb).two⟩
  have K3 : Hid (∀ X, (X.cell? ⟨w.heap.size, 0, none⟩ = some (.string inner) ∧ X.cell? ⟨w.heap.size, 1, none⟩ = some (.string outer) ∧ PV w 98 (.string inner) (.string outer) X) → Calls Tryz.prog 89 #[.string i2] X fun e Y => e = .returned (.string d2) ∧ (Y.cell? ⟨w.heap.size, 0, none⟩ = some (.string inner) ∧ Y.cell? ⟨w.heap.size, 1, none⟩ = some (.string outer) ∧ PV w 98 (.string inner) (.string outer) Y)) := fun X hX => by
    refine (k3 X (hK.stays hX.2.2.below (Nat.le_refl _))).mono ?_
    rintro e Y ⟨rfl, hb⟩
    exact ⟨rfl, (hX.2.2.next hb).two⟩
  clear k2 k3 q1 q2 hK hc hg ht hm I1 D1 I2 D2 z1 z2 hts hm2
  go_enter Tryz.func63, Tryz.ntmps63
  go_wp2_with fail
  go_region_held3 (fun X => X.cell? ⟨w.heap.size, 0, none⟩ = some (.string inner) ∧ X.cell? ⟨w.heap.size, 1, none⟩ = some (.string outer) ∧ PV w 98 (.string inner) (.string outer) X) (first | (with_reducible assumption) | (with_reducible exact (PV.drew P0.out).two)) (first | (go_at_call 92; refine (K1.out _ (by assumption)).mono ?_; rintro e v1 ⟨rfl, hS⟩) | (go_at_call_of 89 (Value.string i1); refine (K2.out _ (by assumption)).mono ?_; rintro e v1 ⟨rfl, hS⟩) | (go_at_call_of 89 (Value.string i2); refine (K3.out _ (by assumption)).mono ?_; rintro e v1 ⟨rfl, hS⟩))
  all_goals
    go_wp2_with fail
    go_ret
    exact ⟨rfl, hS.2.2.below⟩

end Go.Proofs.YtkjjdoadjhjmbaeGreatDoor
namespace Go.Proofs.YtkjjdoadjhjmbaeGreatDoor
open Go.RowKit

theorem join3 (a b c : ByteArray) : (⟨(Lib.join ([a, b, c].map (·.data.toList)) []).toArray⟩ : ByteArray) = a ++ b ++ c := by
  apply ByteArray.ext
  apply Array.ext'
  simp [Lib.join, List.intercalate]
theorem count_next (j : Nat) : ((((UInt8.ofNat (j + 1)).toNat : Nat) : Int) + 1) % 256 = (((UInt8.ofNat (j + 1 + 1)).toNat : Nat) : Int) := by
  rw [UInt8.toNat_ofNat', UInt8.toNat_ofNat']
  omega
/-- How many rounds a count leaves. -/
def countLeft (c : Value) : Nat := if intOf c = 0 then 0 else 256 - (intOf c).toNat
theorem countLeft_at (j : Nat) (h : j < 255) : countLeft (.int .u8 (((UInt8.ofNat (j + 1 + 1)).toNat : Nat) : Int)) < countLeft (.int .u8 (((UInt8.ofNat (j + 1)).toNat : Nat) : Int)) := by
  unfold countLeft
  rw [UInt8.toNat_ofNat', UInt8.toNat_ofNat']
  show (if ((((j + 1 + 1) % 2 ^ 8 : Nat) : Int)) = 0 then 0 else 256 - ((((j + 1 + 1) % 2 ^ 8 : Nat) : Int)).toNat) < (if ((((j + 1) % 2 ^ 8 : Nat) : Int)) = 0 then 0 else 256 - ((((j + 1) % 2 ^ 8 : Nat) : Int)).toNat)
  split <;> split <;> omega
theorem front_bytes (l : List UInt8) (n : Nat) : (⟨l.toArray⟩ : ByteArray).extract 0 n = ⟨(l.take n).toArray⟩ := by
  apply ByteArray.ext
  apply Array.ext'
  simp

set_option maxRecDepth 100000 in
set_option maxHeartbeats 1600000 in
theorem implExpand_yes (key info : ByteArray) (n : Nat) (hn : n ≤ 8160) (hk : key.size ≤ 300000000) (hi : info.size ≤ 300000000) (w : World) (hK : LaidK w) :
    Calls Tryz.prog 32 #[.string key, .string info, .int .i64 n] w fun e w' => e = .returned (.tuple #[.string ⟨(expandP key info n).toArray⟩, .bool true]) ∧ Below w.heap.size w w' := by
  have H1 := Lib.hid (readyKey_any key (by omega) w hK)
  have z1 := padP_size key 54
  have z2 := padP_size key 92
  have h2 := sumOf_any (padP key 54) (padP key 92) (by omega) (by omega)
  have hT : ∀ j, Hid (digP (padP key 92 ++ digP (padP key 54 ++ (tUp key info j ++ info ++ (⟨#[UInt8.ofNat (j + 1)]⟩ : ByteArray)))) = tUp key info (j + 1)) := fun j => rfl
  have HK := Lib.hid hK
  obtain ⟨pa, PA⟩ : ∃ p, Hid (p = padP key 54) := ⟨_, rfl⟩
  obtain ⟨pb, PB⟩ : ∃ p, Hid (p = padP key 92) := ⟨_, rfl⟩
  rw [← PA.out] at H1 h2 hT
  rw [← PB.out] at H1 h2 hT
  have H2 := Lib.hid h2
  have HT := Lib.hid hT
  have hn0 : ¬ ((n : Int) < 0) := by omega
  have hn1 : ¬ (8160 < (n : Int)) := by omega
  clear h2 z1 z2 hK hT
  go_enter Tryz.func32, Tryz.ntmps32
  go_wp2_with fail
  refine (H1.out).mono ?_
  rintro e w1 ⟨rfl, hb1⟩
  have HB1 := Lib.hid hb1
  have V2 := Lib.hid ((VarP.new w1 98 (.string pa) (.string pb)).next ((Below.refl _ _).alloc (Nat.le_refl _) (.cells #[.pointer none, .slice none 0 0] 102)))
  have B2 := Lib.hid ((hb1.alloc hb1.size (.cells #[.string pa, .string pb] 98)).alloc (by simp; have := hb1.size; omega) (.cells #[.pointer none, .slice none 0 0] 102))
  have U2 : Hid (Lib.IsBuilderF 102 5 (w1.heap.size + 1) (w1.heap.size + 1) (Lib.byteCells (outUp key info 0)) ((w1.alloc (.cells #[.string pa, .string pb] 98)).alloc (.cells #[.pointer none, .slice none 0 0] 102))) := by
    refine .inl ⟨by omega, .slice none 0 0, ?_, World.ownsRowF_of (World.ownsRow_nil _ _ _ _), by simp [Value.ownBlock]⟩
    have h := heap_alloc_new (w1.alloc (.cells #[.string pa, .string pb] 98)) (.cells #[.pointer none, .slice none 0 0] 102)
    have e : (w1.alloc (.cells #[.string pa, .string pb] 98)).heap.size = w1.heap.size + 1 := by simp
    rw [e] at h
    exact h
  have hs1 := hb1.size
  clear hb1
  go_wp2_with fail
  go_loopw [9, 11] (fun t c wr => ∃ j : Nat, 32 * j < n + 32 ∧ t = .string (tUp key info j) ∧ c = .int .u8 (((UInt8.ofNat (j + 1)).toNat : Nat) : Int) ∧ Lib.IsBuilderF 102 5 (w1.heap.size + 1) (w1.heap.size + 1) (Lib.byteCells (outUp key info j)) wr ∧ VarP w1.heap.size 98 (.string pa) (.string pb) wr ∧ Below w.heap.size w wr ∧ w1.heap.size + 1 < wr.heap.size) (fun _ c _ => countLeft c)
  case atStart =>
    exact ⟨0, by omega, rfl, rfl, U2.out, V2.out, B2.out, by simp⟩
  case round =>
    obtain ⟨j, hj, rfl, rfl, hu, hv, hnx, hsz⟩ := hrel
    have hlen := outUp_length key info j
    have hl2 : (Lib.byteCells (outUp key info j)).length = 32 * j := by rw [Lib.byteCells_length]; exact hlen
    have hL := Tryz.Builder_Len_f (w1.heap.size + 1) (w1.heap.size + 1) _ wr hu
    rw [hl2] at hL
    have HL := Lib.hid hL
    have HU := Lib.hid hu
    have HV := Lib.hid hv
    have HN := Lib.hid hnx
    clear hu hv hnx hL
    by_cases hlt : 32 * j < n
    · have hlt' : ((32 * j : Nat) : Int) < (n : Int) := by omega
      have hj1 : j < 255 := by omega
      obtain ⟨m, M⟩ : ∃ m, Hid (m = 32 * j) := ⟨_, rfl⟩
      rw [← M.out] at HL hlt'
      have c0 := HV.out.c0
      have c1 := HV.out.c1
      have ht := tUp_few key info j
      have hT := HT.out j
      obtain ⟨b, BB⟩ : ∃ b : UInt8, Hid (b = UInt8.ofNat (j + 1)) := ⟨_, rfl⟩
      obtain ⟨tj, TJ⟩ : ∃ b : ByteArray, Hid (b = tUp key info j) := ⟨_, rfl⟩
      rw [← TJ.out] at hT ht
      rw [← BB.out] at hT
      rw [← TJ.out, ← BB.out]
      have hr := run_string_one (P := Tryz.prog) wr 22 9 5 Tryz.underlying22 Tryz.underlying5 Tryz.underlying9 b
      have z1 : (⟨#[b]⟩ : ByteArray).size = 1 := rfl
      have hr' : (convert 22 9 (.slice (some ⟨wr.heap.size, 0, none⟩) 1 1)).run Tryz.prog (wr.alloc (.cells #[.int .u8 (b.toNat : Int)] 5)) = .ok (.string ⟨#[b]⟩) (wr.alloc (.cells #[.int .u8 (b.toNat : Int)] 5)) := hr
      obtain ⟨bt, BT⟩ : ∃ b' : ByteArray, Hid (b' = ⟨#[b]⟩) := ⟨_, rfl⟩
      rw [← BT.out] at hr' hT z1
      have b3 : Below wr.heap.size wr ((wr.alloc (.cells #[.int .u8 (b.toNat : Int)] 5)).alloc (.cells #[.string tj, .string info, .string bt] 9)) := ((Below.refl _ _).alloc (Nat.le_refl _) _).alloc (by simp) _
      have HN3 := Lib.hid (HN.out.trans (b3.mono HN.out.size))
      have HU3 := Lib.hid (builder_next HU.out b3)
      have HV3 := Lib.hid (HV.out.next b3)
      have hS := H2.out (wr.heap.size + 1) 3 [tj, info, bt] rfl (by omega) _ (join3 tj info bt) (by rw [ByteArray.size_append, ByteArray.size_append, z1]; omega) _ (HK.out.stays HN3.out (Nat.le_refl _)) (fun k x hk => by
        have hz : (wr.alloc (.cells #[.int .u8 (b.toNat : Int)] 5)).heap.size = wr.heap.size + 1 := by simp
        rw [← hz]
        match k, hk with
        | 0, hk => simp at hk; subst hk; simp
        | 1, hk => simp at hk; subst hk; simp
        | 2, hk => simp at hk; subst hk; simp) (by simp)
      rw [hT.out] at hS
      have HS := Lib.hid hS
      clear hr b3 hS hT
      go_wp2_with fail
      refine (HL.out).mono ?_
      rintro e w2 ⟨rfl, rfl⟩
      go_wp2_with fail
      refine (HS.out).mono ?_
      rintro e w3 ⟨rfl, hb3⟩
      have HN4 := Lib.hid (HN3.out.trans (hb3.mono HN3.out.size))
      have HV4 := Lib.hid (HV3.out.next hb3)
      have HU4 := Lib.hid (builder_next HU3.out hb3)
      have hsz4 : w1.heap.size + 1 < w3.heap.size := Nat.lt_of_lt_of_le (by simp; omega) hb3.size
      have hts := tUp_size key info j
      obtain ⟨tn, TN⟩ : ∃ b : ByteArray, Hid (b = tUp key info (j + 1)) := ⟨_, rfl⟩
      rw [← TN.out] at hts ⊢
      have H5 := Lib.hid (writeString_any (w1.heap.size + 1) (w1.heap.size + 1) _ tn w3 HU4.out (by rw [hl2]; omega) (by omega))
      clear hb3
      go_wp2_with fail
      refine (H5.out).mono ?_
      rintro e w4 ⟨rfl, hu5, hb5⟩
      have HU5 := Lib.hid hu5
      have HV5 : Hid (VarP w1.heap.size 98 (.string pa) (.string pb) w4) := ⟨by rw [hb5.block w1.heap.size (by omega)]; exact HV4.out.row⟩
      have HN5 := Lib.hid (HN4.out.trans (hb5.mono (by omega)))
      have hsz5 := Nat.lt_of_lt_of_le hsz4 hb5.size
      clear hu5 hb5
      go_wp2_with fail
      go_roundw
      case rel =>
        refine ⟨j + 1, by omega, by rw [TN.out], ?_, ?_, HV5.out, HN5.out, hsz5⟩
        · rw [BB.out]
          exact int_eq (count_next j)
        · have h5 := HU5.out
          rw [TN.out] at h5
          have e5 : Lib.byteCells (outUp key info (j + 1)) = Lib.byteCells (outUp key info j) ++ Lib.strCells (tUp key info (j + 1)) := Lib.byteCells_append _ _
          rw [e5]
          exact .inr h5
      case measure =>
        have h := countLeft_at j hj1
        rw [← count_next j, ← BB.out] at h
        exact h
    · have hjn : j = (n + 31) / 32 := by omega
      have hlt' : ¬ (((32 * j : Nat) : Int) < (n : Int)) := by omega
      have hS := Tryz.Builder_String_any_f (w1.heap.size + 1) (w1.heap.size + 1) _ wr HU.out (by omega)
      have hx := front_bytes (outUp key info j) n
      have hE : (outUp key info j).take n = expandP key info n := by unfold expandP; rw [hjn]
      rw [hE] at hx
      have hz : (⟨(outUp key info j).toArray⟩ : ByteArray).size = 32 * j := by show (outUp key info j).toArray.size = _; rw [List.size_toArray]; exact hlen
      obtain ⟨all, AL⟩ : ∃ b : ByteArray, Hid (b = ⟨(outUp key info j).toArray⟩) := ⟨_, rfl⟩
      rw [← AL.out] at hx hS hz
      have HS := Lib.hid hS
      have hle : (n : Int) ≤ (all.size : Int) := by omega
      obtain ⟨m, M⟩ : ∃ m, Hid (m = 32 * j) := ⟨_, rfl⟩
      rw [← M.out] at HL hlt'
      clear hS hE hjn
      go_wp2_with fail
      refine (HL.out).mono ?_
      rintro e w2 ⟨rfl, rfl⟩
      go_wp2_with fail
      refine (HS.out).mono ?_
      rintro e w3 ⟨rfl, _, hb3⟩
      have HN4 := Lib.hid (HN.out.trans (hb3.mono (by omega)))
      clear hb3
      go_wp2_with fail
      go_ret2
      exact ⟨rfl, HN4.out⟩

set_option maxRecDepth 100000 in
set_option maxHeartbeats 400000 in
theorem implExpand_no (key info : ByteArray) (n : Int) (hn : n < 0 ∨ 8160 < n) (w : World) :
    Calls Tryz.prog 32 #[.string key, .string info, .int .i64 n] w fun e w' => e = .returned (.tuple #[.string ⟨#[]⟩, .bool false]) ∧ Below w.heap.size w w' := by
  by_cases h0 : n < 0
  · go_enter Tryz.func32, Tryz.ntmps32
    go_wp2_with fail
    go_ret2
    exact ⟨rfl, Below.refl _ _⟩
  · have h1 : 8160 < n := by omega
    clear hn
    go_enter Tryz.func32, Tryz.ntmps32
    go_wp2_with fail
    go_ret2
    exact ⟨rfl, Below.refl _ _⟩

end Go.Proofs.YtkjjdoadjhjmbaeGreatDoor
