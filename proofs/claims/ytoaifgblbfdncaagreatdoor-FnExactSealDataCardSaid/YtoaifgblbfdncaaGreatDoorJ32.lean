/-
  The program's key made ready.
  The program's sums under a key.
  The program's expansions.
  The program's VarText: the number's text and true in the range, nothing and false outside of it.
-/
import Derived.Test.YtoaifgblbfdncaaGreatDoorJ31
import Derived.Test.YtoaifgblbfdncaaGreatDoorJ22
import Derived.Lib.Repeat
import Derived.Test.YtoaifgblbfdncaaGreatDoorJ21
namespace Go.Proofs.YtoaifgblbfdncaaGreatDoor
open Go.RowKit

theorem implDigP_any (s : ByteArray) (hs : s.size ≤ 500000000) (w : World) (hK : LaidK w) :
    Calls Tryz.prog 27 #[.string s] w fun e w' => e = .returned (.string (digP s)) ∧ Below w.heap.size w w' := implDigestOf_any s hs w hK
/-- One byte many times. -/
theorem repeat_any (b : UInt8) (n : Nat) (hn : n ≤ 1000) (w : World) :
    Calls Tryz.prog 85 #[.string ⟨#[b]⟩, .int .i64 (n : Nat)] w fun e w' => e = .returned (.string ⟨(List.replicate n b).toArray⟩) ∧ Below w.heap.size w w' := by
  have h := Tryz.strings_Repeat ⟨#[b]⟩ n w (by omega) (by show 1 * n ≤ _; omega)
  have e0 : Lib.repeatL [b] n = List.replicate n b := by
    have := Lib.repeatL_replicate b 1 n
    rw [Nat.mul_one] at this
    exact this
  rw [e0] at h
  exact h
theorem pad_eq (key k : ByteArray) (n : Nat) (x : UInt8) (hkey : keyP key = k) (hk : k.size ≤ 64) (hn : n = 64 - k.size) :
    (⟨(xorUp (k ++ (⟨(List.replicate n (0 : UInt8)).toArray⟩ : ByteArray)).data.toList (⟨(List.replicate 64 x).toArray⟩ : ByteArray).data.toList (k ++ (⟨(List.replicate n (0 : UInt8)).toArray⟩ : ByteArray)).size).toArray⟩ : ByteArray) = padP key x := by
  have hl : k.data.toList.length = k.size := by simp
  have e1 : (k ++ (⟨(List.replicate n (0 : UInt8)).toArray⟩ : ByteArray)).data.toList = k.data.toList ++ List.replicate (64 - k.data.toList.length) 0 := by
    rw [hl, ← hn]
    simp
  have e2 : (k ++ (⟨(List.replicate n (0 : UInt8)).toArray⟩ : ByteArray)).size = 64 := by
    rw [ByteArray.size_append]
    have : (⟨(List.replicate n (0 : UInt8)).toArray⟩ : ByteArray).size = n := by show (List.replicate n (0 : UInt8)).toArray.size = n; simp
    omega
  rw [e1, e2]
  show (⟨(xorUp _ (List.replicate 64 x) 64).toArray⟩ : ByteArray) = _
  rw [xorUp_pad _ _ (by omega)]
  unfold padP
  rw [hkey]

set_option maxRecDepth 100000 in
set_option maxHeartbeats 1600000 in
theorem readyKeyK_any (key k : ByteArray) (hkey : keyP key = k) (hk64 : k.size ≤ 64) (hk : key.size ≤ 400000000) (w : World) (hK : LaidK w) :
    Calls Tryz.prog 120 #[.string key] w fun e w' => e = .returned (.agg #[.string (padP key 54), .string (padP key 92)]) ∧ Below w.heap.size w w' := by
  have V0 := Lib.hid (VarP.new w 154 (.string ⟨#[]⟩) (.string ⟨#[]⟩))
  have B0 := Lib.hid ((Below.refl w.heap.size w).alloc (Nat.le_refl _) (.cells #[.string ⟨#[]⟩, .string ⟨#[]⟩] 154))
  by_cases hlong : 64 < (key.size : Int)
  · have hk2 : digP key = k := by rw [← hkey]; unfold keyP; rw [if_pos (by omega)]
    have h1 := fun X hX => implDigP_any key (by omega) X hX
    rw [hk2] at h1
    have H1 := Lib.hid h1
    have HK := Lib.hid (hK.stays B0.out (Nat.le_refl _))
    clear hk2 h1 hK
    obtain ⟨n, hn, hn2⟩ : ∃ n : Nat, 64 - (k.size : Int) = (n : Int) ∧ n = 64 - k.size := ⟨64 - k.size, by omega, rfl⟩
    have hR0 := repeat_any 0 n (by omega)
    have hR1 := repeat_any 54 64 (by omega)
    have hR2 := repeat_any 92 64 (by omega)
    have hp1 := pad_eq key k n 54 hkey hk64 hn2
    have hp2 := pad_eq key k n 92 hkey hk64 hn2
    obtain ⟨zr, hz, ZR⟩ : ∃ z : ByteArray, z.size = n ∧ Hid (z = ⟨(List.replicate n (0 : UInt8)).toArray⟩) := ⟨_, by show (List.replicate n (0 : UInt8)).toArray.size = n; simp, rfl⟩
    obtain ⟨ra, hra, RA⟩ : ∃ z : ByteArray, z.size = 64 ∧ Hid (z = ⟨(List.replicate 64 (54 : UInt8)).toArray⟩) := ⟨_, rfl, rfl⟩
    obtain ⟨rb, hrb, RB⟩ : ∃ z : ByteArray, z.size = 64 ∧ Hid (z = ⟨(List.replicate 64 (92 : UInt8)).toArray⟩) := ⟨_, rfl, rfl⟩
    rw [← ZR.out] at hR0 hp1 hp2
    rw [← RA.out] at hR1 hp1
    rw [← RB.out] at hR2 hp2
    have s0 : ¬ (9223372036854775807 < k.size + zr.size) := by omega
    have hf : (k ++ zr).size = 64 := by rw [ByteArray.size_append]; omega
    have hX1 := exclusiveOr_any (k ++ zr) ra (by omega) (by omega)
    have hX2 := exclusiveOr_any (k ++ zr) rb (by omega) (by omega)
    rw [hp1] at hX1
    rw [hp2] at hX2
    obtain ⟨pa, PA⟩ : ∃ p, Hid (p = padP key 54) := ⟨_, rfl⟩
    obtain ⟨pb, PB⟩ : ∃ p, Hid (p = padP key 92) := ⟨_, rfl⟩
    rw [← PA.out] at hX1 ⊢
    rw [← PB.out] at hX2 ⊢
    have R0 : Hid (∀ X, Calls Tryz.prog 85 #[.string ⟨#[0]⟩, .int .i64 n] X fun e Y => e = .returned (.string zr) ∧ Below X.heap.size X Y) := hR0
    have R1 : Hid (∀ X, Calls Tryz.prog 85 #[.string ⟨#[54]⟩, .int .i64 64] X fun e Y => e = .returned (.string ra) ∧ Below X.heap.size X Y) := hR1
    have R2 : Hid (∀ X, Calls Tryz.prog 85 #[.string ⟨#[92]⟩, .int .i64 64] X fun e Y => e = .returned (.string rb) ∧ Below X.heap.size X Y) := hR2
    have X1 := Lib.hid hX1
    have X2 := Lib.hid hX2
    clear hR0 hR1 hR2 hX1 hX2 hp1 hp2 hkey hra hrb hf hn2
    go_enter Tryz.func120, Tryz.ntmps120
    go_wp2_with fail
    refine (H1.out _ HK.out).mono ?_
    rintro e w1 ⟨rfl, hb1⟩
    have V1 := Lib.hid (V0.out.next hb1)
    have B1 := Lib.hid (B0.out.trans (hb1.mono B0.out.size))
    clear hb1 V0 B0 H1 HK
    go_wp2_with fail
    refine (R0.out _).mono ?_
    rintro e w2 ⟨rfl, hb2⟩
    have V2 := Lib.hid (V1.out.next hb2)
    have B2 := Lib.hid (B1.out.trans (hb2.mono B1.out.size))
    clear hb2 V1 B1
    go_wp2_with fail
    refine (R1.out _).mono ?_
    rintro e w3 ⟨rfl, hb3⟩
    have V3 := Lib.hid (V2.out.next hb3)
    have B3 := Lib.hid (B2.out.trans (hb3.mono B2.out.size))
    clear hb3 V2 B2
    go_wp2_with fail
    refine (X1.out _).mono ?_
    rintro e w4 ⟨rfl, hb4⟩
    have V4 := Lib.hid (V3.out.next hb4)
    have B4 := Lib.hid (B3.out.trans (hb4.mono B3.out.size))
    clear hb4 V3 B3
    go_wp2_with fail
    refine (R2.out _).mono ?_
    rintro e w5 ⟨rfl, hb5⟩
    have V5 := Lib.hid (V4.out.next hb5)
    have B5 := Lib.hid (B4.out.trans (hb5.mono B4.out.size))
    clear hb5 V4 B4
    go_wp2_with fail
    refine (X2.out _).mono ?_
    rintro e w6 ⟨rfl, hb6⟩
    have V6 := Lib.hid (V5.out.next hb6)
    have B6 := Lib.hid (B5.out.trans (hb6.mono B5.out.size))
    have c0 := V6.out.c0
    have c1 := V6.out.c1
    have f0 := V6.out.free 0
    have f1 := V6.out.free 1
    have V7 := Lib.hid (V6.out.set2 (.string pa) (.string pb))
    clear hb6 V5 B5
    go_wp2_with fail
    have d0 := V7.out.c0
    have d1 := V7.out.c1
    refine bodyPost_ret (v := .agg #[.string pa, .string pb]) (by simp [results, Tryz.results120, go_sem, d0, d1]) rfl ⟨rfl, ?_⟩
    exact B6.out.trans ((Only.set2 w6 w.heap.size (.string pa) (.string pb)).below (Nat.le_refl _) B6.out.size)
  · have hk2 : key = k := by rw [← hkey]; unfold keyP; rw [if_neg (by omega)]
    subst hk2
    have V1 := V0
    have B1 := B0
    clear hK V0 B0
    obtain ⟨n, hn, hn2⟩ : ∃ n : Nat, 64 - (key.size : Int) = (n : Int) ∧ n = 64 - key.size := ⟨64 - key.size, by omega, rfl⟩
    have hR0 := repeat_any 0 n (by omega)
    have hR1 := repeat_any 54 64 (by omega)
    have hR2 := repeat_any 92 64 (by omega)
    have hp1 := pad_eq key key n 54 hkey hk64 hn2
    have hp2 := pad_eq key key n 92 hkey hk64 hn2
    obtain ⟨zr, hz, ZR⟩ : ∃ z : ByteArray, z.size = n ∧ Hid (z = ⟨(List.replicate n (0 : UInt8)).toArray⟩) := ⟨_, by show (List.replicate n (0 : UInt8)).toArray.size = n; simp, rfl⟩
    obtain ⟨ra, hra, RA⟩ : ∃ z : ByteArray, z.size = 64 ∧ Hid (z = ⟨(List.replicate 64 (54 : UInt8)).toArray⟩) := ⟨_, rfl, rfl⟩
    obtain ⟨rb, hrb, RB⟩ : ∃ z : ByteArray, z.size = 64 ∧ Hid (z = ⟨(List.replicate 64 (92 : UInt8)).toArray⟩) := ⟨_, rfl, rfl⟩
    rw [← ZR.out] at hR0 hp1 hp2
    rw [← RA.out] at hR1 hp1
    rw [← RB.out] at hR2 hp2
    have s0 : ¬ (9223372036854775807 < key.size + zr.size) := by omega
    have hf : (key ++ zr).size = 64 := by rw [ByteArray.size_append]; omega
    have hX1 := exclusiveOr_any (key ++ zr) ra (by omega) (by omega)
    have hX2 := exclusiveOr_any (key ++ zr) rb (by omega) (by omega)
    rw [hp1] at hX1
    rw [hp2] at hX2
    obtain ⟨pa, PA⟩ : ∃ p, Hid (p = padP key 54) := ⟨_, rfl⟩
    obtain ⟨pb, PB⟩ : ∃ p, Hid (p = padP key 92) := ⟨_, rfl⟩
    rw [← PA.out] at hX1 ⊢
    rw [← PB.out] at hX2 ⊢
    have R0 : Hid (∀ X, Calls Tryz.prog 85 #[.string ⟨#[0]⟩, .int .i64 n] X fun e Y => e = .returned (.string zr) ∧ Below X.heap.size X Y) := hR0
    have R1 : Hid (∀ X, Calls Tryz.prog 85 #[.string ⟨#[54]⟩, .int .i64 64] X fun e Y => e = .returned (.string ra) ∧ Below X.heap.size X Y) := hR1
    have R2 : Hid (∀ X, Calls Tryz.prog 85 #[.string ⟨#[92]⟩, .int .i64 64] X fun e Y => e = .returned (.string rb) ∧ Below X.heap.size X Y) := hR2
    have X1 := Lib.hid hX1
    have X2 := Lib.hid hX2
    clear hR0 hR1 hR2 hX1 hX2 hp1 hp2 hkey hra hrb hf hn2
    go_enter Tryz.func120, Tryz.ntmps120
    go_wp2_with fail
    refine (R0.out _).mono ?_
    rintro e w2 ⟨rfl, hb2⟩
    have V2 := Lib.hid (V1.out.next hb2)
    have B2 := Lib.hid (B1.out.trans (hb2.mono B1.out.size))
    clear hb2 V1 B1
    go_wp2_with fail
    refine (R1.out _).mono ?_
    rintro e w3 ⟨rfl, hb3⟩
    have V3 := Lib.hid (V2.out.next hb3)
    have B3 := Lib.hid (B2.out.trans (hb3.mono B2.out.size))
    clear hb3 V2 B2
    go_wp2_with fail
    refine (X1.out _).mono ?_
    rintro e w4 ⟨rfl, hb4⟩
    have V4 := Lib.hid (V3.out.next hb4)
    have B4 := Lib.hid (B3.out.trans (hb4.mono B3.out.size))
    clear hb4 V3 B3
    go_wp2_with fail
    refine (R2.out _).mono ?_
    rintro e w5 ⟨rfl, hb5⟩
    have V5 := Lib.hid (V4.out.next hb5)
    have B5 := Lib.hid (B4.out.trans (hb5.mono B4.out.size))
    clear hb5 V4 B4
    go_wp2_with fail
    refine (X2.out _).mono ?_
    rintro e w6 ⟨rfl, hb6⟩
    have V6 := Lib.hid (V5.out.next hb6)
    have B6 := Lib.hid (B5.out.trans (hb6.mono B5.out.size))
    have c0 := V6.out.c0
    have c1 := V6.out.c1
    have f0 := V6.out.free 0
    have f1 := V6.out.free 1
    have V7 := Lib.hid (V6.out.set2 (.string pa) (.string pb))
    clear hb6 V5 B5
    go_wp2_with fail
    have d0 := V7.out.c0
    have d1 := V7.out.c1
    refine bodyPost_ret (v := .agg #[.string pa, .string pb]) (by simp [results, Tryz.results120, go_sem, d0, d1]) rfl ⟨rfl, ?_⟩
    exact B6.out.trans ((Only.set2 w6 w.heap.size (.string pa) (.string pb)).below (Nat.le_refl _) B6.out.size)

theorem readyKey_any (key : ByteArray) (hk : key.size ≤ 400000000) (w : World) (hK : LaidK w) :
    Calls Tryz.prog 120 #[.string key] w fun e w' => e = .returned (.agg #[.string (padP key 54), .string (padP key 92)]) ∧ Below w.heap.size w w' := readyKeyK_any key (keyP key) rfl (keyP_size key) hk w hK

end Go.Proofs.YtoaifgblbfdncaaGreatDoor
namespace Go.Proofs.YtoaifgblbfdncaaGreatDoor
open Go.RowKit

set_option maxRecDepth 100000 in
set_option maxHeartbeats 1600000 in
theorem sumOf_any (inner outer : ByteArray) (z1 : inner.size ≤ 1000) (z2 : outer.size ≤ 1000) (g m : Nat) (xs : List ByteArray) (hm : xs.length = m) (hm2 : m ≤ 1000) (t : ByteArray) (ht : (⟨(Lib.join (xs.map (·.data.toList)) []).toArray⟩ : ByteArray) = t) (hts : t.size ≤ 400000000)
    (w : World) (hK : LaidK w) (hc : ∀ (j : Nat) x, xs[j]? = some x → w.cell? ⟨g, 0 + j, none⟩ = some (.string x)) (hg : g < w.heap.size) :
    Calls Tryz.prog 121 #[.agg #[.string inner, .string outer], .slice (some ⟨g, 0, none⟩) m m] w fun e w' => e = .returned (.string (digP (outer ++ digP (inner ++ t)))) ∧ Below w.heap.size w w' := by
  have P0 := Lib.hid (PV.new w 154 (.string inner) (.string outer))
  have K1 : Hid (∀ X, (X.cell? ⟨w.heap.size, 0, none⟩ = some (.string inner) ∧ X.cell? ⟨w.heap.size, 1, none⟩ = some (.string outer) ∧ PV w 154 (.string inner) (.string outer) X) → Calls Tryz.prog 136 #[.slice (some ⟨g, 0, none⟩) m m, .string ⟨#[]⟩] X fun e Y => e = .returned (.string t) ∧ (Y.cell? ⟨w.heap.size, 0, none⟩ = some (.string inner) ∧ Y.cell? ⟨w.heap.size, 1, none⟩ = some (.string outer) ∧ PV w 154 (.string inner) (.string outer) Y)) := fun X hX => by
    have hlen : (Lib.join (xs.map (·.data.toList)) (⟨#[]⟩ : ByteArray).data.toList).length ≤ 140737488355328 := by
      have h := congrArg ByteArray.size ht
      have h2 : (⟨(Lib.join (xs.map (·.data.toList)) []).toArray⟩ : ByteArray).size = (Lib.join (xs.map (·.data.toList)) []).length := by show (Lib.join (xs.map (·.data.toList)) []).toArray.size = _; simp
      show (Lib.join (xs.map (·.data.toList)) []).length ≤ _
      omega
    have h := Tryz.strings_Join g 0 m xs ⟨#[]⟩ X (fun j x hj => by rw [hX.2.2.below.cell (p := ⟨g, 0 + j, none⟩) hg]; exact hc j x hj) (Nat.lt_of_lt_of_le hg hX.2.2.below.size) (by omega) (by omega) hlen
    rw [hm] at h
    have ht2 : (⟨(Lib.join (xs.map (·.data.toList)) (⟨#[]⟩ : ByteArray).data.toList).toArray⟩ : ByteArray) = t := ht
    rw [ht2] at h
    refine h.mono ?_
    rintro e Y ⟨rfl, hb⟩
    exact ⟨rfl, (hX.2.2.next hb).two⟩
  have q1 : (inner ++ t).size ≤ 500000000 := by rw [ByteArray.size_append]; omega
  have q2 : (outer ++ digP (inner ++ t)).size ≤ 500000000 := by rw [ByteArray.size_append, digP_size]; omega
  have m1 : ∀ X, (Op.stringOp .add inner t).run Tryz.prog X = .ok (.string (inner ++ t)) X := fun X => run_string_add_sum X inner t (by omega)
  have m2 : ∀ X, (Op.stringOp .add outer (digP (inner ++ t))).run Tryz.prog X = .ok (.string (outer ++ digP (inner ++ t))) X := fun X => run_string_add_sum X outer (digP (inner ++ t)) (by rw [digP_size]; omega)
  have k2 := fun X hX => implDigP_any (inner ++ t) q1 X hX
  have k3 := fun X hX => implDigP_any (outer ++ digP (inner ++ t)) q2 X hX
  obtain ⟨i1, I1⟩ : ∃ i, Hid (i = inner ++ t) := ⟨_, rfl⟩
  rw [← I1.out] at m1 m2 k2 k3 ⊢
  obtain ⟨d1, D1⟩ : ∃ i, Hid (i = digP i1) := ⟨_, rfl⟩
  rw [← D1.out] at m2 k2 k3 ⊢
  obtain ⟨i2, I2⟩ : ∃ i, Hid (i = outer ++ d1) := ⟨_, rfl⟩
  rw [← I2.out] at m2 k3 ⊢
  obtain ⟨d2, D2⟩ : ∃ i, Hid (i = digP i2) := ⟨_, rfl⟩
  rw [← D2.out] at k3 ⊢
  have K2 : Hid (∀ X, (X.cell? ⟨w.heap.size, 0, none⟩ = some (.string inner) ∧ X.cell? ⟨w.heap.size, 1, none⟩ = some (.string outer) ∧ PV w 154 (.string inner) (.string outer) X) → Calls Tryz.prog 27 #[.string i1] X fun e Y => e = .returned (.string d1) ∧ (Y.cell? ⟨w.heap.size, 0, none⟩ = some (.string inner) ∧ Y.cell? ⟨w.heap.size, 1, none⟩ = some (.string outer) ∧ PV w 154 (.string inner) (.string outer) Y)) := fun X hX => by
    refine (k2 X (hK.stays hX.2.2.below (Nat.le_refl _))).mono ?_
    rintro e Y ⟨rfl, hb⟩
    exact ⟨rfl, (hX.2.2.next hb).two⟩
  have K3 : Hid (∀ X, (X.cell? ⟨w.heap.size, 0, none⟩ = some (.string inner) ∧ X.cell? ⟨w.heap.size, 1, none⟩ = some (.string outer) ∧ PV w 154 (.string inner) (.string outer) X) → Calls Tryz.prog 27 #[.string i2] X fun e Y => e = .returned (.string d2) ∧ (Y.cell? ⟨w.heap.size, 0, none⟩ = some (.string inner) ∧ Y.cell? ⟨w.heap.size, 1, none⟩ = some (.string outer) ∧ PV w 154 (.string inner) (.string outer) Y)) := fun X hX => by
    refine (k3 X (hK.stays hX.2.2.below (Nat.le_refl _))).mono ?_
    rintro e Y ⟨rfl, hb⟩
    exact ⟨rfl, (hX.2.2.next hb).two⟩
  clear k2 k3 q1 q2 hK hc hg ht hm I1 D1 I2 D2 z1 z2 hts hm2
  go_enter Tryz.func121, Tryz.ntmps121
  go_wp2_with fail
  go_region_held3 (fun X => X.cell? ⟨w.heap.size, 0, none⟩ = some (.string inner) ∧ X.cell? ⟨w.heap.size, 1, none⟩ = some (.string outer) ∧ PV w 154 (.string inner) (.string outer) X) (first | (with_reducible assumption) | (with_reducible exact (PV.drew P0.out).two)) (first | (go_at_call 136; refine (K1.out _ (by assumption)).mono ?_; rintro e v1 ⟨rfl, hS⟩) | (go_at_call_of 27 (Value.string i1); refine (K2.out _ (by assumption)).mono ?_; rintro e v1 ⟨rfl, hS⟩) | (go_at_call_of 27 (Value.string i2); refine (K3.out _ (by assumption)).mono ?_; rintro e v1 ⟨rfl, hS⟩))
  all_goals
    go_wp2_with fail
    go_ret
    exact ⟨rfl, hS.2.2.below⟩

end Go.Proofs.YtoaifgblbfdncaaGreatDoor
namespace Go.Proofs.YtoaifgblbfdncaaGreatDoor
open Go.RowKit

theorem join3 (a b c : ByteArray) : (⟨(Lib.join ([a, b, c].map (·.data.toList)) []).toArray⟩ : ByteArray) = a ++ b ++ c := by
  apply ByteArray.ext
  apply Array.ext'
  simp [Lib.join, List.intercalate]
theorem front_bytes (l : List UInt8) (n : Nat) : (⟨l.toArray⟩ : ByteArray).extract 0 n = ⟨(l.take n).toArray⟩ := by
  apply ByteArray.ext
  apply Array.ext'
  simp

end Go.Proofs.YtoaifgblbfdncaaGreatDoor
namespace Go.Proofs.YtoaifgblbfdncaaGreatDoor
open Go.RowKit

set_option maxRecDepth 100000 in
set_option maxHeartbeats 400000 in
theorem implVarText_yes (n : Nat) (hn : n ≤ 1000000000) (w : World) :
    Calls Tryz.prog 119 #[.int .i64 n] w fun e w' => e = .returned (.tuple #[.string ⟨(var n).toArray⟩, .bool true]) ∧ Below w.heap.size w w' := by
  obtain ⟨i0, hi, hz0, hz1, hz2⟩ := info_parts infoByte
  have h0 : ¬ (n : Int) < 0 := by omega
  have h1 : ¬ 1000000000 < (n : Int) := by omega
  go_enter Tryz.func119, Tryz.ntmps119
  go_wp2
  go_loopw [0, 4] (fun t v wr => ∃ (m : Nat) (xs : List UInt8), m ≤ n ∧ t = .int .i64 m ∧ xs ++ var m = var n ∧ OwnB wr w.heap.size 5 v xs ∧ Below w.heap.size w wr) (fun t _ _ => (intOf t).toNat)
  case atStart => exact ⟨n, [], Nat.le_refl _, rfl, rfl, OwnB.nil _ _ _, Below.refl _ _⟩
  case round =>
    obtain ⟨m, xs, hm, rfl, hx, hown, hnx⟩ := hrel
    have hsz := hnx.size
    have hlen : xs.length + (var m).length ≤ 1000000001 := by
      have h1 := var_length n
      rw [← hx, List.length_append] at h1
      omega
    have HX := Lib.hid hx
    clear hx
    by_cases hlt : 127 < m
    · obtain ⟨b, hb, hg⟩ : ∃ b : UInt8, ((m : Int) % 128 + 128) = b.toNat ∧ var m = b :: var (m / 128) := ⟨_, by rw [byte_of _ (by omega)]; omega, var_great m hlt⟩
      have HG := Lib.hid hg
      have HB := Lib.hid hb
      clear hg hb
      go_wp2_with (at_builtin; refine wpList_push _ rfl _ _ 22 rfl w.heap.size 5 i0 Tryz.underlying22 hi hz0 hz1 hz2 _ xs rfl hown b _ rfl HB.out (by omega) hsz ?_)
      intro v' w1 hown1 hnx1
      have hnx2 := hnx.trans hnx1
      clear hown hnx hnx1 hsz
      go_wp2
      go_roundw
      case rel => exact ⟨m / 128, xs ++ [b], by omega, by go_num, by rw [← HX.out, HG.out, List.append_assoc]; rfl, hown1, hnx2⟩
      case measure => simp [intOf]; omega
    · obtain ⟨b, hb, hs⟩ : ∃ b : UInt8, (m : Int) = b.toNat ∧ var m = [b] := ⟨_, by rw [byte_of _ (by omega)], var_small m (by omega)⟩
      have HS := Lib.hid hs
      have HB := Lib.hid hb
      clear hs hb
      go_wp2_with (at_builtin; refine wpList_push _ rfl _ _ 22 rfl w.heap.size 5 i0 Tryz.underlying22 hi hz0 hz1 hz2 _ xs rfl hown b _ rfl HB.out (by omega) hsz ?_)
      intro v' w1 hown1 hnx1
      have hcv := run_string_own (P := Tryz.prog) w1 22 9 5 Tryz.underlying22 Tryz.underlying5 Tryz.underlying9 _ hown1
      go_wp2
      go_ret2
      exact ⟨ret_str2 (by rw [← HX.out, HS.out]), hnx.trans hnx1⟩

end Go.Proofs.YtoaifgblbfdncaaGreatDoor
