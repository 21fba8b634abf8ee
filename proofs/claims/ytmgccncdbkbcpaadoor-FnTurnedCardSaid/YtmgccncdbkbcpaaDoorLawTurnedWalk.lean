/-
  The walk of the law on a turned byte.
-/
import Derived.Test.YtmgccncdbkbcpaaDoorTurnedText
import Derived.Test.YtmgccncdbkbcpaaDoorDrawPlaces
import Derived.Lib.ConvBytes
namespace Go.Proofs.YtmgccncdbkbcpaaDoor
open Go.RowKit

theorem big_any (a : Option Addr) (len cap : Nat) (w : World) :
    Calls Tryd.prog 5 #[.slice a len cap] w fun e w' => e = .returned (.bool (decide (1048576 < (len : Int)))) ∧ w' = w := by
  go_enter Tryd.func5, Tryd.ntmps5
  go_wp2_with fail
  go_ret
  exact ⟨rfl, rfl⟩

/-- '[]byte(t)': a row of its own that holds t's bytes. -/
theorem bytes_of (w : World) (t : ByteArray) : ∃ (cp : Nat) (w' : World), (convert 9 22 (.string t)).run Tryd.prog w = .ok (.slice (some ⟨w.heap.size, 0, none⟩) t.size cp) w' ∧ w.heap.size < w'.heap.size ∧ Below w.heap.size w w' ∧
    (∀ j, j < t.size → w'.cell? ⟨w.heap.size, j, none⟩ = some (.int .u8 (t.data.toList.getD j 0).toNat)) ∧ (∀ j, j < t.size → w'.frozen? ⟨w.heap.size, j, none⟩ = false) := by
  refine ⟨_, _, Lib.run_convert_string_bytes w 9 22 5 t Tryd.underlying9 Tryd.underlying22 Tryd.underlying5, by rw [Lib.bytesWorld_size]; omega, ⟨rfl, rfl, rfl, by rw [Lib.bytesWorld_size]; omega, fun k hk => Lib.bytesWorld_at_old w _ t k hk⟩, fun j hj => Lib.bytesWorld_cell w _ t j hj, fun j hj => ?_⟩
  have h := Lib.bytesWorld_at_new w 5 t
  have hz : t.size ≤ (Lib.bytesCells w 5 t).size := by simp [Lib.bytesCells]
  unfold World.frozen?
  rw [h]
  simp
  omega

/-- 'x ^ y' on bytes, as the walk spells it. -/
theorem xor_u8 (x y : Nat) (hx : x < 256) (hy : y < 256) : bits .xor .u8 (x : Int) (y : Int) = ((x ^^^ y : Nat) : Int) := by
  have h : x ^^^ y < 256 := Nat.xor_lt_two_pow (n := 8) hx hy
  have ex : (BitVec.ofInt IntKind.u8.bits (x : Int)).toNat = x := by
    rw [BitVec.toNat_ofInt]
    show ((x : Int) % ((2 ^ 8 : Nat) : Int)).toNat = x
    omega
  have ey : (BitVec.ofInt IntKind.u8.bits (y : Int)).toNat = y := by
    rw [BitVec.toNat_ofInt]
    show ((y : Int) % ((2 ^ 8 : Nat) : Int)).toNat = y
    omega
  unfold bits
  simp only
  rw [BitVec.toNat_xor, ex, ey, IntKind.wrap_u8]
  omega

theorem lawTurned_big (a : Option Addr) (len cap : Nat) (h : 1048576 < len) (w : World) :
    Calls Tryd.prog 4 #[.slice a len cap] w fun e w' => e = .returned (.bool true) ∧ Below w.heap.size w w' := by
  have hd : decide (1048576 < (len : Int)) = true := decide_eq_true (by omega)
  have HB := Lib.hid (fun w => big_any a len cap w)
  rw [hd] at HB
  go_enter Tryd.func4, Tryd.ntmps4
  go_wp2_with fail
  refine (HB.out _).mono ?_
  rintro e w1 ⟨rfl, rfl⟩
  go_wp2
  go_ret
  exact ⟨rfl, Below.refl _ _⟩

set_option maxRecDepth 100000 in
set_option maxHeartbeats 1600000 in
theorem lawTurned (a : Option Addr) (len cap : Nat) (w : World) (H : Src a len w) (ht : Laid w) :
    Calls Tryd.prog 4 #[.slice a len cap] w fun e w' => e = .returned (.bool true) ∧ Below w.heap.size w w' := by
  have hd : decide (1048576 < (len : Int)) = false := decide_eq_false (by have := H.few; omega)
  have HB := Lib.hid (fun w => big_any a len cap w)
  rw [hd] at HB
  have HS := Lib.hid H
  have HT := Lib.hid ht
  clear H ht hd
  go_enter Tryd.func4, Tryd.ntmps4
  go_wp2_with fail
  refine (HB.out _).mono ?_
  rintro e w1 ⟨rfl, rfl⟩
  go_wp2_with fail
  refine (drawSumOf_any a len cap _ HS.out).mono ?_
  rintro e w2 ⟨l, hl, rfl, hb2⟩
  have hsl : (⟨l.toArray⟩ : ByteArray).size ≤ 39 := by show l.toArray.size ≤ 39; simpa using hl
  generalize (⟨l.toArray⟩ : ByteArray) = s at hsl
  have HB2 := Lib.hid hb2
  have HS2 := Lib.hid (HS.out.below hb2)
  clear hb2 hl
  go_wp2_with fail
  refine (drawPlaces_any a len cap _ HS2.out).mono ?_
  rintro e w3 ⟨g, cp, zs, hz, hzs, rfl, hg, hcell, hb3⟩
  have HB3 := Lib.hid (HB2.out.trans (hb3.mono HB2.out.size))
  obtain ⟨z0, hz0, c0⟩ : ∃ z0 : Int, (0 ≤ z0 ∧ z0 ≤ 9999) ∧ w3.cell? ⟨g, 0, none⟩ = some (.int .i64 z0) := ⟨_, hzs _ (by rw [List.getD_eq_getElem?_getD, List.getElem?_eq_getElem (by omega)]; exact List.getElem_mem _), hcell 0 (by omega)⟩
  obtain ⟨z1, hz1, c1⟩ : ∃ z1 : Int, (0 ≤ z1 ∧ z1 ≤ 9999) ∧ w3.cell? ⟨g, 1, none⟩ = some (.int .i64 z1) := ⟨_, hzs _ (by rw [List.getD_eq_getElem?_getD, List.getElem?_eq_getElem (by omega)]; exact List.getElem_mem _), hcell 1 (by omega)⟩
  have C0 := Lib.hid c0
  have C1 := Lib.hid c1
  have HT3 := Lib.hid (HT.out.stays HB3.out (Nat.le_refl _))
  clear hb3 hcell hzs hz c0 c1 HB2 HS2
  obtain ⟨t, t0, t1, t2, t3⟩ := turned_text s hsl
  have T0 := Lib.hid t0
  have T1 := Lib.hid t1
  have T2 := Lib.hid t2
  have T3 := Lib.hid t3
  clear t0 t1 t2 t3
  go_wp2_with fail
  refine (T1.out _ HT3.out).mono ?_
  rintro e w4 ⟨rfl, hb4⟩
  have HT4 := Lib.hid (HT3.out.stays hb4 (Nat.le_refl _))
  have HB4 := Lib.hid hb4
  clear hb4
  go_wp2_with fail
  refine (T2.out _ HT4.out).mono ?_
  rintro e w5 ⟨rfl, hb5⟩
  have HT5 := Lib.hid (HT4.out.stays hb5 (Nat.le_refl _))
  have HB5 := Lib.hid (HB4.out.trans (hb5.mono HB4.out.size))
  clear hb5 HB4 HT4
  have htz : (t.size : Int) = (s.size : Int) + 4 := by have := T0.out; omega
  obtain ⟨cp6, w6, hcv, hsz6, hb6, hcell6, hfz6⟩ := bytes_of w5 t
  have HB6 := Lib.hid (HB5.out.trans (hb6.mono HB5.out.size))
  have hcz0 : w6.cell? ⟨g, 0, none⟩ = some (.int .i64 z0) := by rw [HB6.out.cell (p := ⟨g, 0, none⟩) hg]; exact C0.out
  have hcz1 : w6.cell? ⟨g, 1, none⟩ = some (.int .i64 z1) := by rw [HB6.out.cell (p := ⟨g, 1, none⟩) hg]; exact C1.out
  have HF6 := Lib.hid hfz6
  have HL6 := Lib.hid hcell6
  have hgne : g < w5.heap.size := Nat.lt_of_lt_of_le hg HB5.out.size
  have HB56 := Lib.hid hb6
  clear hb6 hcell6 hfz6 HT3
  go_upto_region 10 with fail
  clear htz hcv
  have htp : 0 < t.size := by have := T0.out; omega
  have htp2 : (t.size : Int) ≠ 0 := by omega
  obtain ⟨k, hk, hr1, hr2⟩ : ∃ k : Nat, k < t.size ∧ z0 % (t.size : Int) = (k : Int) ∧ z0.tmod (t.size : Int) = (k : Int) := by
    have h1 : 0 ≤ z0 % (t.size : Int) := Int.emod_nonneg _ (by omega)
    have h2 := Int.emod_lt_of_pos z0 (show (0 : Int) < (t.size : Int) by omega)
    refine ⟨(z0 % (t.size : Int)).toNat, by omega, by omega, ?_⟩
    rw [Int.tmod_eq_emod_of_nonneg hz0.1]
    omega
  go_upto_region 11 with fail
  clear hr1 hr2 hcz0
  have hk2 : (k : Int) < (t.size : Int) := by omega
  have hxk : w6.cell? ⟨w5.heap.size, k, none⟩ = some (.int .u8 (t.data.toList.getD k 0).toNat) := HL6.out k hk
  have hfk : w6.frozen? ⟨w5.heap.size, k, none⟩ = false := HF6.out k hk
  obtain ⟨x, hx, HX⟩ : ∃ x : Nat, x < 256 ∧ Hid (x = (t.data.toList.getD k 0).toNat) := ⟨_, (t.data.toList.getD k 0).toNat_lt, rfl⟩
  rw [← HX.out] at hxk
  obtain ⟨m, hm, hm1, hm2⟩ : ∃ m : Nat, m < 255 ∧ z1 % 255 = (m : Int) ∧ z1.tmod 255 = (m : Int) := by
    refine ⟨(z1 % 255).toNat, by omega, by omega, ?_⟩
    rw [Int.tmod_eq_emod_of_nonneg hz1.1]
    omega
  obtain ⟨b, hxor, HBX⟩ : ∃ b : UInt8, bits .xor .u8 (x : Int) (1 + (m : Int)) = (b.toNat : Int) ∧ Hid (b.toNat = x ^^^ (1 + m)) := by
    have h1 : x ^^^ (1 + m) < 256 := Nat.xor_lt_two_pow (n := 8) hx (by omega)
    refine ⟨UInt8.ofNat (x ^^^ (1 + m)), ?_, ?_⟩
    · rw [UInt8.toNat_ofNat', Nat.mod_eq_of_lt (by omega)]
      exact xor_u8 x (1 + m) hx (by omega)
    · show (UInt8.ofNat (x ^^^ (1 + m))).toNat = _
      rw [UInt8.toNat_ofNat', Nat.mod_eq_of_lt (by omega)]
  go_cut [10] (fun i wx => i = .int .i64 k ∧ Below w5.heap.size w6 wx ∧ ∀ j, j < t.size → wx.cell? ⟨w5.heap.size, j, none⟩ = some (.int .u8 ((t.data.toList.set k b).getD j 0).toNat))
  case first =>
    go_region
    all_goals
      go_wp2_with fail
      go_meet
      refine ⟨rfl, (Below.setCell (B := w5.heap.size) (Below.refl _ w6) (p := ⟨w5.heap.size, k, none⟩) (Nat.le_refl _) _).drew, fun j hj => ?_⟩
      show (w6.setCell ⟨w5.heap.size, k, none⟩ (.int .u8 (b.toNat : Int))).cell? ⟨w5.heap.size, j, none⟩ = _
      rw [← set_getD t.data.toList k j b (by simpa using hk)]
      by_cases hjk : j = k
      · subst hjk
        rw [if_pos rfl]
        exact set_on _ _ _ _ _ hxk
      · rw [if_neg hjk, set_off _ _ _ _ _ (Ne.symm hjk)]
        exact HL6.out j hj
  case rest =>
    obtain ⟨rfl, hb7, hcell7⟩ := hcut
    have HT7 := Lib.hid (HT5.out.stays (HB56.out.trans hb7) (Nat.le_refl _))
    have HB7 := Lib.hid (HB6.out.trans (hb7.mono HB5.out.size))
    have hbt : b ≠ t.data.toList[k]'(by simpa using hk) := by
      intro e
      have h1 := HX.out
      rw [List.getD_eq_getElem?_getD, List.getElem?_eq_getElem (by simpa using hk)] at h1
      have h2 := HBX.out
      rw [e] at h2
      have h3 : x = x ^^^ (1 + m) := by rw [← h2]; exact h1
      have h4 := congrArg (x ^^^ ·) h3
      simp only [Nat.xor_self, ← Nat.xor_assoc, Nat.zero_xor] at h4
      omega
    have hlen7 : (t.data.toList.set k b).length = t.size := by simp
    have hcv7 := run_convert_bytes_back (P := Tryd.prog) wc 22 9 5 ⟨w5.heap.size, 0, none⟩ cp6 (t.data.toList.set k b) Tryd.underlying22 Tryd.underlying5 Tryd.underlying9 (fun j hj => by
      have e : (⟨w5.heap.size, 0, none⟩ : Addr).add j = ⟨w5.heap.size, j, none⟩ := by unfold Addr.add; split <;> simp_all
      rw [e, hcell7 j (by omega), List.getD_eq_getElem?_getD, List.getElem?_eq_getElem hj]
      rfl)
    rw [hlen7] at hcv7
    have H7 := Lib.hid (T3.out k (by simpa using hk) b hbt wc HT7.out)
    generalize (⟨(t.data.toList.set k b).toArray⟩ : ByteArray) = t' at hcv7 H7
    clear hb7 hcell7 hlen7 hbt hxor hm1 hm2 hxk hfk hcz1
    go_wp2_with fail
    refine (H7.out).mono ?_
    rintro e w8 ⟨rfl, hb8⟩
    have HT8 := Lib.hid (HT7.out.stays hb8 (Nat.le_refl _))
    have HB8 := Lib.hid (HB7.out.trans (hb8.mono (Nat.le_trans HB7.out.size (Nat.le_refl _))))
    have hlt := sumL_lt s.data.toList 4294967295 (by omega)
    have h81 := implSumOf_any s (by omega) w8 HT8.out
    have h82 := implSumMore_any _ hlt ⟨#[120]⟩ (by decide) w8 HT8.out
    have hx9 : (s ++ (⟨#[120]⟩ : ByteArray)).size ≤ 1099511627776 := by rw [ByteArray.size_append]; show s.size + 1 ≤ _; omega
    have h83 := implSumOf_any (s ++ (⟨#[120]⟩ : ByteArray)) hx9 w8 HT8.out
    rw [← sum_on] at h83
    have H81 := Lib.hid h81
    have H82 := Lib.hid h82
    have H83 := Lib.hid h83
    have h9 : ¬ 9223372036854775807 < s.size + 1 := by omega
    clear hb8 hcv7 h81 h82 h83 hx9
    go_wp2_with fail
    refine (H81.out).mono ?_
    rintro e w9 ⟨rfl, rfl⟩
    go_wp2_with fail
    refine (H82.out).mono ?_
    rintro e w10 ⟨rfl, rfl⟩
    go_wp2_with fail
    refine (H83.out).mono ?_
    rintro e w11 ⟨rfl, rfl⟩
    go_wp2
    go_ret
    exact ⟨rfl, HB3.out.trans (HB8.out.mono HB3.out.size)⟩

end Go.Proofs.YtmgccncdbkbcpaaDoor
