/-
  The given cut of a text at a sign.
-/
import Derived.Test.YtmmippdommemmaoDoorRows
import Derived.Test.YtmmippdommemmaoDoorKit
import Derived.Test.YtmmippdommemmaoDoorKitS
import Derived.Test.YtmmippdommemmaoDoorPlainAll
namespace Go.Proofs.YtmmippdommemmaoDoor
open Go.RowKit

theorem infoText : (Tryd.prog.info? 9).map (fun i => (i.zero, i.size, i.bytes)) = some (some (.string ByteArray.empty), 1, 16) := by kernel_rfl
theorem part_text (s : ByteArray) (b i : Nat) : s.extract b i = ⟨(seg s.data.toList b i).toArray⟩ := Lib.extract_eq s b i

set_option maxRecDepth 100000 in
set_option maxHeartbeats 800000 in
theorem specSplit_any (s : ByteArray) (x : UInt8) (hs : s.size ≤ 100000000) (w : World) :
    Calls Tryd.prog 7 #[.string s, .int .u8 (x.toNat : Nat)] w fun e w' => ∃ v, e = .returned v ∧ OwnS w' w.heap.size 9 v (cutAt x [] s.data.toList) ∧ Below w.heap.size w w' := by
  obtain ⟨i0, hi, hz0, hz1, hz2⟩ := info_parts infoText
  have hl : s.data.toList.length = s.size := by simp
  have HL := Lib.hid hl
  clear hl
  go_enter Tryd.func7, Tryd.ntmps7
  go_wp2
  go_loopw [5, 6, 7] (fun v b c wr => ∃ (bn i : Nat) (ps : List (List UInt8)), bn ≤ i ∧ i ≤ s.size + 1 ∧ ps.length ≤ i ∧ b = .int .i64 bn ∧ c = .int .i64 i ∧ Hid (ps ++ remC x s.data.toList bn i = cutAt x [] s.data.toList) ∧ OwnS wr w.heap.size 9 v ps ∧ Below w.heap.size w wr) (fun _ _ c _ => s.size + 1 - (intOf c).toNat)
  case atStart => exact ⟨0, 0, [], Nat.le_refl _, by omega, Nat.le_refl _, rfl, rfl, remC_start _ _, OwnS.lit _ _ _ (Nat.le_refl _), (Below.refl _ _).alloc (Nat.le_refl _) _⟩
  case round =>
    obtain ⟨bn, i, ps, hbi, his, hpl, rfl, rfl, HR, hown, hnx⟩ := hrel
    have hsz := hnx.size
    by_cases hlt : i < s.size
    · have hli : i < s.data.toList.length := by rw [HL.out]; exact hlt
      have g0 : (i : Int) ≤ (s.size : Int) := by omega
      have g1 : ((i : Int) == (s.size : Int)) = false := by rw [beq_eq_false_iff_ne]; omega
      have hb : s.data.toList[i] = s[i] := rfl
      by_cases hsp : s[i] = x
      · have g3 : ((s[i].toNat : Int) == (x.toNat : Int)) = true := by rw [hsp]; simp
        have HN := Lib.hid (remC_part x s.data.toList bn i hli (hb.trans hsp))
        clear hsp hb
        have hbn2 : (bn : Int) ≤ (i : Int) := by omega
        have hsx := part_text s bn i
        generalize seg s.data.toList bn i = sg at *
        have HSX := Lib.hid hsx
        clear hsx
        go_wp2_with (at_builtin; refine wpList_pushS _ rfl _ _ 28 rfl w.heap.size 9 i0 Tryd.underlying28 hi hz0 hz1 hz2 _ _ rfl hown sg _ rfl HSX.out (by omega) hsz ?_)
        intro v' w1 hown1 hnx1
        go_wp2
        go_roundw
        case rel => exact ⟨i + 1, i + 1, ps ++ [sg], Nat.le_refl _, by omega, by simp; omega, by go_num, by go_num, by show _ = _; rw [← HR.out, HN.out, List.append_assoc]; rfl, hown1, hnx.trans hnx1⟩
        case measure => simp [intOf]; omega
      · have g3 : ((s[i].toNat : Int) == (x.toNat : Int)) = false := by
          rw [beq_eq_false_iff_ne]
          intro e
          exact hsp (UInt8.toNat_inj.1 (by omega))
        have HN := Lib.hid (remC_more x s.data.toList bn i hbi hli (fun e => hsp (hb.symm.trans e)))
        clear hsp hb
        go_wp2
        go_roundw
        case rel => exact ⟨bn, i + 1, ps, by omega, by omega, by omega, rfl, by go_num, by show _ = _; rw [← HR.out, HN.out], hown, hnx⟩
        case measure => simp [intOf]; omega
    · by_cases hlast : i = s.size
      · have hle : (i : Int) ≤ (s.size : Int) := by omega
        have g1 : ((i : Int) == (s.size : Int)) = true := by rw [beq_iff_eq]; omega
        have HN : Hid (remC x s.data.toList bn i = [seg s.data.toList bn i]) := by
          show _ = _
          have := remC_last x s.data.toList bn
          rw [HL.out, ← hlast] at this
          exact this
        have HO : Hid (remC x s.data.toList (i + 1) (i + 1) = []) := by
          show _ = _
          have := remC_over x s.data.toList (i + 1)
          rw [HL.out, ← hlast] at this
          exact this
        have hbn2 : (bn : Int) ≤ (i : Int) := by omega
        have hsx := part_text s bn i
        generalize seg s.data.toList bn i = sg at *
        have HSX := Lib.hid hsx
        have HLA := Lib.hid hlast
        clear hsx hlast
        go_wp2_with (at_builtin; refine wpList_pushS _ rfl _ _ 28 rfl w.heap.size 9 i0 Tryd.underlying28 hi hz0 hz1 hz2 _ _ rfl hown sg _ rfl HSX.out (by omega) hsz ?_)
        intro v' w1 hown1 hnx1
        go_wp2
        go_roundw
        case rel => exact ⟨i + 1, i + 1, ps ++ [sg], Nat.le_refl _, by have := HLA.out; omega, by simp; omega, by go_num, by go_num, by show _ = _; rw [← HR.out, HN.out, HO.out, List.append_nil], hown1, hnx.trans hnx1⟩
        case measure => have := HLA.out; simp [intOf]; omega
      · have hgt : ¬ (i : Int) ≤ (s.size : Int) := by omega
        have HE : Hid (ps = cutAt x [] s.data.toList) := by
          show ps = _
          have h2 : i = s.data.toList.length + 1 := by rw [HL.out]; omega
          have h3 := HR.out
          rw [h2, remC_over, List.append_nil] at h3
          exact h3
        obtain ⟨ao, cap, rfl, _⟩ := hown.form
        go_wp2
        go_ret
        exact ⟨_, rfl, by rw [← HE.out]; exact hown, hnx⟩

end Go.Proofs.YtmmippdommemmaoDoor
