/-
  The given PartsOf by what it answers at every line.
-/
import Derived.Test.YtcnnmpenahihnaiDoorRows
import Derived.Test.YtcnnmpenahihnaiDoorKitS
import Derived.Test.YtcnnmpenahihnaiDoorPlainParts
import Derived.Lib.Strings
namespace Go.Proofs.YtcnnmpenahihnaiDoor
open Go.RowKit

theorem infoStr : (Tryd.prog.info? 9).map (fun i => (i.zero, i.size, i.bytes)) = some (some (.string ByteArray.empty), 1, 16) := by kernel_rfl

theorem seg_text (s : ByteArray) (b i : Nat) : s.extract b i = ⟨(seg s.data.toList b i).toArray⟩ := Lib.extract_eq s b i

theorem at_list (s : ByteArray) (i : Nat) (h : i < s.size) : s.data.toList[i]'(by simpa using h) = s[i] := rfl

set_option maxHeartbeats 400000 in
theorem specPartsOf_long (s : ByteArray) (h : 600 < s.size) (w : World) :
    Calls Tryd.prog 4 #[.string s] w fun e w' => ∃ v, e = .returned (.tuple #[v, .bool false]) ∧ OwnS w' w.heap.size 9 v [] ∧ Below w.heap.size w w' := by
  have h1 : 600 < (s.size : Int) := by omega
  go_enter Tryd.func4, Tryd.ntmps4
  go_wp2
  go_ret2
  exact ⟨_, rfl, OwnS.lit _ _ _ (Nat.le_refl _), (Below.refl _ _).alloc (Nat.le_refl _) _⟩

/-- How a call ends at a plain line. -/
def PartsEnd (s : ByteArray) (w : World) (e : Ending) (w' : World) : Prop :=
  ∃ v, ((Lib.fields s.data.toList).length ≤ 10 ∧ e = .returned (.tuple #[v, .bool true]) ∧ OwnS w' w.heap.size 9 v (Lib.fields s.data.toList) ∨
      10 < (Lib.fields s.data.toList).length ∧ e = .returned (.tuple #[v, .bool false]) ∧ OwnS w' w.heap.size 9 v []) ∧ Below w.heap.size w w'

set_option maxRecDepth 100000 in
set_option maxHeartbeats 800000 in
theorem specPartsOf_plain (s : ByteArray) (hs : s.size ≤ 600) (hp : ∀ i (h : i < s.data.toList.length), Plain s.data.toList[i]) (w : World) :
    Calls Tryd.prog 4 #[.string s] w fun e w' => PartsEnd s w e w' := by
  obtain ⟨i0, hi, hz0, hz1, hz2⟩ := info_parts infoStr
  have h1 : ¬ 600 < (s.size : Int) := by omega
  have hl : s.data.toList.length = s.size := by simp
  have HL := Lib.hid hl
  have HP := Lib.hid hp
  clear hp hl
  go_enter Tryd.func4, Tryd.ntmps4
  go_wp2
  go_loopw [4, 5, 6] (fun v b c wr => ∃ (bn i : Nat) (ps : List (List UInt8)), bn ≤ i ∧ i ≤ s.size + 1 ∧ ps.length ≤ i ∧ b = .int .i64 bn ∧ c = .int .i64 i ∧ Hid (ps ++ rem s.data.toList bn i = Lib.fields s.data.toList) ∧ OwnS wr w.heap.size 9 v ps ∧ Below w.heap.size w wr) (fun _ _ c _ => s.size + 1 - (intOf c).toNat)
  case atStart => exact ⟨0, 0, [], Nat.le_refl _, by omega, Nat.le_refl _, rfl, rfl, rem_start _, OwnS.lit _ _ _ (Nat.le_refl _), (Below.refl _ _).alloc (Nat.le_refl _) _⟩
  case round =>
    obtain ⟨bn, i, ps, hbi, his, hpl, rfl, rfl, HR, hown, hnx⟩ := hrel
    have hsz := hnx.size
    by_cases hlt : i < s.size
    · have hli : i < s.data.toList.length := by rw [HL.out]; exact hlt
      have hpi := HP.out i hli
      have g0 : decide ((i : Int) < (s.size : Int)) = true := decide_eq_true (by omega)
      have hb : s.data.toList[i] = s[i] := rfl
      have p1 : 32 ≤ s[i].toNat := hpi.1
      have p2 : s[i].toNat ≤ 126 := hpi.2
      have g1 : decide ((s[i].toNat : Int) < 32) = false := decide_eq_false (by omega)
      have g2 : decide ((126 : Int) < (s[i].toNat : Int)) = false := decide_eq_false (by omega)
      have HPI := Lib.hid hpi
      clear hpi hb
      by_cases hsp : s[i].toNat = 32
      · have g3 : ((s[i].toNat : Int) != 32) = false := by rw [bne_eq_false_iff_eq]; omega
        have HSP := Lib.hid hsp
        clear hsp p1 p2
        by_cases hbn : bn < i
        · have HN := Lib.hid (rem_part s.data.toList bn i hbn hli HPI.out HSP.out)
          have hbn2 : (bn : Int) < (i : Int) := by omega
          have hsx := seg_text s bn i
          generalize seg s.data.toList bn i = sg at *
          have HSX := Lib.hid hsx
          clear hsx
          go_wp2_with (at_builtin; refine wpList_pushS _ rfl _ _ 22 rfl w.heap.size 9 i0 Tryd.underlying22 hi hz0 hz1 hz2 _ _ rfl hown sg _ rfl HSX.out (by omega) hsz ?_)
          intro v' w1 hown1 hnx1
          go_wp2
          go_roundw
          case rel => exact ⟨i + 1, i + 1, ps ++ [sg], Nat.le_refl _, by omega, by simp; omega, by go_num, by go_num, by show _ = _; rw [← HR.out, HN.out, List.append_assoc]; rfl, hown1, hnx.trans hnx1⟩
          case measure => simp [intOf]; omega
        · have hbe : bn = i := by omega
          subst hbe
          have HN := Lib.hid (rem_blank s.data.toList bn hli HPI.out HSP.out)
          go_wp2
          go_roundw
          case rel => exact ⟨bn + 1, bn + 1, ps, Nat.le_refl _, by omega, by omega, by go_num, by go_num, by show _ = _; rw [← HR.out, HN.out], hown, hnx⟩
          case measure => simp [intOf]; omega
      · have g3 : ((s[i].toNat : Int) != 32) = true := by rw [bne_iff_ne]; omega
        have HN := Lib.hid (rem_more s.data.toList bn i hbi hli HPI.out hsp)
        clear hsp p1 p2
        go_wp2
        go_roundw
        case rel => exact ⟨bn, i + 1, ps, by omega, by omega, by omega, rfl, by go_num, by show _ = _; rw [← HR.out, HN.out], hown, hnx⟩
        case measure => simp [intOf]; omega
    · have g0 : decide ((i : Int) < (s.size : Int)) = false := decide_eq_false (by omega)
      by_cases hlast : i = s.size
      · have hle : (i : Int) ≤ (s.size : Int) := by omega
        by_cases hbn : bn < i
        · have HN : Hid (rem s.data.toList bn i = [seg s.data.toList bn i]) := by
            show _ = _
            have := rem_last s.data.toList bn (by rw [HL.out]; omega)
            rw [HL.out, ← hlast] at this
            exact this
          have HO : Hid (rem s.data.toList (i + 1) (i + 1) = []) := by
            show _ = _
            have := rem_over s.data.toList (i + 1)
            rw [HL.out, ← hlast] at this
            exact this
          have hbn2 : (bn : Int) < (i : Int) := by omega
          have hsx := seg_text s bn i
          generalize seg s.data.toList bn i = sg at *
          have HSX := Lib.hid hsx
          have HLA := Lib.hid hlast
          clear hsx hlast
          go_wp2_with (at_builtin; refine wpList_pushS _ rfl _ _ 22 rfl w.heap.size 9 i0 Tryd.underlying22 hi hz0 hz1 hz2 _ _ rfl hown sg _ rfl HSX.out (by omega) hsz ?_)
          intro v' w1 hown1 hnx1
          go_wp2
          go_roundw
          case rel => exact ⟨i + 1, i + 1, ps ++ [sg], Nat.le_refl _, by have := HLA.out; omega, by simp; omega, by go_num, by go_num, by show _ = _; rw [← HR.out, HN.out, HO.out, List.append_nil], hown1, hnx.trans hnx1⟩
          case measure => have := HLA.out; simp [intOf]; omega
        · have hbe : bn = i := by omega
          subst hbe
          have HN : Hid (rem s.data.toList bn bn = []) := by
            show _ = _
            have := rem_none s.data.toList
            rw [HL.out, ← hlast] at this
            exact this
          have HO : Hid (rem s.data.toList (bn + 1) (bn + 1) = []) := by
            show _ = _
            have := rem_over s.data.toList (bn + 1)
            rw [HL.out, ← hlast] at this
            exact this
          have HLA := Lib.hid hlast
          clear hlast
          go_wp2
          go_roundw
          case rel => exact ⟨bn + 1, bn + 1, ps, Nat.le_refl _, by have := HLA.out; omega, by omega, by go_num, by go_num, by show _ = _; rw [← HR.out, HN.out, HO.out], hown, hnx⟩
          case measure => have := HLA.out; simp [intOf]; omega
      · have hgt : ¬ (i : Int) ≤ (s.size : Int) := by omega
        have HE : Hid (ps = Lib.fields s.data.toList) := by
          show ps = _
          have h2 : i = s.data.toList.length + 1 := by rw [HL.out]; omega
          have h3 := HR.out
          rw [h2, rem_over, List.append_nil] at h3
          exact h3
        obtain ⟨ao, cap, rfl, _⟩ := hown.form
        by_cases hten : 10 < ps.length
        · have hten2 : 10 < (ps.length : Int) := by omega
          go_wp2
          go_ret2
          unfold PartsEnd
          exact ⟨_, .inr ⟨by rw [← HE.out]; exact hten, rfl, OwnS.lit _ _ _ hsz⟩, hnx.alloc hsz _⟩
        · have hten2 : ¬ 10 < (ps.length : Int) := by omega
          go_wp2
          go_ret2
          unfold PartsEnd
          exact ⟨_, .inl ⟨by rw [← HE.out]; omega, rfl, by rw [← HE.out]; exact hown⟩, hnx⟩

set_option maxRecDepth 100000 in
set_option maxHeartbeats 800000 in
theorem specPartsOf_bad (s : ByteArray) (hs : s.size ≤ 600) (J : Nat) (hJ : J < s.data.toList.length) (hp : ∀ i (h : i < J), Plain (s.data.toList[i]'(by omega))) (hn : ¬ Plain s.data.toList[J]) (w : World) :
    Calls Tryd.prog 4 #[.string s] w fun e w' => ∃ v, e = .returned (.tuple #[v, .bool false]) ∧ OwnS w' w.heap.size 9 v [] ∧ Below w.heap.size w w' := by
  obtain ⟨i0, hi, hz0, hz1, hz2⟩ := info_parts infoStr
  have h1 : ¬ 600 < (s.size : Int) := by omega
  have hl : s.data.toList.length = s.size := by simp
  have hJs : J < s.size := by omega
  have HP : Hid (∀ i (h : i < J), 32 ≤ (s[i]'(by omega)).toNat ∧ (s[i]'(by omega)).toNat ≤ 126) := hp
  have HN : Hid (¬ (32 ≤ s[J].toNat ∧ s[J].toNat ≤ 126)) := hn
  clear hp hn
  go_enter Tryd.func4, Tryd.ntmps4
  go_wp2
  go_loopw [4, 5, 6] (fun v b c wr => ∃ (bn i : Nat) (ps : List (List UInt8)), bn ≤ i ∧ i ≤ J ∧ ps.length ≤ i ∧ b = .int .i64 bn ∧ c = .int .i64 i ∧ OwnS wr w.heap.size 9 v ps ∧ Below w.heap.size w wr) (fun _ _ c _ => s.size + 1 - (intOf c).toNat)
  case atStart => exact ⟨0, 0, [], Nat.le_refl _, by omega, Nat.le_refl _, rfl, rfl, OwnS.lit _ _ _ (Nat.le_refl _), (Below.refl _ _).alloc (Nat.le_refl _) _⟩
  case round =>
    obtain ⟨bn, i, ps, hbi, his, hpl, rfl, rfl, hown, hnx⟩ := hrel
    have hsz := hnx.size
    have hlt : i < s.size := by omega
    have g0 : decide ((i : Int) < (s.size : Int)) = true := decide_eq_true (by omega)
    by_cases hij : i < J
    · obtain ⟨p1, p2⟩ := HP.out i hij
      have g1 : decide ((s[i].toNat : Int) < 32) = false := decide_eq_false (by omega)
      have g2 : decide ((126 : Int) < (s[i].toNat : Int)) = false := decide_eq_false (by omega)
      by_cases hsp : s[i].toNat = 32
      · have g3 : ((s[i].toNat : Int) != 32) = false := by rw [bne_eq_false_iff_eq]; omega
        clear hsp p1 p2
        by_cases hbn : bn < i
        · have hbn2 : (bn : Int) < (i : Int) := by omega
          have hsx := seg_text s bn i
          generalize seg s.data.toList bn i = sg at *
          have HSX := Lib.hid hsx
          clear hsx
          go_wp2_with (at_builtin; refine wpList_pushS _ rfl _ _ 22 rfl w.heap.size 9 i0 Tryd.underlying22 hi hz0 hz1 hz2 _ _ rfl hown sg _ rfl HSX.out (by omega) hsz ?_)
          intro v' w1 hown1 hnx1
          go_wp2
          go_roundw
          case rel => exact ⟨i + 1, i + 1, ps ++ [sg], Nat.le_refl _, by omega, by simp; omega, by go_num, by go_num, hown1, hnx.trans hnx1⟩
          case measure => simp [intOf]; omega
        · have hbn2 : ¬ (bn : Int) < (i : Int) := by omega
          go_wp2
          go_roundw
          case rel => exact ⟨i + 1, i + 1, ps, Nat.le_refl _, by omega, by omega, by go_num, by go_num, hown, hnx⟩
          case measure => simp [intOf]; omega
      · have g3 : ((s[i].toNat : Int) != 32) = true := by rw [bne_iff_ne]; omega
        clear hsp p1 p2
        go_wp2
        go_roundw
        case rel => exact ⟨bn, i + 1, ps, by omega, by omega, by omega, rfl, by go_num, hown, hnx⟩
        case measure => simp [intOf]; omega
    · have hbad : s[i].toNat < 32 ∨ 126 < s[i].toNat := by
        have e : i = J := by omega
        have h2 := HN.out
        simp only [← e] at h2
        omega
      by_cases hb1 : s[i].toNat < 32
      · have g1 : decide ((s[i].toNat : Int) < 32) = true := decide_eq_true (by omega)
        clear hbad hb1
        go_wp2
        go_ret2
        exact ⟨_, rfl, OwnS.lit _ _ _ hsz, hnx.alloc hsz _⟩
      · have g1 : decide ((s[i].toNat : Int) < 32) = false := decide_eq_false (by omega)
        have g2 : decide ((126 : Int) < (s[i].toNat : Int)) = true := decide_eq_true (by omega)
        clear hbad hb1
        go_wp2
        go_ret2
        exact ⟨_, rfl, OwnS.lit _ _ _ hsz, hnx.alloc hsz _⟩

end Go.Proofs.YtcnnmpenahihnaiDoor
