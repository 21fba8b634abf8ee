/-
  The program's PartsOf by what it answers at every line.
-/
import Derived.Test.YtcnnmpenahihnaiDoorPartsSpec
import Derived.Test.YtcnnmpenahihnaiDoorShelf
namespace Go.Proofs.YtcnnmpenahihnaiDoor
open Go.RowKit

theorem clone_any (s : ByteArray) (hs : s.size ≤ 1048576) (w : World) :
    Calls Tryd.prog 11 #[.string s] w fun e w' => e = .returned (.string s) ∧ Below w.heap.size w w' := by
  have H := Lib.hid (fun w => Tryd.stringslite_Clone s w (by omega))
  go_enter Tryd.func11, Tryd.ntmps11
  go_wp2_with fail
  refine (H.out _).mono ?_
  rintro e w1 ⟨rfl, hb1⟩
  go_wp2
  go_ret
  exact ⟨rfl, hb1⟩

set_option maxRecDepth 100000 in
set_option maxHeartbeats 400000 in
theorem isPlain_yes (s : ByteArray) (hs : s.size ≤ 600) (hp : ∀ i (h : i < s.data.toList.length), Plain s.data.toList[i]) (w : World) :
    Calls Tryd.prog 9 #[.string s] w fun e w' => e = .returned (.bool true) ∧ w = w' := by
  have HP : Hid (∀ i (h : i < s.size), 32 ≤ s[i].toNat ∧ s[i].toNat ≤ 126) := fun i h => hp i (by simpa using h)
  clear hp
  go_enter Tryd.func9, Tryd.ntmps9
  go_wp2
  go_loop [3, 6] (fun _ c => ∃ i : Nat, i ≤ s.size ∧ c = .int .i64 i) (fun _ c => s.size - (intOf c).toNat)
  case atStart => exact ⟨0, Nat.zero_le _, rfl⟩
  case round =>
    obtain ⟨i, his, rfl⟩ := hrel
    by_cases hlt : i < s.size
    · obtain ⟨p1, p2⟩ := HP.out i hlt
      have g1 : decide ((s[i].toNat : Int) < 32) = false := decide_eq_false (by omega)
      have g2 : decide ((126 : Int) < (s[i].toNat : Int)) = false := decide_eq_false (by omega)
      clear p1 p2
      go_wp2
      go_round
      case rel => exact ⟨i + 1, by omega, by go_num⟩
      case measure => simp [intOf]; omega
    · go_wp2
      go_ret
      exact ⟨rfl, rfl⟩

set_option maxRecDepth 100000 in
set_option maxHeartbeats 400000 in
theorem isPlain_no (s : ByteArray) (hs : s.size ≤ 600) (J : Nat) (hJ : J < s.data.toList.length) (hp : ∀ i (h : i < J), Plain (s.data.toList[i]'(by omega))) (hn : ¬ Plain s.data.toList[J]) (w : World) :
    Calls Tryd.prog 9 #[.string s] w fun e w' => e = .returned (.bool false) ∧ w = w' := by
  have hl : s.data.toList.length = s.size := by simp
  have hJs : J < s.size := by omega
  have HP : Hid (∀ i (h : i < J), 32 ≤ (s[i]'(by omega)).toNat ∧ (s[i]'(by omega)).toNat ≤ 126) := hp
  have HN : Hid (¬ (32 ≤ s[J].toNat ∧ s[J].toNat ≤ 126)) := hn
  clear hp hn
  go_enter Tryd.func9, Tryd.ntmps9
  go_wp2
  go_loop [3, 6] (fun _ c => ∃ i : Nat, i ≤ J ∧ c = .int .i64 i) (fun _ c => s.size - (intOf c).toNat)
  case atStart => exact ⟨0, Nat.zero_le _, rfl⟩
  case round =>
    obtain ⟨i, his, rfl⟩ := hrel
    have hlt : i < s.size := by omega
    by_cases hij : i < J
    · obtain ⟨p1, p2⟩ := HP.out i hij
      have g1 : decide ((s[i].toNat : Int) < 32) = false := decide_eq_false (by omega)
      have g2 : decide ((126 : Int) < (s[i].toNat : Int)) = false := decide_eq_false (by omega)
      clear p1 p2
      go_wp2
      go_round
      case rel => exact ⟨i + 1, by omega, by go_num⟩
      case measure => simp [intOf]; omega
    · have hbad : s[i].toNat < 32 ∨ 126 < s[i].toNat := by
        have e : i = J := by omega
        have h2 := HN.out
        simp only [← e] at h2
        omega
      by_cases hb1 : s[i].toNat < 32
      · have g1 : decide ((s[i].toNat : Int) < 32) = true := decide_eq_true (by omega)
        clear hbad hb1
        go_wp2
        go_ret
        exact ⟨rfl, rfl⟩
      · have g1 : decide ((s[i].toNat : Int) < 32) = false := decide_eq_false (by omega)
        have g2 : decide ((126 : Int) < (s[i].toNat : Int)) = true := decide_eq_true (by omega)
        clear hbad hb1
        go_wp2
        go_ret
        exact ⟨rfl, rfl⟩

set_option maxHeartbeats 400000 in
theorem implPartsOf_long (s : ByteArray) (h : 600 < s.size) (w : World) :
    Calls Tryd.prog 5 #[.string s] w fun e w' => ∃ v, e = .returned (.tuple #[v, .bool false]) ∧ OwnS w' w.heap.size 9 v [] ∧ Below w.heap.size w w' := by
  have h1 : decide (600 < (s.size : Int)) = true := decide_eq_true (by omega)
  go_enter Tryd.func5, Tryd.ntmps5
  go_wp2
  go_ret2
  exact ⟨_, rfl, OwnS.nil _ _ _, Below.refl _ _⟩

set_option maxHeartbeats 400000 in
theorem implPartsOf_bad (s : ByteArray) (hs : s.size ≤ 600) (J : Nat) (hJ : J < s.data.toList.length) (hp : ∀ i (h : i < J), Plain (s.data.toList[i]'(by omega))) (hn : ¬ Plain s.data.toList[J]) (w : World) :
    Calls Tryd.prog 5 #[.string s] w fun e w' => ∃ v, e = .returned (.tuple #[v, .bool false]) ∧ OwnS w' w.heap.size 9 v [] ∧ Below w.heap.size w w' := by
  have h1 : decide (600 < (s.size : Int)) = false := decide_eq_false (by omega)
  have HC := Lib.hid (fun w => isPlain_no s hs J hJ hp hn w)
  clear hp hn
  go_enter Tryd.func5, Tryd.ntmps5
  go_wp2_with fail
  refine (HC.out _).mono ?_
  rintro e w1 ⟨rfl, rfl⟩
  go_wp2
  go_ret2
  exact ⟨_, rfl, OwnS.nil _ _ _, Below.refl _ _⟩

theorem plain_ascii (s : ByteArray) (hp : ∀ i (h : i < s.data.toList.length), Plain s.data.toList[i]) : ∀ (j : Nat) b, s.data.toList[j]? = some b → b.toNat < 128 := by
  intro j b hb
  obtain ⟨h, rfl⟩ := List.getElem?_eq_some_iff.1 hb
  have := (hp j h).2
  omega

set_option maxRecDepth 100000 in
set_option maxHeartbeats 400000 in
theorem implPartsOf_plain (s : ByteArray) (hs : s.size ≤ 600) (hp : ∀ i (h : i < s.data.toList.length), Plain s.data.toList[i]) (w : World)
    (ht : Lib.TabIs Tryd.prog w "strings.asciiSpace" .u8 Lib.asciiSpaceTab) :
    Calls Tryd.prog 5 #[.string s] w fun e w' => PartsEnd s w e w' := by
  have h1 : decide (600 < (s.size : Int)) = false := decide_eq_false (by omega)
  have HC := Lib.hid (fun w => isPlain_yes s hs hp w)
  have HF := Lib.hid (Tryd.strings_Fields_laid s w (by omega) (plain_ascii s hp) ht)
  have hle : ∀ i, ((Lib.fields s.data.toList).getD i []).length ≤ 600 := fun i => Nat.le_trans (fields_le _ i) (by simpa using hs)
  have HLE := Lib.hid hle
  have hnl : (Lib.fields s.data.toList).length ≤ 600 := by
    rw [Lib.fields_length]
    exact Nat.le_trans (cnt_le _ _) (by simpa using hs)
  clear hp ht hle
  go_enter Tryd.func5, Tryd.ntmps5
  go_wp2_with fail
  refine (HC.out _).mono ?_
  rintro e w1 ⟨rfl, rfl⟩
  go_wp2_with fail
  refine HF.out.mono ?_
  rintro e w1 ⟨rfl, hw⟩
  have hown : OwnS w1 w.heap.size 9 (.slice (some ⟨w.heap.size, 0, none⟩) (Lib.fields s.data.toList).length (Lib.fields s.data.toList).length) (Lib.fields s.data.toList) := by
    rw [hw]
    have := World.ownsRow_lit (base := w.heap.size) (e := 9) (size := 1) w (((Lib.fields s.data.toList).map fun l => Value.string ⟨l.toArray⟩).toArray) (Lib.fields s.data.toList).length (Nat.le_refl _) (by unfold maxLen; omega) (by simp)
    simpa [OwnS, strs] using this
  have hnx : Below w.heap.size w w1 := by rw [hw]; exact (Below.refl _ _).alloc (Nat.le_refl _) _
  clear hw
  obtain ⟨ls, hls⟩ : ∃ ls, ls = Lib.fields s.data.toList := ⟨_, rfl⟩
  rw [← hls] at hown hnl HLE ⊢
  have HLS := Lib.hid hls
  clear hls HF HC
  by_cases hten : 10 < ls.length
  · have hten2 : 10 < (ls.length : Int) := by omega
    go_wp2
    go_ret2
    unfold PartsEnd
    exact ⟨_, .inr ⟨by rw [← HLS.out]; exact hten, rfl, OwnS.nil _ _ _⟩, hnx⟩
  · have hten2 : ¬ 10 < (ls.length : Int) := by omega
    have HO := Lib.hid hown
    have HX := Lib.hid hnx
    clear hown hnx
    go_wp2
    go_loopw [5, 6, 22] (fun _ _ c wr => ∃ i : Nat, i ≤ ls.length ∧ c = .int .i64 i ∧ OwnS wr w.heap.size 9 (.slice (some ⟨w.heap.size, 0, none⟩) ls.length ls.length) ls ∧ Below w.heap.size w wr) (fun _ _ c _ => ls.length - (intOf c).toNat)
    case atStart => exact ⟨0, Nat.zero_le _, rfl, HO.out, HX.out⟩
    case round =>
      obtain ⟨i, hi, rfl, hown, hnx⟩ := hrel
      have hsz := hnx.size
      by_cases hlt : i < ls.length
      · have hlt2 : (i : Int) < (ls.length : Int) := by omega
        obtain ⟨ao', cap', ev, hform⟩ := hown.form
        obtain ⟨g, rfl, hg, hgs, hcc⟩ := hform (by omega)
        simp only [Value.slice.injEq, Option.some.injEq, Addr.mk.injEq, and_true, true_and] at ev
        obtain ⟨rfl, rfl⟩ := ev
        have hc0 := (hcc i hlt).1
        have hp6 : (⟨(ls.getD i []).toArray⟩ : ByteArray).size ≤ 1048576 := by rw [size_list]; exact Nat.le_trans (HLE.out i) (by omega)
        have hset : ls.set i (ls.getD i []) = ls := by
          have e : ls.getD i [] = ls[i] := by simp [hlt]
          rw [e]
          exact List.set_getElem_self hlt
        obtain ⟨p, hpe⟩ : ∃ p, p = ls.getD i [] := ⟨_, rfl⟩
        rw [← hpe] at hc0 hp6 hset
        have HCL := Lib.hid (fun w => clone_any ⟨p.toArray⟩ hp6 w)
        have HSET := Lib.hid hset
        have HOW := Lib.hid hown
        clear hform hcc hset hpe hown hp6
        go_wp2_with fail
        refine (HCL.out _).mono ?_
        rintro e w2 ⟨rfl, hb2⟩
        have hown2 := HOW.out.below hb2
        obtain ⟨ao2, cap2, ev2, hform2⟩ := hown2.form
        obtain ⟨g2, rfl, _, _, hcc⟩ := hform2 (by omega)
        simp only [Value.slice.injEq, Option.some.injEq, Addr.mk.injEq, and_true, true_and] at ev2
        obtain ⟨rfl, rfl⟩ := ev2
        obtain ⟨u0, hc2⟩ : ∃ u0, w2.cell? ⟨w.heap.size, i, none⟩ = some (.string u0) := ⟨_, (hcc i hlt).1⟩
        have hf2 := (hcc i hlt).2
        have HO2 := Lib.hid hown2
        clear hcc hform2 hown2 hc0
        go_wp2
        go_roundw
        case rel =>
          refine ⟨i + 1, by omega, by go_num, ?_, (hnx.trans (hb2.mono hsz)).setCell (Nat.le_refl _) _⟩
          have h5 := OwnS.stored rfl HO2.out i p
          rw [HSET.out] at h5
          exact h5
        case measure => simp [intOf]; omega
      · go_wp2
        go_ret2
        unfold PartsEnd
        exact ⟨_, .inl ⟨by rw [← HLS.out]; omega, rfl, by rw [← HLS.out]; exact hown⟩, hnx⟩

/-- How both end: one flag, one list of texts, each in a row of its own call. -/
def Ends (b : Bool) (ls : List (List UInt8)) (w : World) (e : Ending) (w' : World) : Prop :=
  ∃ v, e = .returned (.tuple #[v, .bool b]) ∧ OwnS w' w.heap.size 9 v ls ∧ Below w.heap.size w w'

theorem ends_plain {s : ByteArray} {f : FuncId} {w : World} (h : Calls Tryd.prog f #[.string s] w fun e w' => PartsEnd s w e w') :
    Calls Tryd.prog f #[.string s] w fun e w' => Ends (decide ((Lib.fields s.data.toList).length ≤ 10)) (if (Lib.fields s.data.toList).length ≤ 10 then Lib.fields s.data.toList else []) w e w' := by
  refine h.mono ?_
  rintro e w' ⟨v, hd, hb⟩
  rcases hd with ⟨h1, h2, h3⟩ | ⟨h1, h2, h3⟩
  · exact ⟨v, by rw [decide_eq_true h1]; exact h2, by rw [if_pos h1]; exact h3, hb⟩
  · exact ⟨v, by rw [decide_eq_false (by omega)]; exact h2, by rw [if_neg (by omega)]; exact h3, hb⟩

theorem partsOf_both (s : ByteArray) : ∃ (b : Bool) (ls : List (List UInt8)), ls.length ≤ 10 ∧
    (∀ w, Calls Tryd.prog 4 #[.string s] w fun e w' => Ends b ls w e w') ∧
    (∀ w, Lib.TabIs Tryd.prog w "strings.asciiSpace" .u8 Lib.asciiSpaceTab → Calls Tryd.prog 5 #[.string s] w fun e w' => Ends b ls w e w') := by
  by_cases hs : 600 < s.size
  · exact ⟨false, [], by simp, fun w => specPartsOf_long s hs w, fun w _ => implPartsOf_long s hs w⟩
  · have hs' : s.size ≤ 600 := by omega
    rcases plain_or s.data.toList with hp | ⟨J, hJ, hp, hn⟩
    · refine ⟨_, _, ?_, fun w => ends_plain (specPartsOf_plain s hs' hp w), fun w ht => ends_plain (implPartsOf_plain s hs' hp w ht)⟩
      split
      · assumption
      · simp
    · exact ⟨false, [], by simp, fun w => specPartsOf_bad s hs' J hJ hp hn w, fun w _ => implPartsOf_bad s hs' J hJ hp hn w⟩

end Go.Proofs.YtcnnmpenahihnaiDoor
