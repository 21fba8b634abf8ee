/-
  The given rows of words of digests: the words of a text, the bytes of words, the tables.
-/
import Derived.Test.YtoaifgblbfdncabDoorJ21
import Derived.Test.YtoaifgblbfdncabDoorJ22
namespace Go.Proofs.YtoaifgblbfdncabDoor
open Go.RowKit

theorem infoWord : (Tryd.prog.info? 57).map (fun i => (i.zero, i.size, i.bytes)) = some (some (.int .u32 0), 1, 4) := by kernel_rfl
theorem infoByteS : (Tryd.prog.info? 5).map (fun i => (i.zero, i.size, i.bytes)) = some (some (.int .u8 0), 1, 1) := by kernel_rfl

set_option maxRecDepth 100000 in
set_option maxHeartbeats 800000 in
theorem specWords_any (s : ByteArray) (hs : s.size ≤ 1048576) (w : World) :
    Calls Tryd.prog 47 #[.string s] w fun e w' => ∃ v, e = .returned v ∧ OwnW w' w.heap.size 57 v (wordsOf s.data.toList) ∧ Below w.heap.size w w' := by
  obtain ⟨i0, hi, hz0, hz1, hz2⟩ := info_parts infoWord
  go_enter Tryd.func47, Tryd.ntmps47
  go_wp2
  go_loopw [3, 4] (fun v i wr => ∃ k : Nat, 4 * k ≤ s.size ∧ i = .int .i64 ((4 * k : Nat) : Int) ∧ OwnW wr w.heap.size 57 v (wordsUp s.data.toList k) ∧ Below w.heap.size w wr) (fun _ i _ => s.size - (intOf i).toNat)
  case atStart =>
    exact ⟨0, by omega, rfl, OwnW.lit _ _ _ (Nat.le_refl _), (Below.refl _ _).alloc (Nat.le_refl _) _⟩
  case round =>
    obtain ⟨k, hk, rfl, hown, hnx⟩ := hrel
    obtain ⟨m, hm, HM⟩ : ∃ m : Nat, m ≤ s.size ∧ Hid (m = 4 * k) := ⟨4 * k, hk, rfl⟩
    rw [← HM.out]
    have hsz := hnx.size
    have hl := wordsUp_length s.data.toList k
    by_cases hlt : m + 4 ≤ s.size
    · have h1 : (m : Int) + 4 ≤ (s.size : Int) := by omega
      have H1 := Lib.hid (specWord_any s m (by omega) (by omega))
      have HO := Lib.hid hown
      have HN := Lib.hid hnx
      have lt := wordAt_lt s.data.toList m
      generalize hwa : wordAt s.data.toList m = z at H1 lt
      have HZ := Lib.hid hwa
      clear hown hnx hwa
      go_wp2_with fail
      refine (H1.out _).mono ?_
      rintro e w1 ⟨rfl, hb1⟩
      have hown := HO.out.below hb1
      have hsz1 : w.heap.size ≤ w1.heap.size := Nat.le_trans hsz hb1.size
      go_wp2_with (at_builtin; refine wpList_pushW _ rfl _ _ 71 rfl w.heap.size 57 i0 Tryd.underlying71 hi hz0 hz1 hz2 _ _ rfl hown z _ rfl rfl (by omega) hsz1 ?_)
      intro v' w2 hown2 hnx2
      go_wp2
      go_roundw
      case rel =>
        have e1 := HM.out
        refine ⟨k + 1, by omega, by rw [e1]; go_num, ?_, (HN.out.trans (hb1.mono hsz)).trans hnx2⟩
        rw [wordsUp_succ, ← e1, HZ.out]
        exact hown2
      case measure => simp [intOf]; omega
    · have h1 : ¬ ((m : Int) + 4 ≤ (s.size : Int)) := by omega
      have e2 : k = s.data.toList.length / 4 := by have := HM.out; simp; omega
      have HO := Lib.hid hown
      have HN := Lib.hid hnx
      clear hown hnx
      go_wp2
      go_ret
      exact ⟨_, rfl, by unfold wordsOf; rw [← e2]; exact HO.out, HN.out⟩

theorem four_ints (x : Nat) (hx : x < 4294967296) : ((x : Int) / 16777216 = ((UInt8.ofNat (x / 16777216)).toNat : Int)) ∧ ((x : Int) / 65536 % 256 = ((UInt8.ofNat (x / 65536 % 256)).toNat : Int)) ∧ ((x : Int) / 256 % 256 = ((UInt8.ofNat (x / 256 % 256)).toNat : Int)) ∧ ((x : Int) % 256 = ((UInt8.ofNat (x % 256)).toNat : Int)) := by
  refine ⟨?_, ?_, ?_, ?_⟩ <;> rw [UInt8.toNat_ofNat'] <;> omega

theorem bytesOf_take (l : List Nat) (k : Nat) (h : k < l.length) : bytesOf (l.take (k + 1)) = bytesOf (l.take k) ++ four (l.getD k 0) := by
  rw [List.take_add_one, bytesOf_append, List.getElem?_eq_getElem h, List.getD_eq_getElem?_getD, List.getElem?_eq_getElem h]
  simp [bytesOf]

set_option maxRecDepth 100000 in
set_option maxHeartbeats 800000 in
theorem specBytes_any (g c : Nat) (xs : List Nat) (hw : Words xs) (hn : xs.length ≤ 1000000) (w : World) (hc : ∀ j, j < xs.length → w.cell? ⟨g, j, none⟩ = some (.int .u32 (xs.getD j 0 : Nat))) (hg : g < w.heap.size) :
    Calls Tryd.prog 50 #[.slice (some ⟨g, 0, none⟩) xs.length c] w fun e w' => e = .returned (.string ⟨(bytesOf xs).toArray⟩) ∧ Below w.heap.size w w' := by
  obtain ⟨i0, hi, hz0, hz1, hz2⟩ := info_parts infoByteS
  have HC := Lib.hid hc
  clear hc
  obtain ⟨n, hnn, HN⟩ : ∃ n : Nat, n ≤ 1000000 ∧ Hid (n = xs.length) := ⟨_, hn, rfl⟩
  rw [← HN.out]
  go_enter Tryd.func50, Tryd.ntmps50
  go_wp2
  go_loopw [3, 4] (fun v i wr => ∃ k : Nat, k ≤ n ∧ i = .int .i64 (k : Int) ∧ OwnB wr w.heap.size 5 v (bytesOf (xs.take k)) ∧ Below w.heap.size w wr) (fun _ i _ => n - (intOf i).toNat)
  case atStart =>
    exact ⟨0, by omega, rfl, OwnB.lit _ _ _ (Nat.le_refl _), (Below.refl _ _).alloc (Nat.le_refl _) _⟩
  case round =>
    obtain ⟨k, hk, rfl, hown, hnx⟩ := hrel
    have hsz := hnx.size
    have HW := Lib.hid hnx
    have hl : (bytesOf (xs.take k)).length = 4 * k := by rw [bytesOf_length, List.length_take]; have := HN.out; omega
    by_cases hlt : k < n
    · have h1 : (k : Int) < (n : Int) := by omega
      have hck : wr.cell? ⟨g, k, none⟩ = some (.int .u32 (xs.getD k 0 : Nat)) := by rw [hnx.cell (p := ⟨g, k, none⟩) hg]; exact HC.out k (by have := HN.out; omega)
      have hx := hw.at k
      have e3 : bytesOf (xs.take (k + 1)) = bytesOf (xs.take k) ++ four (xs.getD k 0) := bytesOf_take xs k (by have := HN.out; omega)
      have E3 := Lib.hid e3
      clear hnx e3
      generalize xs.getD k 0 = x at hck hx E3
      have Q := Lib.hid (four_ints x hx)
      go_wp2_with (at_builtin; refine wpList_push4 _ rfl _ _ 70 rfl w.heap.size 5 i0 Tryd.underlying70 hi hz0 hz1 hz2 _ _ rfl hown _ _ _ _ _ _ _ _ rfl Q.out.1 Q.out.2.1 Q.out.2.2.1 Q.out.2.2.2 (by omega) hsz ?_)
      intro v' w2 hown2 hnx2
      go_wp2
      go_roundw
      case rel =>
        refine ⟨k + 1, by omega, by go_num, ?_, HW.out.trans hnx2⟩
        rw [E3.out]
        exact hown2
      case measure => simp [intOf]; omega
    · have h1 : ¬ ((k : Int) < (n : Int)) := by omega
      have e2 : xs.take k = xs := List.take_of_length_le (by have := HN.out; omega)
      rw [e2] at hown
      clear e2 hl
      have hcv := run_string_own (P := Tryd.prog) wr 70 9 5 Tryd.underlying70 Tryd.underlying5 Tryd.underlying9 _ hown
      go_wp2
      go_ret
      exact ⟨rfl, HW.out⟩

set_option maxRecDepth 100000 in
set_option maxHeartbeats 800000 in
theorem specK_any (w : World) :
    Calls Tryd.prog 48 #[] w fun e w' => ∃ g c, e = .returned (.slice (some ⟨g, 0, none⟩) 64 c) ∧ g < w'.heap.size ∧ (∀ j, j < 64 → w'.cell? ⟨g, j, none⟩ = some (.int .u32 (kTab.getD j 0 : Nat))) ∧ Below w.heap.size w w' := by
  have h := World.ownsRow_lit (base := w.heap.size) (e := 57) (size := 1) w (wcells kTab).toArray 64 (Nat.le_refl _) (by decide) rfl
  have hown : OwnW (w.alloc (.cells (wcells kTab).toArray 57)) w.heap.size 57 (Value.slice (some ⟨w.heap.size, 0, none⟩) 64 64) kTab := h
  have HO := Lib.hid (hown.cell rfl)
  clear h hown
  go_enter Tryd.func48, Tryd.ntmps48
  go_wp2
  go_ret
  exact ⟨w.heap.size, 64, rfl, by simp, HO.out, (Below.refl _ _).alloc (Nat.le_refl _) _⟩

set_option maxRecDepth 100000 in
set_option maxHeartbeats 800000 in
theorem specFirst_any (w : World) :
    Calls Tryd.prog 51 #[] w fun e w' => ∃ g c, e = .returned (.slice (some ⟨g, 0, none⟩) 8 c) ∧ g < w'.heap.size ∧ (∀ j, j < 8 → w'.cell? ⟨g, j, none⟩ = some (.int .u32 (firstState.getD j 0 : Nat))) ∧ Below w.heap.size w w' := by
  have h := World.ownsRow_lit (base := w.heap.size) (e := 57) (size := 1) w (wcells firstState).toArray 8 (Nat.le_refl _) (by decide) rfl
  have hown : OwnW (w.alloc (.cells (wcells firstState).toArray 57)) w.heap.size 57 (Value.slice (some ⟨w.heap.size, 0, none⟩) 8 8) firstState := h
  have HO := Lib.hid (hown.cell rfl)
  clear h hown
  go_enter Tryd.func51, Tryd.ntmps51
  go_wp2
  go_ret
  exact ⟨w.heap.size, 8, rfl, by simp, HO.out, (Below.refl _ _).alloc (Nat.le_refl _) _⟩

end Go.Proofs.YtoaifgblbfdncabDoor
