/-
  The program's Unsealed and the given one by what they answer.
-/
import Derived.Test.YtmgccncdbkbcpaaDoorSeal
import Derived.Test.YtmgccncdbkbcpaaDoorShelf
namespace Go.Proofs.YtmgccncdbkbcpaaDoor
open Go.RowKit

set_option maxHeartbeats 400000 in
theorem clone_text (s : ByteArray) (hs : s.size ≤ 1048576) (w : World) :
    Calls Tryd.prog 31 #[.string s] w fun e w' => e = .returned (.string s) ∧ Below w.heap.size w w' := by
  have H := Lib.hid (fun w => Tryd.stringslite_Clone s w (by omega))
  go_enter Tryd.func31, Tryd.ntmps31
  go_wp2_with fail
  refine (H.out _).mono ?_
  rintro e w1 ⟨rfl, hb⟩
  go_wp2
  go_ret
  exact ⟨rfl, hb⟩

/-- A text is its cuts. -/
theorem cut_whole (s : ByteArray) (n : Nat) : s.data.toList = (s.extract 0 n).data.toList ++ (s.extract n s.size).data.toList := by
  have e := List.take_append_drop n s.data.toList
  have h1 : (s.extract 0 n).data.toList = s.data.toList.take n := by
    rw [ByteArray.data_extract, Array.toList_extract, List.extract_eq_take_drop]
    simp
  have h2 : (s.extract n s.size).data.toList = s.data.toList.drop n := by
    rw [ByteArray.data_extract, Array.toList_extract, List.extract_eq_take_drop]
    exact List.take_of_length_le (by simp)
  rw [h1, h2, e]

theorem byteArray_eq {a b : ByteArray} (h : a.data.toList = b.data.toList) : a = b := ByteArray.ext (Array.toList_inj.1 h)

theorem texts_apart {a b : ByteArray} (h : ¬ a = b) : (a.toList == b.toList) = false := by
  rw [beq_eq_false_iff_ne]
  intro e
  apply h
  rw [ByteArray.toList_eq, ByteArray.toList_eq] at e
  exact byteArray_eq e

theorem implUnsealed_short (s : ByteArray) (hs : s.size < 4) (w : World) :
    Calls Tryd.prog 19 #[.string s] w fun e w' => e = .returned (.tuple #[.string ⟨#[]⟩, .bool false]) ∧ Below w.heap.size w w' := by
  have h7 : (s.size : Int) - 4 < 0 := by omega
  go_enter Tryd.func19, Tryd.ntmps19
  go_wp2
  go_ret2
  exact ⟨rfl, Below.refl _ _⟩

set_option maxRecDepth 100000 in
set_option maxHeartbeats 400000 in
theorem implUnsealed_long (s : ByteArray) (hs : s.size ≤ 1048576) (h4 : 20004 < s.size) (w : World) :
    Calls Tryd.prog 19 #[.string s] w fun e w' => e = .returned (.tuple #[.string ⟨#[]⟩, .bool false]) ∧ Below w.heap.size w w' := by
  have h5 : (s.extract 0 (s.size - 4)).size = s.size - 4 := by simp [ByteArray.size_extract]
  have H1 := Lib.hid (fun w => implSealed_no (s.extract 0 (s.size - 4)) (by omega) w)
  have h6 : ((s.size : Int) - 4).toNat = s.size - 4 := by omega
  have h7 : ¬ ((s.size : Int) - 4 < 0) := by omega
  clear h5
  go_enter Tryd.func19, Tryd.ntmps19
  go_wp2_with fail
  refine (H1.out _).mono ?_
  rintro e w1 ⟨rfl, hb⟩
  go_wp2
  go_ret2
  exact ⟨rfl, hb⟩

set_option maxRecDepth 100000 in
set_option maxHeartbeats 400000 in
theorem implUnsealed_wrong (s : ByteArray) (h4 : 4 ≤ s.size) (h5 : s.size ≤ 20004) (hne : ¬ (⟨(sealedOf (s.extract 0 (s.size - 4)).data.toList).toArray⟩ : ByteArray) = s) (w : World) (ht : Laid w) :
    Calls Tryd.prog 19 #[.string s] w fun e w' => e = .returned (.tuple #[.string ⟨#[]⟩, .bool false]) ∧ Below w.heap.size w w' := by
  have h8 : (s.extract 0 (s.size - 4)).size = s.size - 4 := by simp [ByteArray.size_extract]
  have H1 := Lib.hid (implSealed_yes (s.extract 0 (s.size - 4)) (by omega) w ht)
  have h6 : ((s.size : Int) - 4).toNat = s.size - 4 := by omega
  have h7 : ¬ ((s.size : Int) - 4 < 0) := by omega
  generalize (⟨(sealedOf (s.extract 0 (s.size - 4)).data.toList).toArray⟩ : ByteArray) = u at hne H1
  have hq : (u.toList == s.toList) = false := texts_apart hne
  clear h8 ht hne
  go_enter Tryd.func19, Tryd.ntmps19
  go_wp2_with fail
  refine (H1.out).mono ?_
  rintro e w1 ⟨rfl, hb⟩
  go_wp2
  go_ret2
  exact ⟨rfl, hb⟩

set_option maxRecDepth 100000 in
set_option maxHeartbeats 400000 in
theorem implUnsealed_right (s : ByteArray) (h4 : 4 ≤ s.size) (h5 : s.size ≤ 20004) (he : (⟨(sealedOf (s.extract 0 (s.size - 4)).data.toList).toArray⟩ : ByteArray) = s) (w : World) (ht : Laid w) :
    Calls Tryd.prog 19 #[.string s] w fun e w' => e = .returned (.tuple #[.string (s.extract 0 (s.size - 4)), .bool true]) ∧ Below w.heap.size w w' := by
  have h8 : (s.extract 0 (s.size - 4)).size = s.size - 4 := by simp [ByteArray.size_extract]
  have H1 := Lib.hid (implSealed_yes (s.extract 0 (s.size - 4)) (by omega) w ht)
  rw [he] at H1
  have H2 := Lib.hid (clone_text (s.extract 0 (s.size - 4)) (by omega))
  have h6 : ((s.size : Int) - 4).toNat = s.size - 4 := by omega
  have h7 : ¬ ((s.size : Int) - 4 < 0) := by omega
  clear h8 ht he
  go_enter Tryd.func19, Tryd.ntmps19
  go_wp2_with fail
  refine (H1.out).mono ?_
  rintro e w1 ⟨rfl, hb⟩
  go_wp2_with fail
  refine (H2.out _).mono ?_
  rintro e w2 ⟨rfl, hb2⟩
  go_wp2
  go_ret2
  exact ⟨rfl, hb.trans (hb2.mono hb.size)⟩

theorem unsealed_same (s : ByteArray) : (⟨(sealedOf (s.extract 0 (s.size - 4)).data.toList).toArray⟩ : ByteArray) = s ↔ s.extract (s.size - 4) s.size = ⟨(four (sumL 4294967295 (s.extract 0 (s.size - 4)).data.toList)).toArray⟩ := by
  have e := cut_whole s (s.size - 4)
  constructor
  · intro h
    have h1 := congrArg (fun b : ByteArray => b.data.toList) h
    simp only [sealedOf] at h1
    refine byteArray_eq ?_
    rw [e] at h1
    exact (List.append_cancel_left h1).symm
  · intro h
    have h1 := congrArg (fun b : ByteArray => b.data.toList) h
    refine byteArray_eq ?_
    simp only at h1
    rw [h1] at e
    exact e.symm

end Go.Proofs.YtmgccncdbkbcpaaDoor
