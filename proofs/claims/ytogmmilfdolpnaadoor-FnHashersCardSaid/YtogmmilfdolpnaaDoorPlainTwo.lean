/-
  Plain mathematics of digests: a text that comes in parts; no program is spoken of here.
-/
import Derived.Test.YtogmmilfdolpnaaDoorPlainHasher
namespace Go.Proofs.YtogmmilfdolpnaaDoor
open Go.RowKit

theorem eatUp_add (s0 : List Nat) (l : List UInt8) (q j : Nat) : eatUp s0 l (q + j) = eatUp (eatUp s0 l q) (l.drop (64 * q)) j := by
  induction j with
  | zero => rfl
  | succ j ih =>
    show roundOf (eatUp s0 l (q + j)) (blockAt l (q + j)) = roundOf (eatUp (eatUp s0 l q) (l.drop (64 * q)) j) (blockAt (l.drop (64 * q)) j)
    rw [ih]
    congr 1
    unfold blockAt
    rw [List.drop_drop]
    congr 2
    omega
theorem eatUp_front (s0 : List Nat) (l m : List UInt8) (q : Nat) (h : 64 * q ≤ l.length) : eatUp s0 (l ++ m) q = eatUp s0 l q := by
  induction q with
  | zero => rfl
  | succ q ih =>
    show roundOf (eatUp s0 (l ++ m) q) (blockAt (l ++ m) q) = roundOf (eatUp s0 l q) (blockAt l q)
    rw [ih (by omega)]
    congr 1
    unfold blockAt
    rw [List.drop_append_of_le_length (by omega), List.take_append_of_le_length (by rw [List.length_drop]; omega)]

/-- The state's bytes and the rest behind a text. -/
def hState (a : ByteArray) : ByteArray := ⟨(bytesOf (moreState ⟨(bytesOf firstState).toArray⟩ ⟨#[]⟩ a)).toArray⟩
def hRest (a : ByteArray) : ByteArray := ⟨(moreRest ⟨#[]⟩ a).toArray⟩
theorem first_words (a : ByteArray) : moreState ⟨(bytesOf firstState).toArray⟩ ⟨#[]⟩ a = eatUp firstState a.data.toList (a.size / 64) := by
  unfold moreState
  have e : (⟨(bytesOf firstState).toArray⟩ : ByteArray).data.toList = bytesOf firstState := rfl
  have e0 : (⟨#[]⟩ : ByteArray).size = 0 := rfl
  rw [e, e0, Nat.zero_add, wordsOf_bytesOf firstState firstState_words]
  rfl
theorem rest_list (a : ByteArray) : (hRest a).data.toList = a.data.toList.drop (64 * (a.size / 64)) := by
  have e0 : (⟨#[]⟩ : ByteArray).size = 0 := rfl
  unfold hRest moreRest
  rw [e0, Nat.zero_add]
  rfl
theorem rest_size (a : ByteArray) : (hRest a).size = a.size % 64 := by
  have h : (hRest a).size = (hRest a).data.toList.length := by simp
  rw [h, rest_list, List.length_drop]
  have : a.data.toList.length = a.size := by simp
  omega
theorem more_two (a b : ByteArray) : moreState (hState a) (hRest a) b = moreState ⟨(bytesOf firstState).toArray⟩ ⟨#[]⟩ (a ++ b) := by
  have hw : Words (eatUp firstState a.data.toList (a.size / 64)) := eatUp_words _ _ firstState_words _
  have hl : a.data.toList.length = a.size := by simp
  rw [first_words (a ++ b)]
  unfold moreState
  have e : (hState a).data.toList = bytesOf (eatUp firstState a.data.toList (a.size / 64)) := by
    unfold hState
    rw [first_words a]
  rw [e, wordsOf_bytesOf _ hw, rest_list, rest_size]
  have e2 : (a ++ b).data.toList = a.data.toList ++ b.data.toList := by simp
  have e3 : (a ++ b).size / 64 = a.size / 64 + (a.size % 64 + b.size) / 64 := by rw [ByteArray.size_append]; omega
  have d1 : (a.data.toList ++ b.data.toList).drop (64 * (a.size / 64)) = a.data.toList.drop (64 * (a.size / 64)) ++ b.data.toList := List.drop_append_of_le_length (by rw [hl]; omega)
  have d2 := eatUp_front firstState a.data.toList b.data.toList (a.size / 64) (by rw [hl]; omega)
  rw [e2, e3, eatUp_add, d1, d2]
theorem rest_two (a b : ByteArray) : moreRest (hRest a) b = moreRest ⟨#[]⟩ (a ++ b) := by
  have e0 : (⟨#[]⟩ : ByteArray).size = 0 := rfl
  have hl : a.data.toList.length = a.size := by simp
  have e2 : (a ++ b).data.toList = a.data.toList ++ b.data.toList := by simp
  have e3 : 64 * ((a ++ b).size / 64) = 64 * (a.size / 64) + 64 * ((a.size % 64 + b.size) / 64) := by rw [ByteArray.size_append]; omega
  unfold moreRest
  rw [rest_list, rest_size, e0, Nat.zero_add, e3]
  show _ = List.drop _ ([] ++ (a ++ b).data.toList)
  have d1 : (a.data.toList ++ b.data.toList).drop (64 * (a.size / 64)) = a.data.toList.drop (64 * (a.size / 64)) ++ b.data.toList := List.drop_append_of_le_length (by rw [hl]; omega)
  rw [List.nil_append, e2, ← List.drop_drop, d1]
theorem hState_size (a : ByteArray) : (hState a).size = 32 := by
  show (bytesOf _).toArray.size = 32
  rw [List.size_toArray, bytesOf_length, first_words, eatUp_length _ _ rfl]
theorem hOk (a : ByteArray) (h : a.size ≤ 1000000000) : HOk (hState a) (hRest a) (a.size : Nat) := by
  refine ⟨hState_size a, ?_, by omega, by omega, ?_⟩
  · rw [rest_size]; omega
  · rw [rest_size]; omega
theorem hState_empty : hState ⟨#[]⟩ = ⟨(bytesOf firstState).toArray⟩ := by
  unfold hState
  rw [first_words]
  rfl
theorem hRest_empty : hRest ⟨#[]⟩ = ⟨#[]⟩ := rfl
theorem two_join (s : ByteArray) (k : Nat) : s.extract 0 k ++ s.extract k s.size = s := by
  apply ByteArray.ext
  apply Array.ext'
  have hl : s.data.toList.length = s.size := by simp
  simp only [ByteArray.data_append, ByteArray.data_extract, Array.toList_append, Array.toList_extract, List.extract_eq_take_drop, List.drop_zero, Nat.sub_zero]
  rw [List.take_of_length_le (l := List.drop k s.data.toList) (by rw [List.length_drop, hl]; omega), List.take_append_drop]

end Go.Proofs.YtogmmilfdolpnaaDoor
