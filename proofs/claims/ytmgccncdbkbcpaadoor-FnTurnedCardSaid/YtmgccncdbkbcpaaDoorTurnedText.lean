/-
  What the program answers of a short text that is sealed, and of one whose one byte is turned then.
-/
import Derived.Test.YtmgccncdbkbcpaaDoorUnseal
namespace Go.Proofs.YtmgccncdbkbcpaaDoor
open Go.RowKit

theorem sealed_cut (s : ByteArray) : ((⟨(sealedOf s.data.toList).toArray⟩ : ByteArray).extract 0 ((⟨(sealedOf s.data.toList).toArray⟩ : ByteArray).size - 4)) = s := by
  have hz : (⟨(sealedOf s.data.toList).toArray⟩ : ByteArray).size = s.size + 4 := by
    show (sealedOf s.data.toList).toArray.size = s.size + 4
    simp [sealedOf, four_length]
  rw [hz]
  refine byteArray_eq ?_
  rw [ByteArray.data_extract, Array.toList_extract, List.extract_eq_take_drop]
  simp [sealedOf]

theorem split_at (t : List UInt8) (k : Nat) (hk : k < t.length) (b : UInt8) : t = t.take k ++ t[k] :: t.drop (k + 1) ∧ t.set k b = t.take k ++ b :: t.drop (k + 1) := by
  constructor
  · rw [List.getElem_cons_drop, List.take_append_drop]
  · rw [List.set_eq_take_append_cons_drop, if_pos hk]

theorem turned_text (s : ByteArray) (hs : s.size ≤ 39) : ∃ t : ByteArray, t.size = s.size + 4 ∧
    (∀ w, Laid w → Calls Tryd.prog 18 #[.string s] w fun e w' => e = .returned (.tuple #[.string t, .bool true]) ∧ Below w.heap.size w w') ∧
    (∀ w, Laid w → Calls Tryd.prog 19 #[.string t] w fun e w' => e = .returned (.tuple #[.string s, .bool true]) ∧ Below w.heap.size w w') ∧
    (∀ (k : Nat) (hk : k < t.data.toList.length) (b : UInt8), b ≠ t.data.toList[k] → ∀ w, Laid w → Calls Tryd.prog 19 #[.string ⟨(t.data.toList.set k b).toArray⟩] w fun e w' => e = .returned (.tuple #[.string ⟨#[]⟩, .bool false]) ∧ Below w.heap.size w w') := by
  have hz : (⟨(sealedOf s.data.toList).toArray⟩ : ByteArray).size = s.size + 4 := by
    show (sealedOf s.data.toList).toArray.size = s.size + 4
    simp [sealedOf, four_length]
  refine ⟨⟨(sealedOf s.data.toList).toArray⟩, hz, fun w ht => implSealed_yes s (by omega) w ht, fun w ht => ?_, fun k hk b hb w ht => ?_⟩
  · have h := implUnsealed_right ⟨(sealedOf s.data.toList).toArray⟩ (by omega) (by omega) (by rw [sealed_cut]) w ht
    rw [sealed_cut] at h
    exact h
  · have hz2 : (⟨((sealedOf s.data.toList).set k b).toArray⟩ : ByteArray).size = s.size + 4 := by
      show ((sealedOf s.data.toList).set k b).toArray.size = s.size + 4
      simp [sealedOf, four_length]
    refine implUnsealed_wrong ⟨((sealedOf s.data.toList).set k b).toArray⟩ (by omega) (by omega) (fun e => ?_) w ht
    have e2 := congrArg (fun x : ByteArray => x.data.toList) e
    simp only at e2
    obtain ⟨p1, p2⟩ := split_at (sealedOf s.data.toList) k hk b
    exact sealed_turned 4294967295 (by omega) s.data.toList _ _ _ _ _ (Ne.symm hb) p1 (e2.trans p2)

/-- A sum that goes on by one byte. -/
theorem sum_on (s : ByteArray) : sumL (sumL 4294967295 s.data.toList) [120] = sumL 4294967295 (s ++ (⟨#[120]⟩ : ByteArray)).data.toList := by
  rw [show (s ++ (⟨#[120]⟩ : ByteArray)).data.toList = s.data.toList ++ [120] by simp, sumL_append]

end Go.Proofs.YtmgccncdbkbcpaaDoor
