/-
  What the program's functions of signatures give: the contracts by name; both sides tell the same.
-/
import Derived.Test.YtogmmilfdolpnamDoorRoundImpl
import Derived.Test.YtogmmilfdolpnamDoorCheckSpec
namespace Go.Proofs.YtogmmilfdolpnamDoor
open Go.RowKit

theorem sig_halves (text : ByteArray) (h : text.size = 8) : text.extract 0 4 ++ text.extract 4 8 = text := by
  apply ByteArray.ext
  apply Array.ext'
  rw [ByteArray.data_append, Array.toList_append, ByteArray.data_extract, ByteArray.data_extract, Array.toList_extract, Array.toList_extract, List.extract_eq_take_drop, List.extract_eq_take_drop]
  have hl : text.data.toList.length = 8 := by simpa using h
  have e : List.take (8 - 4) (List.drop 4 text.data.toList) = List.drop 4 text.data.toList := List.take_of_length_le (by simp; omega)
  rw [e]
  show List.take 4 text.data.toList ++ _ = _
  exact List.take_append_drop 4 _
theorem four_back (a b c d : UInt8) : four (fourNum a b c d) = [a, b, c, d] := by
  have ha := a.toNat_lt
  have hb := b.toNat_lt
  have hc := c.toNat_lt
  have hd := d.toNat_lt
  have e : ∀ (x : UInt8) (n : Nat), n % 256 = x.toNat → UInt8.ofNat n = x := fun x n h => by
    apply UInt8.toNat_inj.1
    rw [UInt8.toNat_ofNat']
    exact h
  unfold four fourNum
  rw [e a _ (by omega), e b _ (by omega), e c _ (by omega), e d _ (by omega)]
theorem numB_back (l : ByteArray) (h : l.size = 4) : numB (fourBack l.data.toList) = l := by
  obtain ⟨a, b, c, d, rfl⟩ := four_bytes l h
  apply ByteArray.ext
  apply Array.ext'
  show four (fourBack [a, b, c, d]) = [a, b, c, d]
  exact four_back a b c d
end Go.Proofs.YtogmmilfdolpnamDoor
