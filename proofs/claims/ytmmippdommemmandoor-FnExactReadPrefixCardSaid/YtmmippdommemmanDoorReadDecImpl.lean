/-
  The program's ReadDecimal by what it answers at every text; and that both answer one value.
-/
import Derived.Test.YtmmippdommemmanDoorReadDecSpec
import Derived.Test.YtmmippdommemmanDoorWorths
namespace Go.Proofs.YtmmippdommemmanDoor
open Go.RowKit

theorem not_empty (s : ByteArray) (h : 0 < s.size) : s.toList.isEmpty = false := by
  have h2 : s.data.toList.length = s.size := by simp
  rw [ByteArray.toList_eq, List.isEmpty_eq_false_iff]
  intro e
  rw [e] at h2
  simp at h2
  omega

/-- What stands behind the first test. -/
def Led (s : ByteArray) : Prop := s.size = 1 ∨ ∃ h : 1 < s.size, (s[0]'(by omega)).toNat ≠ 48

theorem H0 (s : ByteArray) (qs : List Nat) (tail : List UInt8) (h1 : ∀ q ∈ qs, q < 10) (h2 : s.data.toList = qs.map fig ++ tail) (hp : 0 < s.size) (hq : 0 < qs.length) : (s[0]'hp).toNat = 48 + qs.getD 0 0 := by
  rw [byte_at s 0 hp _ (by rw [h2]; exact at_fig qs tail 0 hq)]
  refine digit_toNat _ (h1 _ ?_)
  rw [List.getD_eq_getElem?_getD, List.getElem?_eq_getElem hq]
  exact List.getElem_mem hq

end Go.Proofs.YtmmippdommemmanDoor
