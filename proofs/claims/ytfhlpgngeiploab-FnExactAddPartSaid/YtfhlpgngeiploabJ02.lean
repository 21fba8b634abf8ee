/-
  Plain mathematics of decimal figures; no program is spoken of here.
-/
import Derived.Test.YtfhlpgngeiploabJ01
import Derived.Lib.ItoaNum
import Derived.Lib.ItoaLen
import Derived.Lib.ItoaMem
namespace Go.Proofs.Ytfhlpgngeiploab

/-- The figures of a number; none for 0. -/
def digs (m : Nat) : List UInt8 := if m = 0 then [] else Lib.decDigits m

theorem digs_pos (m : Nat) (h : 1 ≤ m) : digs m = Lib.decDigits m := by unfold digs; rw [if_neg (by omega)]

theorem digs_step (m : Nat) (h : 1 ≤ m) : digs m = digs (m / 10) ++ [fig (m % 10)] := by
  have hf : fig (m % 10) = UInt8.ofNat (48 + m % 10) := by unfold fig; rw [if_pos (by omega)]
  rw [digs_pos m h, hf]
  by_cases hs : m < 10
  · rw [Lib.decDigits_one hs]
    have e : m / 10 = 0 := by omega
    have e2 : m % 10 = m := by omega
    rw [e, e2]
    rfl
  · rw [digs_pos (m / 10) (by omega), Lib.decDigits, dif_neg hs]

theorem digs_length (m : Nat) (h : m ≤ 9223372036854775808) : (digs m).length ≤ 21 := by
  unfold digs
  split
  · simp
  · have h2 := Lib.itoa_length_le (-(m : Int)) (by omega) (by omega)
    rw [Lib.itoa_neg m (by omega)] at h2
    simp at h2
    omega

theorem cat_list (a b : List UInt8) : ((⟨a.toArray⟩ : ByteArray) ++ (⟨b.toArray⟩ : ByteArray)) = ⟨(a ++ b).toArray⟩ := by
  apply ByteArray.ext
  simp

end Go.Proofs.Ytfhlpgngeiploab
