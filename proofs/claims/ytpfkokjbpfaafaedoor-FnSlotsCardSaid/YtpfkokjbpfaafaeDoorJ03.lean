/-
  Plain mathematics of figures: two for each byte, and back; no program is spoken of here.
  Plain mathematics of decimal figures; no program is spoken of here.
-/
import Derived.WalkKit
import Derived.Lib.ItoaNum
import Derived.Lib.ItoaLen
import Derived.Lib.ItoaMem
namespace Go.Proofs.YtpfkokjbpfaafaeDoor

/-- The figure of a worth below 16. -/
def fig (x : Nat) : UInt8 := if x < 10 then UInt8.ofNat (48 + x) else UInt8.ofNat (87 + x)

def hexOf (l : List UInt8) : List UInt8 := l.flatMap fun b => [fig (b.toNat / 16), fig (b.toNat % 16)]

theorem hexOf_snoc (l : List UInt8) (b : UInt8) : hexOf (l ++ [b]) = hexOf l ++ [fig (b.toNat / 16), fig (b.toNat % 16)] := by simp [hexOf]

theorem hexOf_length (l : List UInt8) : (hexOf l).length = 2 * l.length := by
  induction l with
  | nil => rfl
  | cons b l ih =>
    have e : hexOf (b :: l) = fig (b.toNat / 16) :: fig (b.toNat % 16) :: hexOf l := rfl
    rw [e, List.length_cons, List.length_cons, List.length_cons, ih]
    omega

theorem fig_toNat (x : Nat) (h : x < 16) : (fig x).toNat = if x < 10 then 48 + x else 87 + x := by
  unfold fig
  split <;> simp <;> omega

theorem take_snoc (s : ByteArray) (k : Nat) (h : k < s.size) : s.data.toList.take (k + 1) = s.data.toList.take k ++ [s[k]] := by
  rw [List.take_succ_eq_append_getElem (by simpa using h)]; rfl

theorem figs_get : ∀ (q : Nat) (h : q < 16), ((⟨#[48, 49, 50, 51, 52, 53, 54, 55, 56, 57, 97, 98, 99, 100, 101, 102]⟩ : ByteArray)[q]'(by exact h)) = fig q := by
  intro q h
  have : ∀ q : Fin 16, ((⟨#[48, 49, 50, 51, 52, 53, 54, 55, 56, 57, 97, 98, 99, 100, 101, 102]⟩ : ByteArray)[q.1]'(by exact q.2)) = fig q.1 := by decide
  exact this ⟨q, h⟩

theorem figs_int (q : Nat) (h : (q : Int) < 16) : ((((⟨#[48, 49, 50, 51, 52, 53, 54, 55, 56, 57, 97, 98, 99, 100, 101, 102]⟩ : ByteArray)[q]'(show q < 16 by omega)).toNat : Nat) : Int) = ((fig q).toNat : Int) := by
  rw [figs_get q (by omega)]

end Go.Proofs.YtpfkokjbpfaafaeDoor
namespace Go.Proofs.YtpfkokjbpfaafaeDoor

/-- The figures of a number; none for 0. -/
def digs (m : Nat) : List UInt8 := if m = 0 then [] else Lib.decDigits m

theorem digs_pos (m : Nat) (h : 1 ≤ m) : digs m = Lib.decDigits m := by unfold digs; rw [if_neg (by omega)]

theorem digs_step (m : Nat) (h : 1 ≤ m) : digs m = digs (m / 10) ++ [fig (m % 10)] := by
  have hf : fig (m % 10) = UInt8.ofNat (48 + m % 10) := by unfold fig; rw [if_pos (by omega)]
  rw [digs_pos m h, hf]
  by_cases hs : m < 10
  · rw [Lib.decDigits_one hs]
    have e : m / 10 = 0 := by omega
    have e2 : m % 10 = m := by omega
    rw [e, e2]
    rfl
  · rw [digs_pos (m / 10) (by omega), Lib.decDigits, dif_neg hs]

theorem digs_length (m : Nat) (h : m ≤ 9223372036854775808) : (digs m).length ≤ 21 := by
  unfold digs
  split
  · simp
  · have h2 := Lib.itoa_length_le (-(m : Int)) (by omega) (by omega)
    rw [Lib.itoa_neg m (by omega)] at h2
    simp at h2
    omega

theorem neg_tmod10 (m : Nat) : (-(m : Int)).tmod 10 = -((m % 10 : Nat) : Int) := by
  rw [Int.neg_tmod, Int.tmod_eq_emod_of_nonneg (by omega)]
  omega

theorem neg_tdiv10 (m : Nat) : (-(m : Int)).tdiv 10 = -((m / 10 : Nat) : Int) := by
  rw [Int.neg_tdiv, Int.tdiv_eq_ediv_of_nonneg (by omega)]
  omega

theorem cat_list (a b : List UInt8) : ((⟨a.toArray⟩ : ByteArray) ++ (⟨b.toArray⟩ : ByteArray)) = ⟨(a ++ b).toArray⟩ := by
  apply ByteArray.ext
  simp

end Go.Proofs.YtpfkokjbpfaafaeDoor
