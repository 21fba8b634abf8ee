/-
  Plain mathematics of sums under a key; no program is spoken of here.
-/
import Derived.Test.YtogmmilfdolpnakDoorPlainHasher
namespace Go.Proofs.YtogmmilfdolpnakDoor
open Go.RowKit

/-- The digest of a text. -/
def digP (s : ByteArray) : ByteArray := ⟨(endOf ⟨(bytesOf (moreState ⟨(bytesOf firstState).toArray⟩ ⟨#[]⟩ s)).toArray⟩ ⟨(moreRest ⟨#[]⟩ s).toArray⟩ s.size).toArray⟩
theorem digP_size (s : ByteArray) : (digP s).size = 32 := by
  have h0 : (wordsOf (bytesOf firstState)).length = 8 := by rw [wordsOf_bytesOf _ firstState_words]; rfl
  have h1 : (moreState ⟨(bytesOf firstState).toArray⟩ ⟨#[]⟩ s).length = 8 := eatUp_length _ _ h0 _
  have h2 : Words (moreState ⟨(bytesOf firstState).toArray⟩ ⟨#[]⟩ s) := eatUp_words _ _ (wordsOf_words _) _
  have h3 : (wordsOf (bytesOf (moreState ⟨(bytesOf firstState).toArray⟩ ⟨#[]⟩ s))).length = 8 := by rw [wordsOf_bytesOf _ h2]; exact h1
  show (bytesOf (endState _ _ _)).toArray.size = 32
  rw [List.size_toArray, bytesOf_length]
  unfold endState
  rw [eatUp_length _ _ h3]
/-- A key as it counts: a long one is its digest. -/
def keyP (k : ByteArray) : ByteArray := if 64 < k.size then digP k else k
theorem keyP_size (k : ByteArray) : (keyP k).size ≤ 64 := by
  unfold keyP
  split
  · rw [digP_size]; decide
  · omega
/-- A key, filled with zeros, each byte's exclusive or with a number: the first n bytes, then zeros. -/
def padUp (k : List UInt8) (x : UInt8) (n : Nat) : List UInt8 := (List.range n).map (fun i => k.getD i 0 ^^^ x) ++ List.replicate (64 - n) 0
def padP (k : ByteArray) (x : UInt8) : ByteArray := ⟨(padUp (keyP k).data.toList x 64).toArray⟩
theorem padUp_length (k : List UInt8) (x : UInt8) (n : Nat) (h : n ≤ 64) : (padUp k x n).length = 64 := by unfold padUp; simp; omega
theorem padP_size (k : ByteArray) (x : UInt8) : (padP k x).size = 64 := by
  show (padUp _ x 64).toArray.size = 64
  rw [List.size_toArray, padUp_length _ _ _ (Nat.le_refl _)]
theorem padUp_set (k : List UInt8) (x : UInt8) (n : Nat) (h : n < 64) : (padUp k x n).set n (k.getD n 0 ^^^ x) = padUp k x (n + 1) := by
  unfold padUp
  have e : 64 - n = (64 - (n + 1)) + 1 := by omega
  rw [e, List.replicate_succ, List.set_append_right _ _ (by simp), List.length_map, List.length_range, Nat.sub_self, List.set_cons_zero, List.range_succ, List.map_append, List.append_assoc]
  rfl
theorem padUp_at (k : List UInt8) (x : UInt8) (n : Nat) (h : n < 64) : (padUp k x n).getD n 0 = 0 := by
  unfold padUp
  rw [List.getD_eq_getElem?_getD, List.getElem?_append_right (by simp), List.length_map, List.length_range, Nat.sub_self]
  have e : 64 - n = (64 - (n + 1)) + 1 := by omega
  rw [e, List.replicate_succ]
  rfl
def macP (k s : ByteArray) : ByteArray := digP (padP k 92 ++ digP (padP k 54 ++ s))
theorem macP_size (k s : ByteArray) : (macP k s).size = 32 := digP_size _

/-- The parts of an expansion, and all of them up to one. -/
def tUp (key info : ByteArray) : Nat → ByteArray
  | 0 => ⟨#[]⟩
  | i + 1 => macP key (tUp key info i ++ info ++ ⟨#[UInt8.ofNat (i + 1)]⟩)
theorem tUp_size (key info : ByteArray) (i : Nat) : (tUp key info (i + 1)).size = 32 := macP_size _ _
theorem tUp_few (key info : ByteArray) (i : Nat) : (tUp key info i).size ≤ 32 := by
  cases i with
  | zero => show 0 ≤ 32; decide
  | succ i => rw [tUp_size]; decide
def outUp (key info : ByteArray) : Nat → List UInt8
  | 0 => []
  | i + 1 => outUp key info i ++ (tUp key info (i + 1)).data.toList
theorem outUp_length (key info : ByteArray) (i : Nat) : (outUp key info i).length = 32 * i := by
  induction i with
  | zero => rfl
  | succ i ih =>
    have h := tUp_size key info i
    have h2 : (tUp key info (i + 1)).data.toList.length = (tUp key info (i + 1)).size := by simp
    rw [outUp, List.length_append, ih, h2, h]
    omega
def expandP (key info : ByteArray) (n : Nat) : List UInt8 := (outUp key info ((n + 31) / 32)).take n
/-- A longer expansion begins with a shorter one. -/
theorem outUp_front (key info : ByteArray) (i j : Nat) : (outUp key info (i + j)).take (32 * i) = outUp key info i := by
  induction j with
  | zero => exact List.take_of_length_le (by rw [Nat.add_zero, outUp_length]; omega)
  | succ j ih =>
    show (outUp key info (i + j) ++ _).take (32 * i) = _
    rw [List.take_append_of_le_length (by rw [outUp_length]; omega)]
    exact ih
theorem expandP_front (key info : ByteArray) (n m : Nat) (h : n ≤ m) : (expandP key info m).take n = expandP key info n := by
  unfold expandP
  have e : (m + 31) / 32 = (n + 31) / 32 + ((m + 31) / 32 - (n + 31) / 32) := by omega
  rw [List.take_take, Nat.min_eq_left h, ← outUp_front key info ((n + 31) / 32) ((m + 31) / 32 - (n + 31) / 32), ← e, List.take_take, Nat.min_eq_left (by omega)]
theorem expandP_length (key info : ByteArray) (n : Nat) : (expandP key info n).length = n := by
  unfold expandP
  rw [List.length_take, outUp_length]
  omega

end Go.Proofs.YtogmmilfdolpnakDoor
