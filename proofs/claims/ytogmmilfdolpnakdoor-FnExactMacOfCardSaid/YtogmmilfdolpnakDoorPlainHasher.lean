/-
  Plain mathematics of digests by parts: a right hasher, whole blocks that are eaten, the last blocks; no program is spoken of here.
-/
import Derived.Test.YtogmmilfdolpnakDoorPlainSha
namespace Go.Proofs.YtogmmilfdolpnakDoor
open Go.RowKit

/-- A hasher that is right. -/
def HOk (st rest : ByteArray) (n : Int) : Prop := st.size = 32 ∧ rest.size < 64 ∧ 0 ≤ n ∧ n ≤ 1000000000 ∧ n % 64 = (rest.size : Int)

/-- Block number k of a row of bytes. -/
def blockAt (l : List UInt8) (k : Nat) : List UInt8 := (l.drop (64 * k)).take 64
theorem blockAt_length (l : List UInt8) (k : Nat) (h : 64 * k + 64 ≤ l.length) : (blockAt l k).length = 64 := by
  unfold blockAt
  rw [List.length_take, List.length_drop]
  omega
/-- The state behind so many blocks. -/
def eatUp (s0 : List Nat) (l : List UInt8) : Nat → List Nat
  | 0 => s0
  | k + 1 => roundOf (eatUp s0 l k) (blockAt l k)
theorem eatUp_length (s0 : List Nat) (l : List UInt8) (h : s0.length = 8) (k : Nat) : (eatUp s0 l k).length = 8 := by
  cases k with
  | zero => exact h
  | succ k => exact roundOf_length _ _
theorem eatUp_words (s0 : List Nat) (l : List UInt8) (h : Words s0) (k : Nat) : Words (eatUp s0 l k) := by
  cases k with
  | zero => exact h
  | succ k => exact roundOf_words _ _

/-- The last bytes: a byte 128, zeros, and eight bytes of the number of bits. -/
def zerosFor (r : Nat) : Nat := (119 - r) % 64
def beUp (n : Nat) : Nat → List UInt8
  | 0 => []
  | k + 1 => beUp n k ++ [UInt8.ofNat (n / 256 ^ (7 - k) % 256)]
theorem beUp_length (n k : Nat) : (beUp n k).length = k := by
  induction k with
  | zero => rfl
  | succ k ih => rw [beUp, List.length_append, ih]; rfl
def tailOf (rest : List UInt8) (n : Nat) : List UInt8 := rest ++ [128] ++ List.replicate (zerosFor rest.length) 0 ++ beUp (8 * n) 8
theorem tailOf_length (rest : List UInt8) (n : Nat) (h : rest.length < 64) : (tailOf rest n).length = 64 ∨ (tailOf rest n).length = 128 := by
  unfold tailOf zerosFor
  simp only [List.length_append, List.length_replicate, beUp_length, List.length_cons, List.length_nil]
  omega

/-- What more text makes of a hasher, and what a hasher tells. -/
def moreState (st rest s : ByteArray) : List Nat := eatUp (wordsOf st.data.toList) (rest.data.toList ++ s.data.toList) ((rest.size + s.size) / 64)
def moreRest (rest s : ByteArray) : List UInt8 := (rest.data.toList ++ s.data.toList).drop (64 * ((rest.size + s.size) / 64))
def endState (st rest : ByteArray) (n : Nat) : List Nat := eatUp (wordsOf st.data.toList) (tailOf rest.data.toList n) ((tailOf rest.data.toList n).length / 64)
def endOf (st rest : ByteArray) (n : Nat) : List UInt8 := bytesOf (endState st rest n)

/-- The words of bytes that are words' bytes are these. -/
theorem fourNum_four (x : Nat) (h : x < 4294967296) : fourNum (UInt8.ofNat (x / 16777216)) (UInt8.ofNat (x / 65536 % 256)) (UInt8.ofNat (x / 256 % 256)) (UInt8.ofNat (x % 256)) = x := by
  unfold fourNum
  simp only [UInt8.toNat_ofNat']
  omega
theorem wordAt_bytesOf (l : List Nat) (h : Words l) (i : Nat) (hi : i < l.length) : wordAt (bytesOf l) (4 * i) = l.getD i 0 := by
  induction l generalizing i with
  | nil => exact absurd hi (by simp)
  | cons x l ih =>
    cases i with
    | zero =>
      have hx : x < 4294967296 := h x (List.mem_cons_self ..)
      exact fourNum_four x hx
    | succ i =>
      have := ih (fun y hy => h y (List.mem_cons_of_mem _ hy)) i (by simpa using hi)
      have e : 4 * (i + 1) = 4 * i + 4 := by omega
      rw [e]
      unfold wordAt at this ⊢
      rw [bytesOf]
      have hd : ∀ j, (four x ++ bytesOf l).getD (j + 4) 0 = (bytesOf l).getD j 0 := fun j => by
        unfold four
        simp
      have e1 : 4 * i + 4 + 1 = (4 * i + 1) + 4 := by omega
      have e2 : 4 * i + 4 + 2 = (4 * i + 2) + 4 := by omega
      have e3 : 4 * i + 4 + 3 = (4 * i + 3) + 4 := by omega
      rw [e1, e2, e3, hd, hd, hd, hd, this]
      simp
theorem wordsOf_bytesOf (l : List Nat) (h : Words l) : wordsOf (bytesOf l) = l := by
  unfold wordsOf wordsUp
  rw [bytesOf_length, Nat.mul_div_cancel_left _ (by decide)]
  apply List.ext_getElem?
  intro i
  rw [List.getElem?_map]
  rcases Nat.lt_or_ge i l.length with hi | hi
  · rw [List.getElem?_range hi, Option.map_some, wordAt_bytesOf l h i hi, List.getD_eq_getElem?_getD, List.getElem?_eq_getElem hi]
    rfl
  · rw [List.getElem?_eq_none (by simpa using hi), List.getElem?_eq_none hi]
    rfl

end Go.Proofs.YtogmmilfdolpnakDoor
