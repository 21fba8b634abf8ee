/-
  The program's Install, with the library's Clone.
  Plain mathematics of chapter 2's sums: what a byte does to a sum can be undone, and is linear; no program is spoken of here.
  Plain mathematics of a table of 16 sums: half a byte at once; no program is spoken of here.
  A number in four bytes, read back; no program is spoken of here.
  Plain mathematics of digests: words turned, the words of a text and back, the round of a block; no program is spoken of here.
-/
import Derived.Test.YtoaifgblbfdncabDoorJ12
import Derived.Test.YtoaifgblbfdncabDoorJ19
import Derived.WalkKit
import Derived.Laws.BitsLemmas
import Derived.Lib.Hide
namespace Go.Proofs.YtoaifgblbfdncabDoor
open Go.RowKit

end Go.Proofs.YtoaifgblbfdncabDoor
namespace Go.Proofs.YtoaifgblbfdncabDoor

/-- One of the eight steps of a byte. -/
def half (s : Nat) : Nat := if s % 2 = 1 then s / 2 ^^^ 3558460437 else s / 2

/-- k steps. -/
def halves : Nat → Nat → Nat
  | 0, s => s
  | k + 1, s => halves k (half s)

/-- 'x ^ y' on a uint32, as the walk spells it. -/
theorem xor_u32 (x y : Nat) (hx : x < 4294967296) (hy : y < 4294967296) : bits .xor .u32 (x : Int) (y : Int) = ((x ^^^ y : Nat) : Int) := by
  have h : x ^^^ y < 4294967296 := Nat.xor_lt_two_pow (n := 32) hx hy
  have ex : (BitVec.ofInt IntKind.u32.bits (x : Int)).toNat = x := by
    rw [BitVec.toNat_ofInt]
    show ((x : Int) % ((2 ^ 32 : Nat) : Int)).toNat = x
    omega
  have ey : (BitVec.ofInt IntKind.u32.bits (y : Int)).toNat = y := by
    rw [BitVec.toNat_ofInt]
    show ((y : Int) % ((2 ^ 32 : Nat) : Int)).toNat = y
    omega
  unfold bits
  simp only
  rw [BitVec.toNat_xor, ex, ey, IntKind.wrap_u32]
  omega

/-- A sum in four bytes, the highest first. -/
def four (x : Nat) : List UInt8 := [UInt8.ofNat (x / 16777216), UInt8.ofNat (x / 65536 % 256), UInt8.ofNat (x / 256 % 256), UInt8.ofNat (x % 256)]

end Go.Proofs.YtoaifgblbfdncabDoor
namespace Go.Proofs.YtoaifgblbfdncabDoor

end Go.Proofs.YtoaifgblbfdncabDoor
namespace Go.Proofs.YtoaifgblbfdncabDoor

/-- The number of four bytes, the greatest first. -/
def fourNum (a b c d : UInt8) : Nat := a.toNat * 16777216 + b.toNat * 65536 + c.toNat * 256 + d.toNat
theorem fourNum_lt (a b c d : UInt8) : fourNum a b c d < 4294967296 := by
  have := a.toNat_lt; have := b.toNat_lt; have := c.toNat_lt; have := d.toNat_lt
  unfold fourNum
  omega
/-- Bytes put beside one another by 'or', as the walk spells it. -/
theorem or_u32 (x y : Nat) (hx : x < 4294967296) (hy : y < 4294967296) : bits .or .u32 (x : Int) (y : Int) = ((x ||| y : Nat) : Int) := by
  have h : x ||| y < 4294967296 := Nat.or_lt_two_pow (n := 32) hx hy
  have ex : (BitVec.ofInt IntKind.u32.bits (x : Int)).toNat = x := by
    rw [BitVec.toNat_ofInt]
    show ((x : Int) % ((2 ^ 32 : Nat) : Int)).toNat = x
    omega
  have ey : (BitVec.ofInt IntKind.u32.bits (y : Int)).toNat = y := by
    rw [BitVec.toNat_ofInt]
    show ((y : Int) % ((2 ^ 32 : Nat) : Int)).toNat = y
    omega
  unfold bits
  simp only
  rw [BitVec.toNat_or, ex, ey, IntKind.wrap_u32]
  omega
theorem or_add (x y k : Nat) (hy : y < 2 ^ k) : (x * 2 ^ k) ||| y = x * 2 ^ k + y := by
  rw [Nat.mul_comm]
  exact (Nat.two_pow_add_eq_or_of_lt hy x).symm

theorem word_or (a b c d : Nat) (ha : a < 256) (hb : b < 256) (hc : c < 256) (hd : d < 256) :
    bits .or .u32 (bits .or .u32 (bits .or .u32 ((a : Int) % 4294967296 * 16777216 % 4294967296) ((b : Int) % 4294967296 * 65536 % 4294967296)) ((c : Int) % 4294967296 * 256 % 4294967296)) ((d : Int) % 4294967296) = ((a * 16777216 + b * 65536 + c * 256 + d : Nat) : Int) := by
  have e1 : (a : Int) % 4294967296 * 16777216 % 4294967296 = ((a * 16777216 : Nat) : Int) := by omega
  have e2 : (b : Int) % 4294967296 * 65536 % 4294967296 = ((b * 65536 : Nat) : Int) := by omega
  have e3 : (c : Int) % 4294967296 * 256 % 4294967296 = ((c * 256 : Nat) : Int) := by omega
  have e4 : (d : Int) % 4294967296 = (d : Int) := by omega
  have o1 : a * 16777216 ||| b * 65536 = a * 16777216 + b * 65536 := or_add a (b * 65536) 24 (by omega)
  have o2 : (a * 16777216 + b * 65536) ||| c * 256 = a * 16777216 + b * 65536 + c * 256 := by
    have h := or_add (a * 256 + b) (c * 256) 16 (by omega)
    have e : (a * 256 + b) * 2 ^ 16 = a * 16777216 + b * 65536 := by omega
    rw [e] at h
    exact h
  have o3 : (a * 16777216 + b * 65536 + c * 256) ||| d = a * 16777216 + b * 65536 + c * 256 + d := by
    have h := or_add (a * 65536 + b * 256 + c) d 8 (by omega)
    have e : (a * 65536 + b * 256 + c) * 2 ^ 8 = a * 16777216 + b * 65536 + c * 256 := by omega
    rw [e] at h
    exact h
  rw [e1, e2, e3, e4, or_u32 _ _ (by omega) (by omega), o1, or_u32 _ _ (by omega) (by omega), o2, or_u32 _ _ (by omega) (by omega), o3]

end Go.Proofs.YtoaifgblbfdncabDoor
namespace Go.Proofs.YtoaifgblbfdncabDoor
open Go.RowKit

/-- x turned right, where low times high is 2^32. -/
def right (x low high : Nat) : Nat := x / low + x % low * high
theorem right_lt (x low high : Nat) (hx : x < 4294967296) (h0 : 0 < low) (hlh : low * high = 4294967296) : right x low high < 4294967296 := by
  unfold right
  have h1 : x / low < high := Nat.div_lt_of_lt_mul (by omega)
  have h2 : x % low < low := Nat.mod_lt _ h0
  have h3 : (x % low + 1) * high ≤ low * high := Nat.mul_le_mul_right _ h2
  rw [Nat.add_mul, Nat.one_mul] at h3
  omega
theorem right_parts (x low high : Nat) (hx : x < 4294967296) (h0 : 0 < low) (hlh : low * high = 4294967296) : x / low < 4294967296 ∧ x % low * high < 4294967296 ∧ x % low < 4294967296 := by
  have h := right_lt x low high hx h0 hlh
  have h2 := Nat.mod_le x low
  unfold right at h
  generalize x / low = q at *
  generalize x % low * high = r at *
  exact ⟨by omega, by omega, by omega⟩

/-- A number that halves 2^31 without rest. -/
def Halves (a : Nat) : Prop := 0 < a ∧ 1 < a ∧ a * (2147483648 / a * 2) = 4294967296
theorem Halves.part {a : Nat} (h : Halves a) : ∃ q : Nat, (2147483648 : Int) / (a : Int) = (q : Int) ∧ q < 2147483648 ∧ Hid (q = 2147483648 / a) := by
  refine ⟨2147483648 / a, by rw [Int.natCast_ediv]; rfl, ?_, rfl⟩
  exact Nat.div_lt_self (by decide) h.2.1

/-- The exclusive or of x turned by two numbers and turned, or shifted, by a third. -/
def sgm (x a b c : Nat) (last : Bool) : Nat := right x a (2147483648 / a * 2) ^^^ right x b (2147483648 / b * 2) ^^^ (if last then x / c else right x c (2147483648 / c * 2))
theorem sgm_lt (x a b c : Nat) (last : Bool) (hx : x < 4294967296) (ha : Halves a) (hb : Halves b) (hc : Halves c) : sgm x a b c last < 4294967296 := by
  unfold sgm
  refine Nat.xor_lt_two_pow (n := 32) (Nat.xor_lt_two_pow (n := 32) (right_lt x a _ hx ha.1 ha.2.2) (right_lt x b _ hx hb.1 hb.2.2)) ?_
  split
  · exact Nat.lt_of_le_of_lt (Nat.div_le_self _ _) hx
  · exact right_lt x c _ hx hc.1 hc.2.2

def bs0 (x : Nat) : Nat := sgm x 4 8192 4194304 false
def bs1 (x : Nat) : Nat := sgm x 64 2048 33554432 false
def ss0 (x : Nat) : Nat := sgm x 128 262144 8 true
def ss1 (x : Nat) : Nat := sgm x 131072 524288 1024 true
theorem bs0_lt (x : Nat) (h : x < 4294967296) : bs0 x < 4294967296 := sgm_lt x _ _ _ _ h (by unfold Halves; decide) (by unfold Halves; decide) (by unfold Halves; decide)
theorem bs1_lt (x : Nat) (h : x < 4294967296) : bs1 x < 4294967296 := sgm_lt x _ _ _ _ h (by unfold Halves; decide) (by unfold Halves; decide) (by unfold Halves; decide)
theorem ss0_lt (x : Nat) (h : x < 4294967296) : ss0 x < 4294967296 := sgm_lt x _ _ _ _ h (by unfold Halves; decide) (by unfold Halves; decide) (by unfold Halves; decide)
theorem ss1_lt (x : Nat) (h : x < 4294967296) : ss1 x < 4294967296 := sgm_lt x _ _ _ _ h (by unfold Halves; decide) (by unfold Halves; decide) (by unfold Halves; decide)

/-- Where e is 1 f, else g; what most are. -/
def chO (e f g : Nat) : Nat := (e &&& f) ^^^ ((4294967295 - e) &&& g)
def majO (a b c : Nat) : Nat := (a &&& b) ^^^ (a &&& c) ^^^ (b &&& c)

/-- All words are words. -/
def Words (l : List Nat) : Prop := ∀ x ∈ l, x < 4294967296
theorem Words.at {l : List Nat} (h : Words l) (i : Nat) : l.getD i 0 < 4294967296 := by
  rw [List.getD_eq_getElem?_getD]
  rcases Nat.lt_or_ge i l.length with hi | hi
  · rw [List.getElem?_eq_getElem hi]; exact h _ (List.getElem_mem _)
  · rw [List.getElem?_eq_none hi]; decide
theorem Words.snoc {l : List Nat} (h : Words l) {x : Nat} (hx : x < 4294967296) : Words (l ++ [x]) := by
  intro y hy
  rcases List.mem_append.1 hy with h1 | h1
  · exact h y h1
  · simp at h1; subst h1; exact hx

/-- The word of four bytes at a place; the words of a text; the bytes of words. -/
def wordAt (l : List UInt8) (i : Nat) : Nat := fourNum (l.getD i 0) (l.getD (i + 1) 0) (l.getD (i + 2) 0) (l.getD (i + 3) 0)
theorem wordAt_lt (l : List UInt8) (i : Nat) : wordAt l i < 4294967296 := fourNum_lt _ _ _ _
def wordsUp (l : List UInt8) (n : Nat) : List Nat := (List.range n).map fun i => wordAt l (4 * i)
def wordsOf (l : List UInt8) : List Nat := wordsUp l (l.length / 4)
theorem wordsUp_succ (l : List UInt8) (n : Nat) : wordsUp l (n + 1) = wordsUp l n ++ [wordAt l (4 * n)] := by unfold wordsUp; rw [List.range_succ, List.map_append]; rfl
theorem wordsUp_length (l : List UInt8) (n : Nat) : (wordsUp l n).length = n := by simp [wordsUp]
theorem wordsUp_words (l : List UInt8) (n : Nat) : Words (wordsUp l n) := by
  intro x hx
  unfold wordsUp at hx
  obtain ⟨i, _, rfl⟩ := List.mem_map.1 hx
  exact wordAt_lt _ _
theorem wordsOf_length (l : List UInt8) : (wordsOf l).length = l.length / 4 := wordsUp_length _ _
theorem wordsOf_words (l : List UInt8) : Words (wordsOf l) := wordsUp_words _ _
def bytesOf : List Nat → List UInt8
  | [] => []
  | x :: l => four x ++ bytesOf l
theorem bytesOf_append (l m : List Nat) : bytesOf (l ++ m) = bytesOf l ++ bytesOf m := by
  induction l with
  | nil => rfl
  | cons x l ih => rw [List.cons_append, bytesOf, bytesOf, ih, List.append_assoc]
theorem bytesOf_length (l : List Nat) : (bytesOf l).length = 4 * l.length := by
  induction l with
  | nil => rfl
  | cons x l ih => rw [bytesOf, List.length_append, ih, List.length_cons]; show 4 + _ = _; omega

/-- The next word of a block's row. -/
def nextW (w : List Nat) : Nat := (ss1 (w.getD (w.length - 2) 0) + w.getD (w.length - 7) 0 + ss0 (w.getD (w.length - 15) 0) + w.getD (w.length - 16) 0) % 4294967296
theorem nextW_lt (w : List Nat) : nextW w < 4294967296 := Nat.mod_lt _ (by decide)
def grow (w : List Nat) : Nat → List Nat
  | 0 => w
  | n + 1 => grow w n ++ [nextW (grow w n)]
theorem grow_length (w : List Nat) (n : Nat) : (grow w n).length = w.length + n := by
  induction n with
  | zero => rfl
  | succ n ih => rw [grow, List.length_append, ih]; show _ + 1 = _; omega
theorem grow_words (w : List Nat) (h : Words w) (n : Nat) : Words (grow w n) := by
  induction n with
  | zero => exact h
  | succ n ih => exact ih.snoc (nextW_lt _)

/-- Eight words, and one step of the round. -/
structure Eight where
  a : Nat
  b : Nat
  c : Nat
  d : Nat
  e : Nat
  f : Nat
  g : Nat
  h : Nat
def Eight.toList (v : Eight) : List Nat := [v.a, v.b, v.c, v.d, v.e, v.f, v.g, v.h]
def Eight.of (l : List Nat) : Eight := ⟨l.getD 0 0, l.getD 1 0, l.getD 2 0, l.getD 3 0, l.getD 4 0, l.getD 5 0, l.getD 6 0, l.getD 7 0⟩
def t1Of (v : Eight) (k x : Nat) : Nat := (v.h + bs1 v.e + chO v.e v.f v.g + k + x) % 4294967296
def t2Of (v : Eight) : Nat := (bs0 v.a + majO v.a v.b v.c) % 4294967296
def stepE (v : Eight) (k x : Nat) : Eight := ⟨(t1Of v k x + t2Of v) % 4294967296, v.a, v.b, v.c, (v.d + t1Of v k x) % 4294967296, v.e, v.f, v.g⟩
def runE (v : Eight) (ks ws : List Nat) : Nat → Eight
  | 0 => v
  | n + 1 => stepE (runE v ks ws n) (ks.getD n 0) (ws.getD n 0)
structure Eight.Ok (v : Eight) : Prop where
  a : v.a < 4294967296
  b : v.b < 4294967296
  c : v.c < 4294967296
  d : v.d < 4294967296
  e : v.e < 4294967296
  f : v.f < 4294967296
  g : v.g < 4294967296
  h : v.h < 4294967296
theorem stepE_ok (v : Eight) (h : v.Ok) (k x : Nat) : (stepE v k x).Ok := ⟨Nat.mod_lt _ (by decide), h.a, h.b, h.c, Nat.mod_lt _ (by decide), h.e, h.f, h.g⟩
theorem runE_ok (v : Eight) (h : v.Ok) (ks ws : List Nat) (n : Nat) : (runE v ks ws n).Ok := by
  induction n with
  | zero => exact h
  | succ n ih => exact stepE_ok _ ih _ _
theorem Eight.of_ok {l : List Nat} (h : Words l) : (Eight.of l).Ok := ⟨h.at 0, h.at 1, h.at 2, h.at 3, h.at 4, h.at 5, h.at 6, h.at 7⟩

def addUp (a b : List Nat) (n : Nat) : List Nat := (List.range n).map fun i => (a.getD i 0 + b.getD i 0) % 4294967296
theorem addUp_succ (a b : List Nat) (n : Nat) : addUp a b (n + 1) = addUp a b n ++ [(a.getD n 0 + b.getD n 0) % 4294967296] := by unfold addUp; rw [List.range_succ, List.map_append]; rfl
theorem addUp_length (a b : List Nat) (n : Nat) : (addUp a b n).length = n := by simp [addUp]
theorem addUp_words (a b : List Nat) (n : Nat) : Words (addUp a b n) := by
  intro x hx
  unfold addUp at hx
  obtain ⟨i, _, rfl⟩ := List.mem_map.1 hx
  exact Nat.mod_lt _ (by decide)

def kTab : List Nat := [1116352408, 1899447441, 3049323471, 3921009573, 961987163, 1508970993, 2453635748, 2870763221,
  3624381080, 310598401, 607225278, 1426881987, 1925078388, 2162078206, 2614888103, 3248222580,
  3835390401, 4022224774, 264347078, 604807628, 770255983, 1249150122, 1555081692, 1996064986,
  2554220882, 2821834349, 2952996808, 3210313671, 3336571891, 3584528711, 113926993, 338241895,
  666307205, 773529912, 1294757372, 1396182291, 1695183700, 1986661051, 2177026350, 2456956037,
  2730485921, 2820302411, 3259730800, 3345764771, 3516065817, 3600352804, 4094571909, 275423344,
  430227734, 506948616, 659060556, 883997877, 958139571, 1322822218, 1537002063, 1747873779,
  1955562222, 2024104815, 2227730452, 2361852424, 2428436474, 2756734187, 3204031479, 3329325298]
theorem kTab_words : Words kTab := by unfold Words; decide
def firstState : List Nat := [1779033703, 3144134277, 1013904242, 2773480762, 1359893119, 2600822924, 528734635, 1541459225]
theorem firstState_words : Words firstState := by unfold Words; decide

/-- The round of a block. -/
def roundOf (st : List Nat) (block : List UInt8) : List Nat := addUp st (runE (Eight.of st) kTab (grow (wordsOf block) 48) 64).toList 8
theorem roundOf_length (st : List Nat) (block : List UInt8) : (roundOf st block).length = 8 := addUp_length _ _ _
theorem roundOf_words (st : List Nat) (block : List UInt8) : Words (roundOf st block) := addUp_words _ _ _

/-- The eight words while they are moved by one place, from the last on. -/
def shf (v : Eight) : Nat → List Nat
  | 0 => [v.a, v.a, v.b, v.c, v.d, v.e, v.f, v.g]
  | 1 => [v.a, v.b, v.b, v.c, v.d, v.e, v.f, v.g]
  | 2 => [v.a, v.b, v.c, v.c, v.d, v.e, v.f, v.g]
  | 3 => [v.a, v.b, v.c, v.d, v.d, v.e, v.f, v.g]
  | 4 => [v.a, v.b, v.c, v.d, v.e, v.e, v.f, v.g]
  | 5 => [v.a, v.b, v.c, v.d, v.e, v.f, v.f, v.g]
  | 6 => [v.a, v.b, v.c, v.d, v.e, v.f, v.g, v.g]
  | _ => [v.a, v.b, v.c, v.d, v.e, v.f, v.g, v.h]
theorem shf_step (v : Eight) (j : Nat) (h : j ≤ 6) : (shf v (j + 1)).set (j + 1) ((shf v (j + 1)).getD j 0) = shf v j := by
  match j, h with
  | 0, _ => rfl
  | 1, _ => rfl
  | 2, _ => rfl
  | 3, _ => rfl
  | 4, _ => rfl
  | 5, _ => rfl
  | 6, _ => rfl
theorem shf_length (v : Eight) (j : Nat) : (shf v j).length = 8 := by unfold shf; split <;> rfl
theorem shf_words (v : Eight) (h : v.Ok) (j : Nat) : Words (shf v j) := by
  have h1 := h.a; have h2 := h.b; have h3 := h.c; have h4 := h.d; have h5 := h.e; have h6 := h.f; have h7 := h.g; have h8 := h.h
  intro x hx
  unfold shf at hx
  split at hx <;> (simp at hx; omega)
theorem shf_end (v : Eight) (k x : Nat) : ((shf v 0).set 4 (((shf v 0).getD 4 0 + t1Of v k x) % 4294967296)).set 0 ((t1Of v k x + t2Of v) % 4294967296) = (stepE v k x).toList := rfl
theorem toList_of (l : List Nat) (h : l.length = 8) : (Eight.of l).toList = l := by
  match l, h with
  | [_, _, _, _, _, _, _, _], _ => rfl
/-- 'and' on words, as the walk spells it. -/
theorem andW (x y : Nat) (hx : x < 4294967296) (hy : y < 4294967296) : bits .and .u32 (x : Int) (y : Int) = ((x &&& y : Nat) : Int) := by
  have h : x &&& y < 4294967296 := Nat.lt_of_le_of_lt Nat.and_le_right hy
  have ex : (BitVec.ofInt IntKind.u32.bits (x : Int)).toNat = x := by
    rw [BitVec.toNat_ofInt]
    show ((x : Int) % ((2 ^ 32 : Nat) : Int)).toNat = x
    omega
  have ey : (BitVec.ofInt IntKind.u32.bits (y : Int)).toNat = y := by
    rw [BitVec.toNat_ofInt]
    show ((y : Int) % ((2 ^ 32 : Nat) : Int)).toNat = y
    omega
  unfold bits
  simp only
  rw [BitVec.toNat_and, ex, ey, IntKind.wrap_u32]
  omega

end Go.Proofs.YtoaifgblbfdncabDoor
