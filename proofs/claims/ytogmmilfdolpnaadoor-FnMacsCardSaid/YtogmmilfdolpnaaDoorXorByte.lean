/-
  Bytes: their exclusive or and or as the model spells them; no program is spoken of here.
-/
import Derived.Test.YtogmmilfdolpnaaDoorKit
namespace Go.Proofs.YtogmmilfdolpnaaDoor
open Go.RowKit

theorem xor_bytes (x y : UInt8) : bits .xor .u8 (x.toNat : Int) (y.toNat : Int) = ((x ^^^ y).toNat : Int) := by
  have e : ∀ x y : Fin 256, bits .xor .u8 (x.val : Int) (y.val : Int) = ((x.val ^^^ y.val : Nat) : Int) := by
    intro x y
    unfold bits
    simp only
    rw [BitVec.toNat_xor]
    have ex : ∀ z : Fin 256, (BitVec.ofInt IntKind.u8.bits (z.val : Int)).toNat = z.val := fun z => by
      rw [BitVec.toNat_ofInt]
      show ((z.val : Int) % ((2 ^ 8 : Nat) : Int)).toNat = z.val
      have := z.isLt
      omega
    rw [ex x, ex y, IntKind.wrap_u8]
    have : x.val ^^^ y.val < 256 := Nat.xor_lt_two_pow (n := 8) x.isLt y.isLt
    omega
  have := e ⟨x.toNat, x.toNat_lt⟩ ⟨y.toNat, y.toNat_lt⟩
  rw [this]
  simp
theorem text_byte (t : ByteArray) (n : Nat) (h : n < t.size) : t[n]'h = t.data.toList.getD n 0 := by
  rw [List.getD_eq_getElem?_getD, List.getElem?_eq_getElem (by simpa using h)]
  rfl
theorem or_bytes (x y : UInt8) : bits .or .u8 (x.toNat : Int) (y.toNat : Int) = ((x ||| y).toNat : Int) := by
  have e : ∀ x y : Fin 256, bits .or .u8 (x.val : Int) (y.val : Int) = ((x.val ||| y.val : Nat) : Int) := by
    intro x y
    unfold bits
    simp only
    rw [BitVec.toNat_or]
    have ex : ∀ z : Fin 256, (BitVec.ofInt IntKind.u8.bits (z.val : Int)).toNat = z.val := fun z => by
      rw [BitVec.toNat_ofInt]
      show ((z.val : Int) % ((2 ^ 8 : Nat) : Int)).toNat = z.val
      have := z.isLt
      omega
    rw [ex x, ex y, IntKind.wrap_u8]
    have : x.val ||| y.val < 256 := Nat.or_lt_two_pow (n := 8) x.isLt y.isLt
    omega
  have := e ⟨x.toNat, x.toNat_lt⟩ ⟨y.toNat, y.toNat_lt⟩
  rw [this]
  simp

/-- What the first n bytes of two texts differ in. -/
def diffUp (a b : List UInt8) : Nat → UInt8
  | 0 => 0
  | n + 1 => diffUp a b n ||| (a.getD n 0 ^^^ b.getD n 0)
theorem diffUp_zero (a b : List UInt8) (n : Nat) : diffUp a b n = 0 ↔ ∀ i, i < n → a.getD i 0 = b.getD i 0 := by
  induction n with
  | zero => exact ⟨fun _ i hi => absurd hi (by omega), fun _ => rfl⟩
  | succ n ih =>
    show diffUp a b n ||| (a.getD n 0 ^^^ b.getD n 0) = 0 ↔ _
    rw [UInt8.or_eq_zero_iff, UInt8.xor_eq_zero_iff, ih]
    constructor
    · rintro ⟨h1, h2⟩ i hi
      rcases Nat.lt_or_ge i n with h | h
      · exact h1 i h
      · obtain rfl : i = n := by omega
        exact h2
    · intro h
      exact ⟨fun i hi => h i (by omega), h n (by omega)⟩
theorem diffUp_eq (a b : ByteArray) (h : a.size = b.size) : ((((diffUp a.data.toList b.data.toList a.size).toNat : Nat) : Int) == 0) = (a.toList == b.toList) := by
  have e : ∀ t : ByteArray, t.toList = t.data.toList := fun t => by rw [ByteArray.toList_eq]
  have hz : ((((diffUp a.data.toList b.data.toList a.size).toNat : Nat) : Int) = 0) ↔ diffUp a.data.toList b.data.toList a.size = 0 := by
    constructor
    · intro h
      apply UInt8.toNat_inj.1
      show _ = 0
      omega
    · intro h
      rw [h]
      rfl
  rw [e a, e b, Bool.eq_iff_iff, beq_iff_eq, beq_iff_eq, hz, diffUp_zero]
  constructor
  · intro hh
    apply List.ext_getElem (by simp; exact h)
    intro i h1 h2
    have := hh i (by simpa using h1)
    rw [List.getD_eq_getElem?_getD, List.getD_eq_getElem?_getD, List.getElem?_eq_getElem h1, List.getElem?_eq_getElem h2] at this
    exact this
  · intro hh i _
    rw [hh]

end Go.Proofs.YtogmmilfdolpnaaDoor
