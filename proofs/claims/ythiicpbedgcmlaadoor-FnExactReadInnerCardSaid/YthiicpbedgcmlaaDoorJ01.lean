/-
  The front and the back of two texts; no program is spoken of here.
  Plain mathematics of chapter 2's sums: what a byte does to a sum can be undone, and is linear; no program is spoken of here.
  Plain mathematics of a table of 16 sums: half a byte at once; no program is spoken of here.
  A number in four bytes, read back; no program is spoken of here.
  Inner packets and their bytes, in plain words; no program is spoken of here.
  Small laws of no program: a byte put behind an owned row of bytes; an owned row read as a text.
  Plain mathematics of figures: two for each byte, and back; no program is spoken of here.
  Four bytes of a sum, as the program and as the given one lay them.
  The given test of a range, by what it answers.
  Numbers in four bytes, by the program and by the given ones: what they answer.
  Numbers in four bytes, by the given ones: what they answer.
  A number read from four bytes, by the given one: what it answers.
  The given AddrOk.
  Memory of which one block alone is written; a cursor over bytes that lies in such a block; no program is spoken of here.
-/
import Derived.Test.YthiicpbedgcmlaaDoorRows
import Derived.WalkKit
import Derived.Laws.BitsLemmas
import Derived.Lib.FrozenHead
import Derived.Lib.Hide
import Derived.Laws.IdiomStrings
import Derived.OwnWalk
import Derived.WalkLawsBesides
import Derived.WalkSpells
import Derived.Deep.RegionHeld3
import Derived.BigQuiet
import Derived.Deep.QuietTactic
import Derived.Deep.DeepCutAuto
import Derived.Below
import Derived.WalkSmall
namespace Go.Proofs.YthiicpbedgcmlaaDoor

end Go.Proofs.YthiicpbedgcmlaaDoor
namespace Go.Proofs.YthiicpbedgcmlaaDoor

/-- One of the eight steps of a byte. -/
def half (s : Nat) : Nat := if s % 2 = 1 then s / 2 ^^^ 3558460437 else s / 2

/-- A sum in four bytes, the highest first. -/
def four (x : Nat) : List UInt8 := [UInt8.ofNat (x / 16777216), UInt8.ofNat (x / 65536 % 256), UInt8.ofNat (x / 256 % 256), UInt8.ofNat (x % 256)]

theorem four_length (x : Nat) : (four x).length = 4 := rfl

end Go.Proofs.YthiicpbedgcmlaaDoor
namespace Go.Proofs.YthiicpbedgcmlaaDoor

end Go.Proofs.YthiicpbedgcmlaaDoor
namespace Go.Proofs.YthiicpbedgcmlaaDoor

/-- The number of four bytes, the greatest first. -/
def fourNum (a b c d : UInt8) : Nat := a.toNat * 16777216 + b.toNat * 65536 + c.toNat * 256 + d.toNat
def fourBack (l : List UInt8) : Nat := fourNum (l.getD 0 0) (l.getD 1 0) (l.getD 2 0) (l.getD 3 0)
theorem fourNum_lt (a b c d : UInt8) : fourNum a b c d < 4294967296 := by
  have := a.toNat_lt; have := b.toNat_lt; have := c.toNat_lt; have := d.toNat_lt
  unfold fourNum
  omega
theorem fourBack_lt (l : List UInt8) : fourBack l < 4294967296 := fourNum_lt _ _ _ _
/-- Bytes put beside one another by 'or', as the walk spells it. -/
theorem or_u32 (x y : Nat) (hx : x < 4294967296) (hy : y < 4294967296) : bits .or .u32 (x : Int) (y : Int) = ((x ||| y : Nat) : Int) := by
  have h : x ||| y < 4294967296 := Nat.or_lt_two_pow (n := 32) hx hy
  have ex : (BitVec.ofInt IntKind.u32.bits (x : Int)).toNat = x := by
    rw [BitVec.toNat_ofInt]
    show ((x : Int) % ((2 ^ 32 : Nat) : Int)).toNat = x
    omega
  have ey : (BitVec.ofInt IntKind.u32.bits (y : Int)).toNat = y := by
    rw [BitVec.toNat_ofInt]
    show ((y : Int) % ((2 ^ 32 : Nat) : Int)).toNat = y
    omega
  unfold bits
  simp only
  rw [BitVec.toNat_or, ex, ey, IntKind.wrap_u32]
  omega
theorem or_add (x y k : Nat) (hy : y < 2 ^ k) : (x * 2 ^ k) ||| y = x * 2 ^ k + y := by
  rw [Nat.mul_comm]
  exact (Nat.two_pow_add_eq_or_of_lt hy x).symm

theorem word_or (a b c d : Nat) (ha : a < 256) (hb : b < 256) (hc : c < 256) (hd : d < 256) :
    bits .or .u32 (bits .or .u32 (bits .or .u32 ((a : Int) % 4294967296 * 16777216 % 4294967296) ((b : Int) % 4294967296 * 65536 % 4294967296)) ((c : Int) % 4294967296 * 256 % 4294967296)) ((d : Int) % 4294967296) = ((a * 16777216 + b * 65536 + c * 256 + d : Nat) : Int) := by
  have e1 : (a : Int) % 4294967296 * 16777216 % 4294967296 = ((a * 16777216 : Nat) : Int) := by omega
  have e2 : (b : Int) % 4294967296 * 65536 % 4294967296 = ((b * 65536 : Nat) : Int) := by omega
  have e3 : (c : Int) % 4294967296 * 256 % 4294967296 = ((c * 256 : Nat) : Int) := by omega
  have e4 : (d : Int) % 4294967296 = (d : Int) := by omega
  have o1 : a * 16777216 ||| b * 65536 = a * 16777216 + b * 65536 := or_add a (b * 65536) 24 (by omega)
  have o2 : (a * 16777216 + b * 65536) ||| c * 256 = a * 16777216 + b * 65536 + c * 256 := by
    have h := or_add (a * 256 + b) (c * 256) 16 (by omega)
    have e : (a * 256 + b) * 2 ^ 16 = a * 16777216 + b * 65536 := by omega
    rw [e] at h
    exact h
  have o3 : (a * 16777216 + b * 65536 + c * 256) ||| d = a * 16777216 + b * 65536 + c * 256 + d := by
    have h := or_add (a * 65536 + b * 256 + c) d 8 (by omega)
    have e : (a * 65536 + b * 256 + c) * 2 ^ 8 = a * 16777216 + b * 65536 + c * 256 := by omega
    rw [e] at h
    exact h
  rw [e1, e2, e3, e4, or_u32 _ _ (by omega) (by omega), o1, or_u32 _ _ (by omega) (by omega), o2, or_u32 _ _ (by omega) (by omega), o3]

theorem four_bytes (s : ByteArray) (h : s.size = 4) : ∃ a b c d : UInt8, s = ⟨#[a, b, c, d]⟩ := by
  obtain ⟨⟨l⟩⟩ := s
  have hl : l.length = 4 := h
  match l, hl with
  | [a, b, c, d], _ => exact ⟨a, b, c, d, rfl⟩

end Go.Proofs.YthiicpbedgcmlaaDoor
namespace Go.Proofs.YthiicpbedgcmlaaDoor

/-- A right inner packet. -/
def InnerP (a b : Int) (t : ByteArray) : Prop := (0 ≤ a ∧ a ≤ 4294967295) ∧ (0 ≤ b ∧ b ≤ 4294967295) ∧ t.size ≤ 100
/-- A number's four bytes. -/
def fourB (n : Nat) : ByteArray := ⟨(four n).toArray⟩
/-- Its bytes. -/
def innerT (a b : Nat) (t : ByteArray) : ByteArray := fourB a ++ fourB b ++ t
/-- What InnerText tells. -/
def InnerTextIs (a b : Int) (t s : ByteArray) (ok : Bool) : Prop := (ok = true ∧ InnerP a b t ∧ s = innerT a.toNat b.toNat t) ∨ (ok = false ∧ ¬ InnerP a b t ∧ s = ⟨#[]⟩)
/-- The number of four bytes of a text. -/
def backAt (s : ByteArray) (i : Nat) : Nat := fourBack (s.extract i (i + 4)).data.toList
/-- What ReadInner tells. -/
def ReadInnerIs (s : ByteArray) (a b : Int) (t : ByteArray) (ok : Bool) : Prop := (ok = true ∧ (8 ≤ s.size ∧ s.size ≤ 108) ∧ a = (backAt s 0 : Nat) ∧ b = (backAt s 4 : Nat) ∧ t = s.extract 8 s.size) ∨ (ok = false ∧ ¬ (8 ≤ s.size ∧ s.size ≤ 108) ∧ a = 0 ∧ b = 0 ∧ t = ⟨#[]⟩)
theorem readInner_is (s : ByteArray) : ∃ a b t ok, ReadInnerIs s a b t ok := by
  by_cases h : 8 ≤ s.size ∧ s.size ≤ 108
  · exact ⟨_, _, _, _, .inl ⟨rfl, h, rfl, rfl, rfl⟩⟩
  · exact ⟨_, _, _, _, .inr ⟨rfl, h, rfl, rfl, rfl⟩⟩
theorem backAt_lt (s : ByteArray) (i : Nat) : backAt s i < 4294967296 := fourBack_lt _
end Go.Proofs.YthiicpbedgcmlaaDoor
namespace Go.Proofs.YthiicpbedgcmlaaDoor
open Go.RowKit

/-- The slice value v is nil or the call's own (from block 'base' on), and holds the bytes xs. -/
def OwnB (w : World) (base : Nat) (e : TypeId) (v : Value) (xs : List UInt8) : Prop := w.ownsRow base e 1 v xs.length (Lib.byteCells xs)

theorem OwnB.nil (w : World) (base : Nat) (e : TypeId) : OwnB w base e (.slice none 0 0) [] := World.ownsRow_nil _ _ _ _
theorem OwnB.alloc {w : World} {base : Nat} {e : TypeId} {v : Value} {xs : List UInt8} (h : OwnB w base e v xs) (o : Obj) : OwnB (w.alloc o) base e v xs := World.ownsRow.alloc h o
theorem OwnB.drew {w : World} {base : Nat} {e : TypeId} {v : Value} {xs : List UInt8} (h : OwnB w base e v xs) : OwnB w.drew base e v xs := World.ownsRow.drew h
/-- 'string(out)': out a row of bytes of the call's own, nil or not. -/
theorem run_string_own {P : Program} (w : World) (src dst e : TypeId) (hs : P.underlying src = some (.slice e)) (he : P.underlying e = some (.int .u8)) (hd : P.underlying dst = some .string)
    {base : Nat} {v : Value} (l : List UInt8) (hown0 : OwnB w base e v l) :
    (convert src dst v).run P w = .ok (.string ⟨l.toArray⟩) w := by
  have hown : w.ownsRow base e 1 v l.length (Lib.byteCells l) := hown0
  rcases hown.2 with ⟨rfl, h0⟩ | ⟨g, cap, cur, rfl, _, _, _, _, _, _⟩
  · obtain rfl : l = [] := List.length_eq_zero_iff.1 h0
    rw [run_convert_bytes_string w src dst e none 0 0 hs he hd]
    rfl
  · exact run_convert_bytes_back w src dst e ⟨g, 0, none⟩ cap l hs he hd (fun j hj => hown.cells (g := g) rfl j _ (by simp [Lib.byteCells, hj]))

theorem ret_ib {a b : Int} {p q : Bool} (h1 : a = b) (h2 : p = q) : Ending.returned (.tuple #[.int .i64 a, .bool p]) = .returned (.tuple #[.int .i64 b, .bool q]) := by rw [h1, h2]
end Go.Proofs.YthiicpbedgcmlaaDoor
namespace Go.Proofs.YthiicpbedgcmlaaDoor

end Go.Proofs.YthiicpbedgcmlaaDoor
namespace Go.Proofs.YthiicpbedgcmlaaDoor
open Go.RowKit

/-- The four bytes laid as one row, read as a text. -/
theorem four_read (x : Nat) (hx : x < 4294967296) (w : World) : (convert 22 9 (Value.slice (some ⟨w.heap.size, 0, none⟩) 4 4)).run Tryd.prog
    (w.alloc (.cells #[.int .u8 ((x : Int) / 16777216), .int .u8 ((x : Int) / 65536 % 256), .int .u8 ((x : Int) / 256 % 256), .int .u8 ((x : Int) % 256)] 5)) =
    .ok (.string ⟨(four x).toArray⟩) (w.alloc (.cells #[.int .u8 ((x : Int) / 16777216), .int .u8 ((x : Int) / 65536 % 256), .int .u8 ((x : Int) / 256 % 256), .int .u8 ((x : Int) % 256)] 5)) := by
  have e1 : (x : Int) / 16777216 = (((UInt8.ofNat (x / 16777216)).toNat : Nat) : Int) := by rw [UInt8.toNat_ofNat']; omega
  have e2 : (x : Int) / 65536 % 256 = (((UInt8.ofNat (x / 65536 % 256)).toNat : Nat) : Int) := by rw [UInt8.toNat_ofNat']; omega
  have e3 : (x : Int) / 256 % 256 = (((UInt8.ofNat (x / 256 % 256)).toNat : Nat) : Int) := by rw [UInt8.toNat_ofNat']; omega
  have e4 : (x : Int) % 256 = (((UInt8.ofNat (x % 256)).toNat : Nat) : Int) := by rw [UInt8.toNat_ofNat']; omega
  have h := World.ownsRow_lit (base := w.heap.size) (e := 5) (size := 1) w #[.int .u8 ((x : Int) / 16777216), .int .u8 ((x : Int) / 65536 % 256), .int .u8 ((x : Int) / 256 % 256), .int .u8 ((x : Int) % 256)] 4 (Nat.le_refl _) (by decide) rfl
  have hown : OwnB (w.alloc (.cells #[.int .u8 ((x : Int) / 16777216), .int .u8 ((x : Int) / 65536 % 256), .int .u8 ((x : Int) / 256 % 256), .int .u8 ((x : Int) % 256)] 5)) w.heap.size 5 (Value.slice (some ⟨w.heap.size, 0, none⟩) 4 4) (four x) := by
    unfold OwnB four
    simp only [Lib.byteCells, List.map_cons, List.map_nil, ← e1, ← e2, ← e3, ← e4]
    exact h
  exact run_string_own _ 22 9 5 Tryd.underlying22 Tryd.underlying5 Tryd.underlying9 _ hown

set_option maxRecDepth 100000 in
set_option maxHeartbeats 400000 in
theorem wordText_any (x : Nat) (hx : x < 4294967296) (w : World) :
    Calls Tryd.prog 36 #[.int .u32 x] w fun e w' => e = .returned (.string ⟨(four x).toArray⟩) ∧ Below w.heap.size w w' := by
  have hr := four_read x hx w
  go_enter Tryd.func36, Tryd.ntmps36
  go_wp2
  go_ret
  exact ⟨rfl, (Below.refl _ _).alloc (Nat.le_refl _) _⟩

end Go.Proofs.YthiicpbedgcmlaaDoor
namespace Go.Proofs.YthiicpbedgcmlaaDoor
open Go.RowKit

theorem inRange_yes (x a b : Int) (h0 : a ≤ x) (h1 : x ≤ b) (w : World) :
    Calls Tryd.prog 28 #[.int .i64 x, .int .i64 a, .int .i64 b] w fun e w' => e = .returned (.bool true) ∧ w' = w := by
  go_enter Tryd.func28, Tryd.ntmps28
  go_wp2
  go_ret
  exact ⟨rfl, rfl⟩

theorem inRange_no (x a b : Int) (h : x < a ∨ b < x) (w : World) :
    Calls Tryd.prog 28 #[.int .i64 x, .int .i64 a, .int .i64 b] w fun e w' => e = .returned (.bool false) ∧ w' = w := by
  by_cases hx : x < a
  · go_enter Tryd.func28, Tryd.ntmps28
    go_wp2
    go_ret
    exact ⟨rfl, rfl⟩
  · have h0 : a ≤ x := by omega
    have h1 : decide (x ≤ b) = false := decide_eq_false (by omega)
    clear h hx
    go_enter Tryd.func28, Tryd.ntmps28
    go_wp2
    go_ret
    exact ⟨rfl, rfl⟩

end Go.Proofs.YthiicpbedgcmlaaDoor
namespace Go.Proofs.YthiicpbedgcmlaaDoor
open Go.RowKit

set_option maxHeartbeats 400000 in
theorem implNumberText_yes (n : Nat) (hn : n < 4294967296) (w : World) :
    Calls Tryd.prog 21 #[.int .i64 n] w fun e w' => e = .returned (.string ⟨(four n).toArray⟩) ∧ Below w.heap.size w w' := by
  have h1 : ¬ ((n : Int) < 0) := by omega
  have h2 : ¬ (4294967295 < (n : Int)) := by omega
  have h3 : (n : Int) % 4294967296 = (n : Int) := by omega
  have H1 := Lib.hid (wordText_any n hn)
  go_enter Tryd.func21, Tryd.ntmps21
  go_wp2_with fail
  refine (H1.out _).mono ?_
  rintro e1 w1 ⟨rfl, hb1⟩
  go_wp2
  go_ret
  exact ⟨rfl, hb1⟩

end Go.Proofs.YthiicpbedgcmlaaDoor
namespace Go.Proofs.YthiicpbedgcmlaaDoor
open Go.RowKit

end Go.Proofs.YthiicpbedgcmlaaDoor
namespace Go.Proofs.YthiicpbedgcmlaaDoor
open Go.RowKit

theorem w64_in (n : Int) (h : -9223372036854775808 ≤ n ∧ n ≤ 9223372036854775807) : wrap64 n = n := by unfold wrap64; omega
theorem word_sum (a b c d : Nat) (ha : a < 256) (hb : b < 256) (hc : c < 256) (hd : d < 256) :
    wrap64 (wrap64 (wrap64 (wrap64 (wrap64 (a : Int) * 16777216) + wrap64 (wrap64 (b : Int) * 65536)) + wrap64 (wrap64 (c : Int) * 256)) + wrap64 (d : Int)) = ((a * 16777216 + b * 65536 + c * 256 + d : Nat) : Int) := by
  rw [w64_in (a : Int) (by omega), w64_in (b : Int) (by omega), w64_in (c : Int) (by omega), w64_in (d : Int) (by omega), w64_in ((a : Int) * 16777216) (by omega), w64_in ((b : Int) * 65536) (by omega), w64_in ((c : Int) * 256) (by omega), w64_in ((a : Int) * 16777216 + (b : Int) * 65536) (by omega), w64_in ((a : Int) * 16777216 + (b : Int) * 65536 + (c : Int) * 256) (by omega), w64_in ((a : Int) * 16777216 + (b : Int) * 65536 + (c : Int) * 256 + (d : Int)) (by omega)]
  omega

set_option maxRecDepth 100000 in
set_option maxHeartbeats 800000 in
theorem specReadNumber_yes (s : ByteArray) (hs : s.size = 4) (w : World) :
    Calls Tryd.prog 29 #[.string s] w fun e w' => e = .returned (.tuple #[.int .i64 (fourBack s.data.toList : Nat), .bool true]) ∧ Below w.heap.size w w' := by
  obtain ⟨b0, b1, b2, b3, rfl⟩ := four_bytes s hs
  have h1 : (((⟨#[b0, b1, b2, b3]⟩ : ByteArray).size : Int) != 4) = false := by rfl
  have l0 := b0.toNat_lt
  have l1 := b1.toNat_lt
  have l2 := b2.toNat_lt
  have l3 := b3.toNat_lt
  go_enter Tryd.func29, Tryd.ntmps29
  go_wp2
  go_quiet (fail)
  go_wp2
  go_ret2
  exact ⟨ret_ib (word_sum _ _ _ _ b0.toNat_lt b1.toNat_lt b2.toNat_lt b3.toNat_lt) rfl, below_drewN (Below.refl _ _) _⟩

end Go.Proofs.YthiicpbedgcmlaaDoor
namespace Go.Proofs.YthiicpbedgcmlaaDoor
open Go.RowKit

end Go.Proofs.YthiicpbedgcmlaaDoor
namespace Go.Proofs.YthiicpbedgcmlaaDoor
open Go.RowKit

/-- Block c alone may have been written; blocks may have been added. -/
structure Only (c : Nat) (w w' : World) : Prop where
  os : w'.os = w.os
  tape : w'.tape = w.tape
  output : w'.output = w.output
  size : w.heap.size ≤ w'.heap.size
  block : ∀ k, k < w.heap.size → k ≠ c → w'.heap[k]? = w.heap[k]?

theorem Only.refl (c : Nat) (w : World) : Only c w w := ⟨rfl, rfl, rfl, Nat.le_refl _, fun _ _ _ => rfl⟩
theorem Only.trans {c : Nat} {w w1 w2 : World} (h : Only c w w1) (k : Only c w1 w2) : Only c w w2 :=
  ⟨k.os.trans h.os, k.tape.trans h.tape, k.output.trans h.output, Nat.le_trans h.size k.size, fun i hi hc => (k.block i (Nat.lt_of_lt_of_le hi h.size) hc).trans (h.block i hi hc)⟩
theorem Only.below {c B : Nat} {w w' : World} (h : Only c w w') (hB : B ≤ c) (hs : B ≤ w.heap.size) : Below B w w' :=
  ⟨h.os, h.tape, h.output, h.size, fun k hk => h.block k (by omega) (by omega)⟩
theorem Only.cell {c : Nat} {w w' : World} (h : Only c w w') {p : Addr} (hp : p.block < w.heap.size) (hc : p.block ≠ c) : w'.cell? p = w.cell? p := World.cell?_of_block (w := w) (h.block p.block hp hc)
theorem Only.setCell {c : Nat} {w : World} (o : Nat) (v : Value) : Only c w (w.setCell ⟨c, o, none⟩ v) := by
  have h := Below.setCell (B := 0) (Below.refl 0 w) (p := ⟨c, o, none⟩) (Nat.zero_le _) v
  exact ⟨h.os, h.tape, h.output, h.size, fun k _ hc => Below.heap_setCell w _ v k hc⟩
/-- A cursor in block c over 'len' bytes. -/
structure Cur (c : Nat) (a : Option Addr) (len cap : Nat) (w : World) : Prop where
  few : len ≤ 1048576
  c0 : w.cell? ⟨c, 0, none⟩ = some (.slice a len cap)
  c1 : ∃ i : Nat, i ≤ len ∧ w.cell? ⟨c, 1, none⟩ = some (.int .i64 i)
  c2 : ∃ h : Int, w.cell? ⟨c, 2, none⟩ = some (.int .i64 h)
  f1 : w.frozen? ⟨c, 1, none⟩ = false
  f2 : w.frozen? ⟨c, 2, none⟩ = false
  bytes : ∀ j, j < len → ∃ (b off : Nat) (x : Int), a = some ⟨b, off, none⟩ ∧ b < c ∧ w.cell? ⟨b, off + j, none⟩ = some (.int .u8 x) ∧ 0 ≤ x ∧ x ≤ 255

theorem cell_size {w : World} {p : Addr} {v : Value} (h : w.cell? p = some v) : p.block < w.heap.size := by
  rcases Nat.lt_or_ge p.block w.heap.size with h' | h'
  · exact h'
  · exfalso
    unfold World.cell? at h
    simp [Array.getElem?_eq_none h'] at h

/-- What lies in blocks as they were reads as it did. -/
theorem Cur.kept {c : Nat} {a : Option Addr} {len cap : Nat} {B : Nat} {w w' : World} (h : Cur c a len cap w) (hb : Below B w w') (hs : c < B) : Cur c a len cap w' := by
  refine ⟨h.few, by rw [hb.cell (p := ⟨c, 0, none⟩) hs]; exact h.c0, ?_, ?_, by rw [hb.frozen (p := ⟨c, 1, none⟩) hs]; exact h.f1, by rw [hb.frozen (p := ⟨c, 2, none⟩) hs]; exact h.f2, fun j hj => ?_⟩
  · rw [hb.cell (p := ⟨c, 1, none⟩) hs]; exact h.c1
  · rw [hb.cell (p := ⟨c, 2, none⟩) hs]; exact h.c2
  · obtain ⟨b, off, x, ha, hbc, hx, x0, x1⟩ := h.bytes j hj
    exact ⟨b, off, x, ha, hbc, by rw [hb.cell (p := ⟨b, off + j, none⟩) (by show b < B; omega)]; exact hx, x0, x1⟩
theorem Cur.below {c : Nat} {a : Option Addr} {len cap : Nat} {w w' : World} (h : Cur c a len cap w) (hb : Below w.heap.size w w') : Cur c a len cap w' :=
  h.kept hb (cell_size (p := ⟨c, 0, none⟩) h.c0)
/-- Bytes that can be read, in blocks that are there. -/
structure Src (a : Option Addr) (len : Nat) (w : World) : Prop where
  few : len ≤ 1048576
  bytes : ∀ j, j < len → ∃ (b off : Nat) (x : Int), a = some ⟨b, off, none⟩ ∧ b < w.heap.size ∧ w.cell? ⟨b, off + j, none⟩ = some (.int .u8 x) ∧ 0 ≤ x ∧ x ≤ 255

theorem Src.below {a : Option Addr} {len : Nat} {w w' : World} (h : Src a len w) (hb : Below w.heap.size w w') : Src a len w' := by
  refine ⟨h.few, fun j hj => ?_⟩
  obtain ⟨b, off, x, ha, hs, hx, x0, x1⟩ := h.bytes j hj
  exact ⟨b, off, x, ha, Nat.lt_of_lt_of_le hs hb.size, by rw [hb.cell (p := ⟨b, off + j, none⟩) hs]; exact hx, x0, x1⟩

end Go.Proofs.YthiicpbedgcmlaaDoor
