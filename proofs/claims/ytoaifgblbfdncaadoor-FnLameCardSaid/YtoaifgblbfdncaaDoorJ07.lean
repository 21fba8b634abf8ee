/-
  Right numbers that were seen, one behind another; no program is spoken of here.
  Keys that change, in plain words; no program is spoken of here.
  Whether a number is one of a row, by the given code.
  The given test of a range, by what it answers.
  The given SeenOk and IsFresh.
  The given SlotOk, SlotsOk and Spent.
  The given Install and TidySlots.
  Plain mathematics of chapter 2's sums: what a byte does to a sum can be undone, and is linear; no program is spoken of here.
  Plain mathematics of a table of 16 sums: half a byte at once; no program is spoken of here.
-/
import Derived.Test.YtoaifgblbfdncaaDoorJ06
import Derived.Test.YtoaifgblbfdncaaDoorJ05
import Derived.Test.YtoaifgblbfdncaaDoorRows
import Derived.Test.YtoaifgblbfdncaaDoorJ01
import Derived.BigQuiet
import Derived.Deep.QuietTactic
import Derived.WalkKit
namespace Go.Proofs.YtoaifgblbfdncaaDoor

/-- A number that an int holds. -/
def IntZ (x : Int) : Prop := -9223372036854775808 ≤ x ∧ x ≤ 9223372036854775807
theorem SeenP.ints {xs : List Int} (h : SeenP xs) : ∀ x ∈ xs, IntZ x := fun x hx => by
  have := h.2.1 x hx
  exact ⟨by omega, by omega⟩
theorem desc_iff (xs : List Int) : DescZ xs ↔ ∀ i, (h : i + 1 < xs.length) → xs[i + 1] < xs[i] := by
  induction xs with
  | nil => exact ⟨fun _ i h => absurd h (by simp), fun _ => trivial⟩
  | cons x l ih =>
    cases l with
    | nil => exact ⟨fun _ i h => absurd h (by simp), fun _ => trivial⟩
    | cons y l =>
      constructor
      · rintro ⟨h1, h2⟩ i hi
        cases i with
        | zero => exact h1
        | succ i => exact (ih.1 h2) i (by simpa using hi)
      · intro h
        refine ⟨h 0 (by simp), ih.2 fun i hi => ?_⟩
        exact h (i + 1) (by simpa using hi)
theorem top_get {xs : List Int} (h : 0 < xs.length) : topZ xs = xs[0] := by
  cases xs with
  | nil => exact absurd h (by simp)
  | cons x l => rfl
/-- The first ones are right. -/
def SeenTo (xs : List Int) (j : Nat) : Prop := ∀ i, (hi : i < xs.length) → i < j → (1 ≤ xs[i] ∧ xs[i] ≤ 1000000000) ∧ (∀ h : 0 < i, xs[i] < xs[i - 1]) ∧ topZ xs - 6 < xs[i]
theorem seenP_iff (xs : List Int) : SeenP xs ↔ SeenTo xs xs.length ∧ xs.length ≤ 6 := by
  constructor
  · rintro ⟨h1, h2, h3, h4⟩
    refine ⟨fun i hi _ => ⟨h2 _ (List.getElem_mem hi), fun h => ?_, h4 _ (List.getElem_mem hi)⟩, h1⟩
    obtain ⟨k, rfl⟩ : ∃ k, i = k + 1 := ⟨i - 1, by omega⟩
    exact (desc_iff xs).1 h3 k hi
  · rintro ⟨h1, h2⟩
    refine ⟨h2, fun x hx => ?_, (desc_iff xs).2 fun i hi => (h1 (i + 1) hi hi).2.1 (by omega), fun x hx => ?_⟩
    · obtain ⟨i, hi, rfl⟩ := List.getElem_of_mem hx
      exact (h1 i hi hi).1
    · obtain ⟨i, hi, rfl⟩ := List.getElem_of_mem hx
      exact (h1 i hi hi).2.2
theorem seenTo_next {xs : List Int} {j : Nat} (hj : j < xs.length) (h : SeenTo xs j) (h1 : 1 ≤ xs[j] ∧ xs[j] ≤ 1000000000) (h2 : ∀ h : 0 < j, xs[j] < xs[j - 1]) (h3 : topZ xs - 6 < xs[j]) : SeenTo xs (j + 1) := by
  intro i hi hij
  rcases Nat.lt_or_ge i j with h4 | h4
  · exact h i hi h4
  · obtain rfl : i = j := by omega
    exact ⟨h1, h2, h3⟩
/-- The numbers above n, of the first j; those below. -/
theorem filter_next (p : Int → Bool) (xs : List Int) (j : Nat) (hj : j < xs.length) : (xs.take (j + 1)).filter p = (xs.take j).filter p ++ (if p xs[j] then [xs[j]] else []) := by
  rw [List.take_add_one, List.getElem?_eq_getElem hj, List.filter_append]
  congr 1
  show List.filter p [xs[j]] = _
  rw [List.filter_cons]
  split <;> simp
theorem filter_len (p : Int → Bool) (xs : List Int) (j : Nat) : ((xs.take j).filter p).length ≤ xs.length := by
  have h1 := List.length_filter_le p (xs.take j)
  have h2 : (xs.take j).length ≤ xs.length := by rw [List.length_take]; omega
  omega

end Go.Proofs.YtoaifgblbfdncaaDoor
namespace Go.Proofs.YtoaifgblbfdncaaDoor

/-- Nothing at all. -/
def NoneP (x0 : Int) (x1 x2 : ByteArray) (x3 : Int) (r4 : List Int) (x5 : Int) : Prop := x0 = 0 ∧ x1.size = 0 ∧ x2.size = 0 ∧ x3 = 0 ∧ r4.length = 0 ∧ x5 = 0
/-- A set of keys that is right. -/
def KeysP (x0 : Int) (x1 x2 : ByteArray) (x3 : Int) (r4 : List Int) (x5 : Int) : Prop := (1 ≤ x0 ∧ x0 ≤ 1000000000) ∧ x1.size = 32 ∧ x2.size = 32 ∧ (0 ≤ x3 ∧ x3 ≤ 12) ∧ SeenP r4 ∧ (0 ≤ x5 ∧ x5 ≤ 1000000000)
def SlotP (x0 : Int) (x1 x2 : ByteArray) (x3 : Int) (r4 : List Int) (x5 : Int) : Prop := NoneP x0 x1 x2 x3 r4 x5 ∨ KeysP x0 x1 x2 x3 r4 x5
def SlotsP (x0 : Int) (x1 x2 : ByteArray) (x3 : Int) (r4 : List Int) (x5 : Int) (y0 : Int) (y1 y2 : ByteArray) (y3 : Int) (s4 : List Int) (y5 : Int) : Prop := SlotP x0 x1 x2 x3 r4 x5 ∧ SlotP y0 y1 y2 y3 s4 y5 ∧ (NoneP y0 y1 y2 y3 s4 y5 ∨ y0 < x0)
/-- New keys may come. -/
def InstallP (x0 : Int) (x1 x2 : ByteArray) (x3 : Int) (r4 : List Int) (x5 : Int) (y0 : Int) (y1 y2 : ByteArray) (y3 : Int) (s4 : List Int) (y5 : Int) (send op : ByteArray) (now : Int) : Prop := SlotsP x0 x1 x2 x3 r4 x5 y0 y1 y2 y3 s4 y5 ∧ send.size = 32 ∧ op.size = 32 ∧ (0 ≤ now ∧ now ≤ 999999990) ∧ x0 ≠ 1000000000
/-- How long what was the main set opens. -/
def UntilIs (x0 : Int) (x1 x2 : ByteArray) (x3 : Int) (r4 : List Int) (x5 : Int) (now u : Int) : Prop := (NoneP x0 x1 x2 x3 r4 x5 ∧ u = x5) ∨ (¬ NoneP x0 x1 x2 x3 r4 x5 ∧ u = now + 10)
theorem until_is (x0 : Int) (x1 x2 : ByteArray) (x3 : Int) (r4 : List Int) (x5 now : Int) : ∃ u, UntilIs x0 x1 x2 x3 r4 x5 now u := by
  by_cases h : NoneP x0 x1 x2 x3 r4 x5
  · exact ⟨_, .inl ⟨h, rfl⟩⟩
  · exact ⟨_, .inr ⟨h, rfl⟩⟩
theorem slots_main {x0 : Int} {x1 x2 : ByteArray} {x3 : Int} {r4 : List Int} {x5 y0 : Int} {y1 y2 : ByteArray} {y3 : Int} {s4 : List Int} {y5 : Int} (h : SlotsP x0 x1 x2 x3 r4 x5 y0 y1 y2 y3 s4 y5) : 0 ≤ x0 ∧ x0 ≤ 1000000000 := by
  rcases h.1 with h | h
  · have := h.1; omega
  · have := h.1; omega

end Go.Proofs.YtoaifgblbfdncaaDoor
namespace Go.Proofs.YtoaifgblbfdncaaDoor
open Go.RowKit

end Go.Proofs.YtoaifgblbfdncaaDoor
namespace Go.Proofs.YtoaifgblbfdncaaDoor
open Go.RowKit

end Go.Proofs.YtoaifgblbfdncaaDoor
namespace Go.Proofs.YtoaifgblbfdncaaDoor
open Go.RowKit

/-- An element of a row of ints, by its cell. -/
theorem ints_at {w : World} {a : Option Addr} {n c : Nat} {xs : List Int} (h : layIntS.rd w [.slice a n c] xs) {j : Nat} (hj : j < xs.length) {g off : Nat} (ha : a = some ⟨g, off, none⟩) : w.cell? ⟨g, off + j, none⟩ = some (.int .i64 xs[j]) := by
  obtain ⟨g2, off2, c2, hv, -, hc⟩ := ints_get h j hj
  simp only [Value.slice.injEq] at hv
  obtain ⟨rfl, -, -⟩ := hv
  simp only [Option.some.injEq, Addr.mk.injEq, and_true] at ha
  obtain ⟨rfl, rfl⟩ := ha
  exact hc

end Go.Proofs.YtoaifgblbfdncaaDoor
namespace Go.Proofs.YtoaifgblbfdncaaDoor
open Go.RowKit

theorem empty_yes {s : ByteArray} (h : s.size = 0) : s.toList.isEmpty = true := by
  rw [List.isEmpty_iff_length_eq_zero, ByteArray.toList_eq]
  simpa using h
theorem empty_no {s : ByteArray} (h : ¬ s.size = 0) : s.toList.isEmpty = false := by
  rw [Bool.eq_false_iff, ne_eq, List.isEmpty_iff_length_eq_zero, ByteArray.toList_eq]
  simpa using h
theorem nat_yes {n : Nat} {m : Int} (h : (n : Int) = m) : ((n : Int) == m) = true := by rw [beq_iff_eq]; exact h
theorem nat_no {n : Nat} {m : Int} (h : ¬ (n : Int) = m) : ((n : Int) == m) = false := by rw [beq_eq_false_iff_ne]; exact h
theorem int_yes {n m : Int} (h : n = m) : (n == m) = true := by rw [beq_iff_eq]; exact h
theorem int_no {n m : Int} (h : ¬ n = m) : (n == m) = false := by rw [beq_eq_false_iff_ne]; exact h
end Go.Proofs.YtoaifgblbfdncaaDoor
namespace Go.Proofs.YtoaifgblbfdncaaDoor
open Go.RowKit

/-- No row. -/
theorem none_own (w : World) (b : Nat) : layIntS.own w b [] [.slice none 0 0] [] := ⟨_, rfl, .inl ⟨rfl, rfl, rfl⟩⟩
/-- What TidySlots tells. -/
def TidyEnd (x0 : Int) (x1 x2 : ByteArray) (x3 : Int) (r4 : List Int) (x5 : Int) (y0 : Int) (y1 y2 : ByteArray) (y3 : Int) (s4 : List Int) (y5 : Int) (now : Int) (w : World) (e : Ending) (w' : World) : Prop :=
  (y5 ≤ now ∧ SlotsMade x0 x1 x2 x3 r4 x5 0 ⟨#[]⟩ ⟨#[]⟩ 0 [] 0 w e w') ∨ (¬ y5 ≤ now ∧ SlotsMade x0 x1 x2 x3 r4 x5 y0 y1 y2 y3 s4 y5 w e w')
/-- What Install tells. -/
def InstallEnd (x0 : Int) (x1 x2 : ByteArray) (x3 : Int) (r4 : List Int) (x5 : Int) (y0 : Int) (y1 y2 : ByteArray) (y3 : Int) (s4 : List Int) (y5 : Int) (send op : ByteArray) (now : Int) (w : World) (e : Ending) (w' : World) : Prop :=
  ∃ (z0 : Int) (z1 z2 : ByteArray) (z3 : Int) (t4 : List Int) (z5 : Int) (n0 : Int) (n1 n2 : ByteArray) (n3 : Int) (o4 : List Int) (n5 : Int) (ok : Bool) (v4 u4 : Value) (f g : List Nat),
    ((ok = true ∧ InstallP x0 x1 x2 x3 r4 x5 y0 y1 y2 y3 s4 y5 send op now ∧ (z0 = x0 + 1 ∧ z1 = send ∧ z2 = op ∧ z3 = 0 ∧ t4 = [] ∧ z5 = 0) ∧ (n0 = x0 ∧ n1 = x1 ∧ n2 = x2 ∧ n3 = x3 ∧ o4 = r4 ∧ UntilIs x0 x1 x2 x3 r4 x5 now n5)) ∨
     (ok = false ∧ ¬ InstallP x0 x1 x2 x3 r4 x5 y0 y1 y2 y3 s4 y5 send op now ∧ (z0 = x0 ∧ z1 = x1 ∧ z2 = x2 ∧ z3 = x3 ∧ t4 = r4 ∧ z5 = x5) ∧ (n0 = y0 ∧ n1 = y1 ∧ n2 = y2 ∧ n3 = y3 ∧ o4 = s4 ∧ n5 = y5))) ∧
    e = .returned (.tuple #[.agg #[.int .i64 z0, .string z1, .string z2, .int .i64 z3, v4, .int .i64 z5, .int .i64 n0, .string n1, .string n2, .int .i64 n3, u4, .int .i64 n5], .bool ok]) ∧ (f ++ g).Nodup ∧ layIntS.own w' w.heap.size f [v4] t4 ∧ layIntS.own w' w.heap.size g [u4] o4 ∧ Below w.heap.size w w'
end Go.Proofs.YtoaifgblbfdncaaDoor
namespace Go.Proofs.YtoaifgblbfdncaaDoor

/-- One of the eight steps of a byte. -/
def half (s : Nat) : Nat := if s % 2 = 1 then s / 2 ^^^ 3558460437 else s / 2

/-- k steps. -/
def halves : Nat → Nat → Nat
  | 0, s => s
  | k + 1, s => halves k (half s)

/-- A byte comes to a sum. -/
def sumB (s : Nat) (b : UInt8) : Nat := halves 8 (s ^^^ b.toNat)

/-- Bytes come to a sum, in order. -/
def sumL (s : Nat) (l : List UInt8) : Nat := l.foldl sumB s

theorem sumL_nil (s : Nat) : sumL s [] = s := rfl
theorem sumL_append (s : Nat) (a b : List UInt8) : sumL s (a ++ b) = sumL (sumL s a) b := List.foldl_append
theorem sumL_snoc (s : Nat) (a : List UInt8) (b : UInt8) : sumL s (a ++ [b]) = sumB (sumL s a) b := by rw [sumL_append]; rfl

theorem xor_right_drop {x y z : Nat} (h : x ^^^ z = y ^^^ z) : x = y := by
  have := congrArg (· ^^^ z) h
  simpa [Nat.xor_assoc] using this
theorem xor_left_drop {x y z : Nat} (h : z ^^^ x = z ^^^ y) : x = y := by
  rw [Nat.xor_comm z, Nat.xor_comm z] at h
  exact xor_right_drop h

theorem half_lt (s : Nat) (h : s < 4294967296) : half s < 4294967296 := by
  unfold half
  split
  · exact Nat.xor_lt_two_pow (n := 32) (by omega) (by omega)
  · omega

theorem halves_lt : ∀ (k s : Nat), s < 4294967296 → halves k s < 4294967296
  | 0, _, h => h
  | k + 1, s, h => halves_lt k (half s) (half_lt s h)

theorem sumB_lt (s : Nat) (b : UInt8) (h : s < 4294967296) : sumB s b < 4294967296 :=
  halves_lt 8 _ (Nat.xor_lt_two_pow (n := 32) h (by have := b.toNat_lt; omega))

theorem sumL_lt : ∀ (l : List UInt8) (s : Nat), s < 4294967296 → sumL s l < 4294967296
  | [], _, h => h
  | b :: l, s, h => sumL_lt l (sumB s b) (sumB_lt s b h)

theorem half_bit (s : Nat) (h : s < 4294967296) : (half s).testBit 31 = decide (s % 2 = 1) := by
  unfold half
  have hz : (s / 2).testBit 31 = false := Nat.testBit_lt_two_pow (by omega)
  have hp : (3558460437 : Nat).testBit 31 = true := by decide
  split
  · rename_i h1
    rw [Nat.testBit_xor, hz, hp, h1]
    rfl
  · rename_i h1
    rw [hz]
    simp [h1]

theorem half_inj (s t : Nat) (hs : s < 4294967296) (ht : t < 4294967296) (h : half s = half t) : s = t := by
  have h1 := half_bit s hs
  have h2 := half_bit t ht
  rw [h, h2] at h1
  have h3 : (s % 2 = 1) ↔ (t % 2 = 1) := by
    constructor
    · intro e; simpa [e] using h1
    · intro e; simpa [e] using h1.symm
  unfold half at h
  by_cases e : s % 2 = 1
  · have e2 := h3.1 e
    rw [if_pos e, if_pos e2] at h
    have := xor_right_drop h
    omega
  · have e2 : ¬ t % 2 = 1 := fun x => e (h3.2 x)
    rw [if_neg e, if_neg e2] at h
    omega

theorem halves_inj : ∀ (k s t : Nat), s < 4294967296 → t < 4294967296 → halves k s = halves k t → s = t
  | 0, _, _, _, _, h => h
  | k + 1, s, t, hs, ht, h => half_inj s t hs ht (halves_inj k _ _ (half_lt s hs) (half_lt t ht) h)

theorem sumB_inj_byte (s : Nat) (b c : UInt8) (h : s < 4294967296) (e : sumB s b = sumB s c) : b = c := by
  have hb : s ^^^ b.toNat < 4294967296 := Nat.xor_lt_two_pow (n := 32) h (by have := b.toNat_lt; omega)
  have hc : s ^^^ c.toNat < 4294967296 := Nat.xor_lt_two_pow (n := 32) h (by have := c.toNat_lt; omega)
  exact UInt8.toNat_inj.1 (xor_left_drop (halves_inj 8 _ _ hb hc e))

theorem sumB_inj_sum (s t : Nat) (b : UInt8) (hs : s < 4294967296) (ht : t < 4294967296) (e : sumB s b = sumB t b) : s = t := by
  have h1 : s ^^^ b.toNat < 4294967296 := Nat.xor_lt_two_pow (n := 32) hs (by have := b.toNat_lt; omega)
  have h2 : t ^^^ b.toNat < 4294967296 := Nat.xor_lt_two_pow (n := 32) ht (by have := b.toNat_lt; omega)
  exact xor_right_drop (halves_inj 8 _ _ h1 h2 e)

theorem sumL_inj : ∀ (l : List UInt8) (s t : Nat), s < 4294967296 → t < 4294967296 → sumL s l = sumL t l → s = t
  | [], _, _, _, _, e => e
  | b :: l, s, t, hs, ht, e => sumB_inj_sum s t b hs ht (sumL_inj l _ _ (sumB_lt s b hs) (sumB_lt t b ht) e)

/-- A text whose one byte is turned has another sum. -/
theorem sumL_turned (s : Nat) (hs : s < 4294967296) (a r : List UInt8) (b c : UInt8) (h : b ≠ c) : sumL s (a ++ b :: r) ≠ sumL s (a ++ c :: r) := by
  intro e
  rw [sumL_append, sumL_append] at e
  have ha := sumL_lt a s hs
  have e2 : sumB (sumL s a) b = sumB (sumL s a) c := sumL_inj r _ _ (sumB_lt _ b ha) (sumB_lt _ c ha) e
  exact h (sumB_inj_byte _ b c ha e2)

/-! A table of 256 sums does a byte at once. -/
theorem half_xor (x y : Nat) : half (x ^^^ y) = half x ^^^ half y := by
  have hd : (x ^^^ y) / 2 = x / 2 ^^^ y / 2 := by
    apply Nat.eq_of_testBit_eq
    intro i
    simp [Nat.testBit_div_two]
  have hm : (x ^^^ y) % 2 = (x % 2 + y % 2) % 2 := by
    have h1 := Nat.testBit_zero (x ^^^ y)
    rw [Nat.testBit_xor, Nat.testBit_zero, Nat.testBit_zero] at h1
    rcases Nat.mod_two_eq_zero_or_one x with a | a <;> rcases Nat.mod_two_eq_zero_or_one y with b | b <;> rcases Nat.mod_two_eq_zero_or_one (x ^^^ y) with c | c <;> simp [a, b, c] at h1 ⊢
  unfold half
  rw [hd, hm]
  rcases Nat.mod_two_eq_zero_or_one x with a | a <;> rcases Nat.mod_two_eq_zero_or_one y with b | b <;> simp [a, b]
  · rw [Nat.xor_assoc]
  · rw [Nat.xor_assoc, Nat.xor_comm (y / 2), Nat.xor_assoc]
  · rw [Nat.xor_assoc (x / 2), ← Nat.xor_assoc 3558460437, Nat.xor_comm 3558460437, Nat.xor_assoc (y / 2), Nat.xor_self, Nat.xor_zero]

theorem halves_xor : ∀ (k x y : Nat), halves k (x ^^^ y) = halves k x ^^^ halves k y
  | 0, _, _ => rfl
  | k + 1, x, y => by
    show halves k (half (x ^^^ y)) = _
    rw [half_xor, halves_xor k]
    rfl

theorem halves_high : ∀ (k x : Nat), halves k (x * 2 ^ k) = x
  | 0, x => by simp [halves]
  | k + 1, x => by
    show halves k (half (x * 2 ^ (k + 1))) = x
    have e : x * 2 ^ (k + 1) = 2 * (x * 2 ^ k) := by rw [Nat.pow_succ]; rw [← Nat.mul_assoc, Nat.mul_comm]
    have h : half (x * 2 ^ (k + 1)) = x * 2 ^ k := by
      unfold half
      rw [e, if_neg (by omega)]
      omega
    rw [h, halves_high k]

/-- Eight steps at once: the table's number of the lowest byte, and the rest. -/
theorem halves_table (x : Nat) : halves 8 x = halves 8 (x % 256) ^^^ x / 256 := by
  have e : x = x % 256 ^^^ (x / 256) * 2 ^ 8 := by
    have h1 := Nat.div_add_mod x 256
    have h2 : (x / 256) * 2 ^ 8 ^^^ x % 256 = (x / 256) * 2 ^ 8 + x % 256 := by
      rw [Nat.mul_comm]
      apply Nat.eq_of_testBit_eq
      intro i
      rw [Nat.testBit_two_pow_mul_add _ (show x % 256 < 2 ^ 8 by omega), Nat.testBit_xor, Nat.testBit_two_pow_mul]
      by_cases hi : i < 8
      · have h9 : decide (8 ≤ i) = false := decide_eq_false (by omega)
        simp [hi, h9]
      · have h8 : (x % 256).testBit i = false := Nat.testBit_lt_two_pow (Nat.lt_of_lt_of_le (show x % 256 < 2 ^ 8 by omega) (Nat.pow_le_pow_right (by omega) (by omega)))
        rw [h8]
        simp [hi, Nat.le_of_not_lt hi]
    rw [Nat.xor_comm, h2]
    omega
  conv => lhs; rw [e]
  rw [halves_xor, halves_high]

/-- 'x ^ y' on a uint32, as the walk spells it. -/
theorem xor_u32 (x y : Nat) (hx : x < 4294967296) (hy : y < 4294967296) : bits .xor .u32 (x : Int) (y : Int) = ((x ^^^ y : Nat) : Int) := by
  have h : x ^^^ y < 4294967296 := Nat.xor_lt_two_pow (n := 32) hx hy
  have ex : (BitVec.ofInt IntKind.u32.bits (x : Int)).toNat = x := by
    rw [BitVec.toNat_ofInt]
    show ((x : Int) % ((2 ^ 32 : Nat) : Int)).toNat = x
    omega
  have ey : (BitVec.ofInt IntKind.u32.bits (y : Int)).toNat = y := by
    rw [BitVec.toNat_ofInt]
    show ((y : Int) % ((2 ^ 32 : Nat) : Int)).toNat = y
    omega
  unfold bits
  simp only
  rw [BitVec.toNat_xor, ex, ey, IntKind.wrap_u32]
  omega

/-- A sum in four bytes, the highest first. -/
def four (x : Nat) : List UInt8 := [UInt8.ofNat (x / 16777216), UInt8.ofNat (x / 65536 % 256), UInt8.ofNat (x / 256 % 256), UInt8.ofNat (x % 256)]

theorem four_length (x : Nat) : (four x).length = 4 := rfl

theorem four_inj (x y : Nat) (hx : x < 4294967296) (hy : y < 4294967296) (h : four x = four y) : x = y := by
  unfold four at h
  simp only [List.cons.injEq, and_true] at h
  obtain ⟨h1, h2, h3, h4⟩ := h
  have g1 := congrArg UInt8.toNat h1
  have g2 := congrArg UInt8.toNat h2
  have g3 := congrArg UInt8.toNat h3
  have g4 := congrArg UInt8.toNat h4
  simp only [UInt8.toNat_ofNat'] at g1 g2 g3 g4
  omega

/-- A text and its sum with one byte turned are no text and its sum. -/
theorem sealed_turned (s : Nat) (hs : s < 4294967296) (l a r m : List UInt8) (b c : UInt8) (h : b ≠ c) (hl : l ++ four (sumL s l) = a ++ b :: r) (hm : m ++ four (sumL s m) = a ++ c :: r) : False := by
  have hlen : l.length = m.length := by
    have h1 := congrArg List.length hl
    have h2 := congrArg List.length hm
    simp [four_length] at h1 h2
    omega
  by_cases hp : a.length < l.length
  · -- the byte lies in the text: the sums are one, the texts are not
    have e1 : l = a ++ b :: r.take (l.length - a.length - 1) := by
      have h1 := congrArg (List.take l.length) hl
      rw [List.take_left, List.take_append] at h1
      have h2 : List.take l.length a = a := List.take_of_length_le (by omega)
      rw [h2] at h1
      obtain ⟨k, hk⟩ : ∃ k, l.length - a.length = k + 1 := ⟨l.length - a.length - 1, by omega⟩
      rw [hk, List.take_succ_cons] at h1
      rw [hk]
      exact h1
    have e2 : m = a ++ c :: r.take (l.length - a.length - 1) := by
      have h1 := congrArg (List.take l.length) hm
      rw [hlen, List.take_left, ← hlen, List.take_append] at h1
      have h2 : List.take l.length a = a := List.take_of_length_le (by omega)
      rw [h2] at h1
      obtain ⟨k, hk⟩ : ∃ k, l.length - a.length = k + 1 := ⟨l.length - a.length - 1, by omega⟩
      rw [hk, List.take_succ_cons] at h1
      rw [hk]
      exact h1
    have e3 : four (sumL s l) = four (sumL s m) := by
      have h1 := congrArg (List.drop l.length) hl
      have h2 := congrArg (List.drop l.length) hm
      rw [List.drop_left, List.drop_append, List.drop_of_length_le (by omega)] at h1
      rw [hlen, List.drop_left, ← hlen, List.drop_append, List.drop_of_length_le (by omega)] at h2
      obtain ⟨k, hk⟩ : ∃ k, l.length - a.length = k + 1 := ⟨l.length - a.length - 1, by omega⟩
      rw [hk, List.drop_succ_cons] at h1 h2
      rw [h1, h2]
    have e4 := four_inj _ _ (sumL_lt l s hs) (sumL_lt m s hs) e3
    rw [e1, e2] at e4
    exact sumL_turned s hs a _ b c h e4
  · -- it lies in the sum: the texts are one
    have e1 : l = a.take l.length := by
      have h1 := congrArg (List.take l.length) hl
      rw [List.take_left, List.take_append_of_le_length (by omega)] at h1
      exact h1
    have e2 : m = a.take l.length := by
      have h1 := congrArg (List.take l.length) hm
      rw [hlen, List.take_left, ← hlen, List.take_append_of_le_length (by omega)] at h1
      exact h1
    rw [e2, ← e1, hl] at hm
    simp at hm
    exact h hm

end Go.Proofs.YtoaifgblbfdncaaDoor
namespace Go.Proofs.YtoaifgblbfdncaaDoor

/-- Four steps at once: the table's number of the lowest half byte, and the rest. -/
theorem halves_four (x : Nat) : halves 4 x = x / 16 ^^^ halves 4 (x % 16) := by
  have e : x = x % 16 ^^^ (x / 16) * 2 ^ 4 := by
    have h1 := Nat.div_add_mod x 16
    have h2 : (x / 16) * 2 ^ 4 ^^^ x % 16 = (x / 16) * 2 ^ 4 + x % 16 := by
      rw [Nat.mul_comm]
      apply Nat.eq_of_testBit_eq
      intro i
      rw [Nat.testBit_two_pow_mul_add _ (show x % 16 < 2 ^ 4 by omega), Nat.testBit_xor, Nat.testBit_two_pow_mul]
      by_cases hi : i < 4
      · have h9 : decide (4 ≤ i) = false := decide_eq_false (by omega)
        simp [hi, h9]
      · have h8 : (x % 16).testBit i = false := Nat.testBit_lt_two_pow (Nat.lt_of_lt_of_le (show x % 16 < 2 ^ 4 by omega) (Nat.pow_le_pow_right (by omega) (by omega)))
        rw [h8]
        simp [hi, Nat.le_of_not_lt hi]
    rw [Nat.xor_comm, h2]
    omega
  conv => lhs; rw [e]
  rw [halves_xor, halves_high, Nat.xor_comm]

theorem halves_snoc : ∀ (k x : Nat), halves (k + 1) x = half (halves k x)
  | 0, _ => rfl
  | k + 1, x => by
    show halves (k + 1) (half x) = half (halves k (half x))
    exact halves_snoc k (half x)

theorem halves_eight (x : Nat) : halves 8 x = halves 4 (halves 4 x) := rfl

/-- The table, as the program's text has it. -/
def halfTab : List Int := [0, 1166650509, 2333301018, 3466261911, 3189058079, 4221339282, 889615109, 1888477064, 3558460437, 2442158232, 1594529039, 444807554, 1779230218, 797264519, 3776954128, 2761298845]

theorem halfTab_at : ∀ k : Nat, k < 16 → halfTab[k]? = some ((halves 4 k : Nat) : Int) := by decide

/-- 'x & 15' on a uint32. -/
theorem and_u32 (x : Nat) (hx : x < 4294967296) : bits .and .u32 (x : Int) 15 = ((x % 16 : Nat) : Int) := by
  have ex : (BitVec.ofInt IntKind.u32.bits (x : Int)).toNat = x := by
    rw [BitVec.toNat_ofInt]
    show ((x : Int) % ((2 ^ 32 : Nat) : Int)).toNat = x
    omega
  have ey : (BitVec.ofInt IntKind.u32.bits 15).toNat = 15 := by decide
  unfold bits
  simp only
  rw [BitVec.toNat_and, ex, ey, IntKind.wrap_u32]
  have := Nat.and_two_pow_sub_one_eq_mod x 4
  simp at this
  rw [this]
  omega

end Go.Proofs.YtoaifgblbfdncaaDoor
