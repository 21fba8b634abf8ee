/-
  Numbers that were seen as a first one and a bit for each of six; no program is spoken of here.
  Memory of which one block alone is written; a cursor over bytes that lies in such a block; no program is spoken of here.
-/
import Derived.Test.YtogninaejehinawJ01
import Derived.Test.YtogninaejehinawJ02
import Derived.Below
import Derived.WalkKit
import Derived.WalkSmall
import Derived.Laws.BitsLemmas
namespace Go.Proofs.Ytogninaejehinaw
open Go.RowKit

/-- What is seen, as its first number and bits. -/
structure SpanIs (seen : List Int) (f : Int) (b : Nat) : Prop where
  top : f = topZ seen
  lt : b < 64
  bit : ∀ k : Nat, k < 6 → (b.testBit k = true ↔ f - (k : Int) ∈ seen)
/-- How a number stands beside those seen. -/
def standN (f : Int) (b : Nat) (n : Int) : Int :=
  if n < 1 ∨ 1000000000 < n then 0 else if f < n then 4 else if n ≤ f - 6 then 1 else if b.testBit (f - n).toNat = true then 2 else 3
theorem stand_fresh {seen : List Int} {f n : Int} {b : Nat} (hs : SeenP seen) (h : SpanIs seen f b) : 3 ≤ standN f b n ↔ FreshP seen n := by
  have ht := h.top
  unfold standN
  by_cases h1 : n < 1 ∨ 1000000000 < n
  · rw [if_pos h1]
    exact ⟨fun h => absurd h (by omega), fun h => by have := h.2.1; omega⟩
  · rw [if_neg h1]
    by_cases h2 : f < n
    · rw [if_pos h2]
      refine ⟨fun _ => ⟨hs, by omega, fun hm => ?_, by omega⟩, fun _ => by omega⟩
      have := top_most hs.2.2.1 n hm
      omega
    · rw [if_neg h2]
      by_cases h3 : n ≤ f - 6
      · rw [if_pos h3]
        exact ⟨fun h => absurd h (by omega), fun h => by have := h.2.2.2; omega⟩
      · rw [if_neg h3]
        have hb := h.bit (f - n).toNat (by omega)
        rw [show f - (((f - n).toNat : Nat) : Int) = n by omega] at hb
        by_cases h4 : b.testBit (f - n).toNat = true
        · rw [if_pos h4]
          exact ⟨fun h => absurd h (by omega), fun h => absurd (hb.1 h4) h.2.2.1⟩
        · rw [if_neg h4]
          exact ⟨fun _ => ⟨hs, by omega, fun hm => h4 (hb.2 hm), by omega⟩, fun _ => by omega⟩
theorem stand_four {f n : Int} {b : Nat} (h1 : 1 ≤ n) (h2 : n ≤ 1000000000) (h : f < n) : standN f b n = 4 := by
  unfold standN
  rw [if_neg (by omega), if_pos h]
theorem stand_three {f n : Int} {b : Nat} (h1 : 1 ≤ n) (h2 : n ≤ 1000000000) (h : ¬ f < n) (h3 : f - 6 < n) (hb : b.testBit (f - n).toNat = false) : standN f b n = 3 := by
  unfold standN
  rw [if_neg (by omega), if_neg h, if_neg (by omega), if_neg (by rw [hb]; simp)]
/-- The first one and the bits behind a number that is taken. -/
def takeF (f n : Int) : Int := if f < n then n else f
def takeB (f : Int) (b : Nat) (n : Int) : Nat := if f < n then b * 2 ^ min (n - f).toNat 8 % 64 ||| 1 else b ||| 2 ^ (f - n).toNat
theorem one_bit (k : Nat) : (1 : Nat).testBit k = decide (0 = k) := by
  have := @Nat.testBit_two_pow 0 k
  rwa [Nat.pow_zero] at this
theorem takeB_up {f n : Int} {b d : Nat} (h : f < n) (hd : (n - f).toNat = d) : takeB f b n = b * 2 ^ min d 8 % 64 ||| 1 := by
  unfold takeB
  rw [if_pos h, hd]
theorem takeB_at {f n : Int} {b k : Nat} (h : ¬ f < n) (hk : (f - n).toNat = k) : takeB f b n = b ||| 2 ^ k := by
  unfold takeB
  rw [if_neg h, hk]
theorem span_take {seen r : List Int} {f n : Int} {b : Nat} (h : SpanIs seen f b) (hf : FreshP seen n) (hr : NoteIs seen n r) : SpanIs r (takeF f n) (takeB f b n) := by
  have ht := note_top hf hr
  have h0 := h.top
  have hF : takeF f n = topZ r := by
    unfold takeF
    rw [ht, ← h0]
    split <;> omega
  have hm : ∀ x, topZ r - 6 < x → (x ∈ r ↔ x = n ∨ x ∈ seen) := by
    intro x hx
    rcases hr with ⟨-, rfl⟩ | ⟨h9, -⟩
    · rw [near_top (put_ne n seen)] at hx
      constructor
      · intro h1
        rcases put_mem.1 (List.mem_filter.1 h1).1 with h2 | ⟨h2, -⟩
        · exact .inl h2
        · exact .inr h2
      · intro h1
        refine List.mem_filter.2 ⟨?_, decide_eq_true hx⟩
        by_cases e : x = n
        · exact put_mem.2 (.inl e)
        · rcases h1 with h1 | h1
          · exact absurd h1 e
          · exact put_mem.2 (.inr ⟨h1, e⟩)
    · exact absurd hf h9
  have hmx : ∀ x ∈ seen, x ≤ f := fun x hx => by rw [h0]; exact top_most hf.1.2.2.1 x hx
  refine ⟨hF, ?_, fun k hk => ?_⟩
  · unfold takeB
    split
    · exact Nat.or_lt_two_pow (n := 6) (by omega) (by omega)
    · have h2 := hf.2.2.2
      have h3 : (2 : Nat) ^ (f - n).toNat < 2 ^ 6 := Nat.pow_lt_pow_right (by omega) (by omega)
      exact Nat.or_lt_two_pow (n := 6) h.lt h3
  · rw [hm _ (by rw [← hF]; omega)]
    unfold takeB takeF
    by_cases hlt : f < n
    · rw [if_pos hlt, if_pos hlt, Nat.testBit_or, Bool.or_eq_true, show (64 : Nat) = 2 ^ 6 from rfl, Nat.testBit_mod_two_pow, Nat.testBit_mul_two_pow, one_bit, Bool.and_eq_true, Bool.and_eq_true, decide_eq_true_eq, decide_eq_true_eq, decide_eq_true_eq]
      constructor
      · rintro (⟨-, h1, h2⟩ | h1)
        · right
          have h3 := (h.bit (k - min (n - f).toNat 8) (by omega)).1 h2
          rwa [show f - ((k - min (n - f).toNat 8 : Nat) : Int) = n - (k : Int) by omega] at h3
        · left; omega
      · rintro (h1 | h1)
        · right; omega
        · left
          have h2 := hmx _ h1
          refine ⟨hk, by omega, (h.bit _ (by omega)).2 ?_⟩
          rwa [show f - ((k - min (n - f).toNat 8 : Nat) : Int) = n - (k : Int) by omega]
    · rw [if_neg hlt, if_neg hlt, Nat.testBit_or, Bool.or_eq_true, Nat.testBit_two_pow, decide_eq_true_eq, h.bit k hk]
      have h2 := hf.2.2.2
      constructor
      · rintro (h1 | h1)
        · exact .inr h1
        · left; omega
      · rintro (h1 | h1)
        · right; omega
        · exact .inl h1
theorem span_nil : SpanIs [] 0 0 := ⟨rfl, by omega, fun k _ => by simp⟩
theorem span_none {f : Int} {b : Nat} (h : SpanIs [] f b) : f = 0 ∧ b = 0 := by
  refine ⟨h.top, Nat.eq_of_testBit_eq fun k => ?_⟩
  rw [Nat.zero_testBit]
  rcases Nat.lt_or_ge k 6 with hk | hk
  · rw [Bool.eq_false_iff]
    intro he
    have := (h.bit k hk).1 he
    simp at this
  · have h2 : (2 : Nat) ^ 6 ≤ 2 ^ k := Nat.pow_le_pow_right (by omega) hk
    exact Nat.testBit_lt_two_pow (by have := h.lt; omega)
theorem span_one (x : Int) : SpanIs [x] x (0 ||| 2 ^ 0) := by
  refine ⟨rfl, by decide, fun k hk => ?_⟩
  rw [Nat.zero_or, Nat.testBit_two_pow, decide_eq_true_eq, List.mem_singleton]
  omega
theorem span_snoc {l : List Int} {f x : Int} {b : Nat} (h : SpanIs l f b) (hl : l ≠ []) (h1 : x ≤ f) (h2 : f - 6 < x) : SpanIs (l ++ [x]) f (b ||| 2 ^ (f - x).toNat) := by
  refine ⟨?_, ?_, fun k hk => ?_⟩
  · rw [h.top]
    cases l with
    | nil => exact absurd rfl hl
    | cons y l => rfl
  · have h3 : (2 : Nat) ^ (f - x).toNat < 2 ^ 6 := Nat.pow_lt_pow_right (by omega) (by omega)
    exact Nat.or_lt_two_pow (n := 6) h.lt h3
  · rw [Nat.testBit_or, Bool.or_eq_true, Nat.testBit_two_pow, decide_eq_true_eq, h.bit k hk, List.mem_append, List.mem_singleton]
    constructor
    · rintro (h1 | h1)
      · exact .inl h1
      · right; omega
    · rintro (h1 | h1)
      · exact .inl h1
      · right; omega
/-- What the first bits tell. -/
def toldZ (f : Int) (b j : Nat) : List Int := ((List.range j).filter (fun k => b.testBit k)).map (fun k : Nat => f - (k : Int))
theorem told_yes {f : Int} {b j : Nat} (h : b.testBit j = true) : toldZ f b (j + 1) = toldZ f b j ++ [f - (j : Int)] := by
  unfold toldZ
  rw [List.range_succ, List.filter_append, List.map_append]
  congr 1
  rw [List.filter_cons, if_pos h]
  rfl
theorem told_no {f : Int} {b j : Nat} (h : b.testBit j = false) : toldZ f b (j + 1) = toldZ f b j := by
  unfold toldZ
  rw [List.range_succ, List.filter_append, List.map_append, List.filter_cons, if_neg (by rw [h]; simp)]
  simp
theorem told_mem {f : Int} {b j : Nat} {x : Int} : x ∈ toldZ f b j ↔ ∃ k, k < j ∧ b.testBit k = true ∧ x = f - (k : Int) := by
  unfold toldZ
  rw [List.mem_map]
  constructor
  · rintro ⟨k, h, rfl⟩
    exact ⟨k, List.mem_range.1 (List.mem_filter.1 h).1, (List.mem_filter.1 h).2, rfl⟩
  · rintro ⟨k, h1, h2, rfl⟩
    exact ⟨k, List.mem_filter.2 ⟨List.mem_range.2 h1, h2⟩, rfl⟩
theorem told_len (f : Int) (b j : Nat) : (toldZ f b j).length ≤ j := by
  unfold toldZ
  rw [List.length_map]
  have := List.length_filter_le (fun k => b.testBit k) (List.range j)
  rwa [List.length_range] at this
theorem told_desc (f : Int) (b j : Nat) : DescZ (toldZ f b j) := by
  induction j with
  | zero => trivial
  | succ j ih =>
    cases h : b.testBit j with
    | false => rw [told_no h]; exact ih
    | true =>
      rw [told_yes h]
      refine desc_append ih trivial fun x hx y hy => ?_
      obtain ⟨k, h1, -, rfl⟩ := told_mem.1 hx
      rw [List.mem_singleton.1 hy]
      omega
/-- Descending numbers are known by which they are. -/
theorem desc_same {a b : List Int} (ha : DescZ a) (hb : DescZ b) (h : ∀ x, x ∈ a ↔ x ∈ b) : a = b := by
  induction a generalizing b with
  | nil =>
    cases b with
    | nil => rfl
    | cons y b => exact absurd ((h y).2 List.mem_cons_self) (by simp)
  | cons x a ih =>
    cases b with
    | nil => exact absurd ((h x).1 List.mem_cons_self) (by simp)
    | cons y b =>
      have h1 : x ≤ y := top_most hb x ((h x).1 List.mem_cons_self)
      have h2 : y ≤ x := top_most ha y ((h y).2 List.mem_cons_self)
      obtain rfl : x = y := by omega
      rw [ih (desc_tail ha) (desc_tail hb) fun z => ?_]
      constructor
      · intro hz
        have := desc_head ha z hz
        rcases List.mem_cons.1 ((h z).1 (List.mem_cons_of_mem _ hz)) with e | e
        · omega
        · exact e
      · intro hz
        have := desc_head hb z hz
        rcases List.mem_cons.1 ((h z).2 (List.mem_cons_of_mem _ hz)) with e | e
        · omega
        · exact e
theorem span_told {seen : List Int} {f : Int} {b : Nat} (hs : SeenP seen) (h : SpanIs seen f b) : toldZ f b 6 = seen := by
  refine desc_same (told_desc f b 6) hs.2.2.1 fun x => ?_
  rw [told_mem]
  constructor
  · rintro ⟨k, h1, h2, rfl⟩
    exact (h.bit k h1).1 h2
  · intro hx
    have h1 := top_most hs.2.2.1 x hx
    have h2 := hs.2.2.2 x hx
    have h3 := h.top
    refine ⟨(f - x).toNat, by omega, (h.bit _ (by omega)).2 ?_, by omega⟩
    rwa [show f - (((f - x).toNat : Nat) : Int) = x by omega]

theorem bits_and_u8_nat (a b : Nat) (ha : a < 256) (hb : b < 256) : bits .and .u8 (a : Int) (b : Int) = ((a &&& b : Nat) : Int) := by
  have hx : a &&& b ≤ a := Nat.and_le_left
  have h1 : (BitVec.ofInt 8 (a : Int)).toNat = a := by
    rw [BitVec.ofInt_natCast, BitVec.toNat_ofNat]; exact Nat.mod_eq_of_lt (by omega)
  have h2 : (BitVec.ofInt 8 (b : Int)).toNat = b := by
    rw [BitVec.ofInt_natCast, BitVec.toNat_ofNat]; exact Nat.mod_eq_of_lt (by omega)
  show IntKind.u8.wrap ((BitVec.ofInt 8 (a : Int) &&& BitVec.ofInt 8 (b : Int)).toNat : Int) = _
  rw [BitVec.toNat_and, h1, h2, IntKind.wrap_u8]
  omega
theorem bits_or_u8_nat (a b : Nat) (ha : a < 256) (hb : b < 256) : bits .or .u8 (a : Int) (b : Int) = ((a ||| b : Nat) : Int) := by
  have hx : a ||| b < 2 ^ 8 := Nat.or_lt_two_pow (by omega) (by omega)
  have h1 : (BitVec.ofInt 8 (a : Int)).toNat = a := by
    rw [BitVec.ofInt_natCast, BitVec.toNat_ofNat]; exact Nat.mod_eq_of_lt (by omega)
  have h2 : (BitVec.ofInt 8 (b : Int)).toNat = b := by
    rw [BitVec.ofInt_natCast, BitVec.toNat_ofNat]; exact Nat.mod_eq_of_lt (by omega)
  show IntKind.u8.wrap ((BitVec.ofInt 8 (a : Int) ||| BitVec.ofInt 8 (b : Int)).toNat : Int) = _
  rw [BitVec.toNat_or, h1, h2, IntKind.wrap_u8]
  omega
theorem bits_or_one (a : Nat) (ha : a < 256) : bits .or .u8 (a : Int) 1 = ((a ||| 1 : Nat) : Int) := bits_or_u8_nat a 1 ha (by omega)
/-- Whether a bit is there, as the program asks it. -/
theorem bit_asked (b k : Nat) : ((b &&& 2 ^ k : Nat) = 0) ↔ b.testBit k = false := by
  constructor
  · intro h
    have h2 := congrArg (fun x => Nat.testBit x k) h
    simp only [Nat.testBit_and, Nat.testBit_two_pow, decide_true, Bool.and_true, Nat.zero_testBit] at h2
    exact h2
  · intro h
    refine Nat.eq_of_testBit_eq fun j => ?_
    rw [Nat.testBit_and, Nat.testBit_two_pow, Nat.zero_testBit]
    by_cases e : k = j
    · subst e; rw [h]; rfl
    · rw [decide_eq_false e, Bool.and_false]

end Go.Proofs.Ytogninaejehinaw
namespace Go.Proofs.Ytogninaejehinaw
open Go.RowKit

/-- What an 'and' with a number that is not below 0 leaves lies in 0 .. that number. -/
theorem and_mask (x : Int) (m : Nat) (hm : m < 2 ^ 63) : 0 ≤ bits .and .i64 x (m : Int) ∧ bits .and .i64 x (m : Int) ≤ (m : Int) := by
  unfold bits
  simp only
  have hb : (BitVec.ofInt IntKind.i64.bits (m : Int)).toNat = m := by
    rw [BitVec.toNat_ofInt]
    show ((m : Int) % ((2 ^ 64 : Nat) : Int)).toNat = m
    omega
  have hle : (BitVec.ofInt IntKind.i64.bits x &&& BitVec.ofInt IntKind.i64.bits (m : Int)).toNat ≤ m := by
    rw [BitVec.toNat_and, hb]
    exact Nat.and_le_right
  generalize (BitVec.ofInt IntKind.i64.bits x &&& BitVec.ofInt IntKind.i64.bits (m : Int)).toNat = k at hle
  have hw : IntKind.i64.wrap (k : Int) = (k : Int) := by rw [IntKind.wrap_i64]; omega
  rw [hw]
  omega

/-- Block c alone may have been written; blocks may have been added. -/
structure Only (c : Nat) (w w' : World) : Prop where
  os : w'.os = w.os
  tape : w'.tape = w.tape
  output : w'.output = w.output
  size : w.heap.size ≤ w'.heap.size
  block : ∀ k, k < w.heap.size → k ≠ c → w'.heap[k]? = w.heap[k]?

theorem Only.refl (c : Nat) (w : World) : Only c w w := ⟨rfl, rfl, rfl, Nat.le_refl _, fun _ _ _ => rfl⟩
theorem Only.trans {c : Nat} {w w1 w2 : World} (h : Only c w w1) (k : Only c w1 w2) : Only c w w2 :=
  ⟨k.os.trans h.os, k.tape.trans h.tape, k.output.trans h.output, Nat.le_trans h.size k.size, fun i hi hc => (k.block i (Nat.lt_of_lt_of_le hi h.size) hc).trans (h.block i hi hc)⟩
theorem Only.of_below {c : Nat} {w w' : World} (h : Below w.heap.size w w') : Only c w w' := ⟨h.os, h.tape, h.output, h.size, fun k hk _ => h.block k hk⟩
theorem Only.below {c B : Nat} {w w' : World} (h : Only c w w') (hB : B ≤ c) (hs : B ≤ w.heap.size) : Below B w w' :=
  ⟨h.os, h.tape, h.output, h.size, fun k hk => h.block k (by omega) (by omega)⟩
theorem Only.cell {c : Nat} {w w' : World} (h : Only c w w') {p : Addr} (hp : p.block < w.heap.size) (hc : p.block ≠ c) : w'.cell? p = w.cell? p := World.cell?_of_block (w := w) (h.block p.block hp hc)
theorem Only.setCell {c : Nat} {w : World} (o : Nat) (v : Value) : Only c w (w.setCell ⟨c, o, none⟩ v) := by
  have h := Below.setCell (B := 0) (Below.refl 0 w) (p := ⟨c, o, none⟩) (Nat.zero_le _) v
  exact ⟨h.os, h.tape, h.output, h.size, fun k _ hc => Below.heap_setCell w _ v k hc⟩
theorem Only.drewN {c : Nat} {w w' : World} (h : Only c w w') (n : Nat) : Only c w (w'.drewN n) := by
  have hb := below_drewN (B := w'.heap.size) (Below.refl _ w') n
  exact h.trans (.of_below hb)

theorem set_off (w : World) (c o q : Nat) (v : Value) (h : o ≠ q) : (w.setCell ⟨c, o, none⟩ v).cell? ⟨c, q, none⟩ = w.cell? ⟨c, q, none⟩ :=
  World.cell?_setCell_other _ _ _ _ (fun e => h (congrArg Addr.off e))
theorem set_on (w : World) (c o : Nat) (u v : Value) (h : w.cell? ⟨c, o, none⟩ = some u) : (w.setCell ⟨c, o, none⟩ v).cell? ⟨c, o, none⟩ = some v :=
  World.cell?_setCell_same _ _ _ h

/-- A cursor in block c over 'len' bytes. -/
structure Cur (c : Nat) (a : Option Addr) (len cap : Nat) (w : World) : Prop where
  few : len ≤ 1048576
  c0 : w.cell? ⟨c, 0, none⟩ = some (.slice a len cap)
  c1 : ∃ i : Nat, i ≤ len ∧ w.cell? ⟨c, 1, none⟩ = some (.int .i64 i)
  c2 : ∃ h : Int, w.cell? ⟨c, 2, none⟩ = some (.int .i64 h)
  f1 : w.frozen? ⟨c, 1, none⟩ = false
  f2 : w.frozen? ⟨c, 2, none⟩ = false
  bytes : ∀ j, j < len → ∃ (b off : Nat) (x : Int), a = some ⟨b, off, none⟩ ∧ b < c ∧ w.cell? ⟨b, off + j, none⟩ = some (.int .u8 x) ∧ 0 ≤ x ∧ x ≤ 255

theorem cell_size {w : World} {p : Addr} {v : Value} (h : w.cell? p = some v) : p.block < w.heap.size := by
  rcases Nat.lt_or_ge p.block w.heap.size with h' | h'
  · exact h'
  · exfalso
    unfold World.cell? at h
    simp [Array.getElem?_eq_none h'] at h

/-- Behind a store into the cursor's two numbers it is one still. -/
theorem Cur.turn {c : Nat} {a : Option Addr} {len cap : Nat} {w w' : World} (h : Cur c a len cap w) (ho : Only c w w') (h0 : w'.cell? ⟨c, 0, none⟩ = some (.slice a len cap))
    (h1 : ∃ i : Nat, i ≤ len ∧ w'.cell? ⟨c, 1, none⟩ = some (.int .i64 i)) (h2 : ∃ h : Int, w'.cell? ⟨c, 2, none⟩ = some (.int .i64 h)) (f1 : w'.frozen? ⟨c, 1, none⟩ = false) (f2 : w'.frozen? ⟨c, 2, none⟩ = false) : Cur c a len cap w' := by
  refine ⟨h.few, h0, h1, h2, f1, f2, fun j hj => ?_⟩
  obtain ⟨b, off, x, ha, hb, hx, x0, x1⟩ := h.bytes j hj
  exact ⟨b, off, x, ha, hb, by rw [ho.cell (cell_size hx) (by show b ≠ c; omega)]; exact hx, x0, x1⟩

/-- What lies in blocks as they were reads as it did. -/
theorem Cur.kept {c : Nat} {a : Option Addr} {len cap : Nat} {B : Nat} {w w' : World} (h : Cur c a len cap w) (hb : Below B w w') (hs : c < B) : Cur c a len cap w' := by
  refine ⟨h.few, by rw [hb.cell (p := ⟨c, 0, none⟩) hs]; exact h.c0, ?_, ?_, by rw [hb.frozen (p := ⟨c, 1, none⟩) hs]; exact h.f1, by rw [hb.frozen (p := ⟨c, 2, none⟩) hs]; exact h.f2, fun j hj => ?_⟩
  · rw [hb.cell (p := ⟨c, 1, none⟩) hs]; exact h.c1
  · rw [hb.cell (p := ⟨c, 2, none⟩) hs]; exact h.c2
  · obtain ⟨b, off, x, ha, hbc, hx, x0, x1⟩ := h.bytes j hj
    exact ⟨b, off, x, ha, hbc, by rw [hb.cell (p := ⟨b, off + j, none⟩) (by show b < B; omega)]; exact hx, x0, x1⟩
theorem Cur.below {c : Nat} {a : Option Addr} {len cap : Nat} {w w' : World} (h : Cur c a len cap w) (hb : Below w.heap.size w w') : Cur c a len cap w' :=
  h.kept hb (cell_size (p := ⟨c, 0, none⟩) h.c0)
theorem Only.behind {c : Nat} {w w1 w2 : World} (h : Only c w w1) (k : Below w.heap.size w1 w2) : Only c w w2 :=
  ⟨k.os.trans h.os, k.tape.trans h.tape, k.output.trans h.output, Nat.le_trans h.size k.size, fun i hi hc => (k.block i hi).trans (h.block i hi hc)⟩

/-- Bytes that can be read, in blocks that are there. -/
structure Src (a : Option Addr) (len : Nat) (w : World) : Prop where
  few : len ≤ 1048576
  bytes : ∀ j, j < len → ∃ (b off : Nat) (x : Int), a = some ⟨b, off, none⟩ ∧ b < w.heap.size ∧ w.cell? ⟨b, off + j, none⟩ = some (.int .u8 x) ∧ 0 ≤ x ∧ x ≤ 255

theorem Src.below {a : Option Addr} {len : Nat} {w w' : World} (h : Src a len w) (hb : Below w.heap.size w w') : Src a len w' := by
  refine ⟨h.few, fun j hj => ?_⟩
  obtain ⟨b, off, x, ha, hs, hx, x0, x1⟩ := h.bytes j hj
  exact ⟨b, off, x, ha, Nat.lt_of_lt_of_le hs hb.size, by rw [hb.cell (p := ⟨b, off + j, none⟩) hs]; exact hx, x0, x1⟩

/-- How a draw of a number ends: it lies in 0 .. hi; the cursor is one still; no other block was written. -/
def DrewInt (hi : Int) (c : Nat) (a : Option Addr) (len cap : Nat) (w : World) (e : Ending) (w' : World) : Prop :=
  ∃ x : Int, 0 ≤ x ∧ x ≤ hi ∧ e = .returned (.int .i64 x) ∧ Cur c a len cap w' ∧ Only c w w'

end Go.Proofs.Ytogninaejehinaw
