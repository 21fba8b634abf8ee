/-
  Numbers that were seen as a first one and a bit for each of six; no program is spoken of here.
  The program's SeenOk.
-/
import Derived.Test.YtoaifgblbfdncabGreatDoorJ33
import Derived.Test.YtoaifgblbfdncabGreatDoorJ12
import Derived.Test.YtoaifgblbfdncabGreatDoorJ01
import Derived.Test.YtoaifgblbfdncabGreatDoorJ14
namespace Go.Proofs.YtoaifgblbfdncabGreatDoor
open Go.RowKit

/-- What is seen, as its first number and bits. -/
structure SpanIs (seen : List Int) (f : Int) (b : Nat) : Prop where
  top : f = topZ seen
  lt : b < 64
  bit : ∀ k : Nat, k < 6 → (b.testBit k = true ↔ f - (k : Int) ∈ seen)
/-- How a number stands beside those seen. -/
def standN (f : Int) (b : Nat) (n : Int) : Int :=
  if n < 1 ∨ 1000000000 < n then 0 else if f < n then 4 else if n ≤ f - 6 then 1 else if b.testBit (f - n).toNat = true then 2 else 3
theorem stand_fresh {seen : List Int} {f n : Int} {b : Nat} (hs : SeenP seen) (h : SpanIs seen f b) : 3 ≤ standN f b n ↔ FreshP seen n := by
  have ht := h.top
  unfold standN
  by_cases h1 : n < 1 ∨ 1000000000 < n
  · rw [if_pos h1]
    exact ⟨fun h => absurd h (by omega), fun h => by have := h.2.1; omega⟩
  · rw [if_neg h1]
    by_cases h2 : f < n
    · rw [if_pos h2]
      refine ⟨fun _ => ⟨hs, by omega, fun hm => ?_, by omega⟩, fun _ => by omega⟩
      have := top_most hs.2.2.1 n hm
      omega
    · rw [if_neg h2]
      by_cases h3 : n ≤ f - 6
      · rw [if_pos h3]
        exact ⟨fun h => absurd h (by omega), fun h => by have := h.2.2.2; omega⟩
      · rw [if_neg h3]
        have hb := h.bit (f - n).toNat (by omega)
        rw [show f - (((f - n).toNat : Nat) : Int) = n by omega] at hb
        by_cases h4 : b.testBit (f - n).toNat = true
        · rw [if_pos h4]
          exact ⟨fun h => absurd h (by omega), fun h => absurd (hb.1 h4) h.2.2.1⟩
        · rw [if_neg h4]
          exact ⟨fun _ => ⟨hs, by omega, fun hm => h4 (hb.2 hm), by omega⟩, fun _ => by omega⟩
theorem stand_four {f n : Int} {b : Nat} (h1 : 1 ≤ n) (h2 : n ≤ 1000000000) (h : f < n) : standN f b n = 4 := by
  unfold standN
  rw [if_neg (by omega), if_pos h]
theorem stand_three {f n : Int} {b : Nat} (h1 : 1 ≤ n) (h2 : n ≤ 1000000000) (h : ¬ f < n) (h3 : f - 6 < n) (hb : b.testBit (f - n).toNat = false) : standN f b n = 3 := by
  unfold standN
  rw [if_neg (by omega), if_neg h, if_neg (by omega), if_neg (by rw [hb]; simp)]
/-- The first one and the bits behind a number that is taken. -/
def takeF (f n : Int) : Int := if f < n then n else f
def takeB (f : Int) (b : Nat) (n : Int) : Nat := if f < n then b * 2 ^ min (n - f).toNat 8 % 64 ||| 1 else b ||| 2 ^ (f - n).toNat
theorem one_bit (k : Nat) : (1 : Nat).testBit k = decide (0 = k) := by
  have := @Nat.testBit_two_pow 0 k
  rwa [Nat.pow_zero] at this
theorem takeB_up {f n : Int} {b d : Nat} (h : f < n) (hd : (n - f).toNat = d) : takeB f b n = b * 2 ^ min d 8 % 64 ||| 1 := by
  unfold takeB
  rw [if_pos h, hd]
theorem takeB_at {f n : Int} {b k : Nat} (h : ¬ f < n) (hk : (f - n).toNat = k) : takeB f b n = b ||| 2 ^ k := by
  unfold takeB
  rw [if_neg h, hk]
theorem span_take {seen r : List Int} {f n : Int} {b : Nat} (h : SpanIs seen f b) (hf : FreshP seen n) (hr : NoteIs seen n r) : SpanIs r (takeF f n) (takeB f b n) := by
  have ht := note_top hf hr
  have h0 := h.top
  have hF : takeF f n = topZ r := by
    unfold takeF
    rw [ht, ← h0]
    split <;> omega
  have hm : ∀ x, topZ r - 6 < x → (x ∈ r ↔ x = n ∨ x ∈ seen) := by
    intro x hx
    rcases hr with ⟨-, rfl⟩ | ⟨h9, -⟩
    · rw [near_top (put_ne n seen)] at hx
      constructor
      · intro h1
        rcases put_mem.1 (List.mem_filter.1 h1).1 with h2 | ⟨h2, -⟩
        · exact .inl h2
        · exact .inr h2
      · intro h1
        refine List.mem_filter.2 ⟨?_, decide_eq_true hx⟩
        by_cases e : x = n
        · exact put_mem.2 (.inl e)
        · rcases h1 with h1 | h1
          · exact absurd h1 e
          · exact put_mem.2 (.inr ⟨h1, e⟩)
    · exact absurd hf h9
  have hmx : ∀ x ∈ seen, x ≤ f := fun x hx => by rw [h0]; exact top_most hf.1.2.2.1 x hx
  refine ⟨hF, ?_, fun k hk => ?_⟩
  · unfold takeB
    split
    · exact Nat.or_lt_two_pow (n := 6) (by omega) (by omega)
    · have h2 := hf.2.2.2
      have h3 : (2 : Nat) ^ (f - n).toNat < 2 ^ 6 := Nat.pow_lt_pow_right (by omega) (by omega)
      exact Nat.or_lt_two_pow (n := 6) h.lt h3
  · rw [hm _ (by rw [← hF]; omega)]
    unfold takeB takeF
    by_cases hlt : f < n
    · rw [if_pos hlt, if_pos hlt, Nat.testBit_or, Bool.or_eq_true, show (64 : Nat) = 2 ^ 6 from rfl, Nat.testBit_mod_two_pow, Nat.testBit_mul_two_pow, one_bit, Bool.and_eq_true, Bool.and_eq_true, decide_eq_true_eq, decide_eq_true_eq, decide_eq_true_eq]
      constructor
      · rintro (⟨-, h1, h2⟩ | h1)
        · right
          have h3 := (h.bit (k - min (n - f).toNat 8) (by omega)).1 h2
          rwa [show f - ((k - min (n - f).toNat 8 : Nat) : Int) = n - (k : Int) by omega] at h3
        · left; omega
      · rintro (h1 | h1)
        · right; omega
        · left
          have h2 := hmx _ h1
          refine ⟨hk, by omega, (h.bit _ (by omega)).2 ?_⟩
          rwa [show f - ((k - min (n - f).toNat 8 : Nat) : Int) = n - (k : Int) by omega]
    · rw [if_neg hlt, if_neg hlt, Nat.testBit_or, Bool.or_eq_true, Nat.testBit_two_pow, decide_eq_true_eq, h.bit k hk]
      have h2 := hf.2.2.2
      constructor
      · rintro (h1 | h1)
        · exact .inr h1
        · left; omega
      · rintro (h1 | h1)
        · right; omega
        · exact .inl h1
theorem span_nil : SpanIs [] 0 0 := ⟨rfl, by omega, fun k _ => by simp⟩
theorem span_none {f : Int} {b : Nat} (h : SpanIs [] f b) : f = 0 ∧ b = 0 := by
  refine ⟨h.top, Nat.eq_of_testBit_eq fun k => ?_⟩
  rw [Nat.zero_testBit]
  rcases Nat.lt_or_ge k 6 with hk | hk
  · rw [Bool.eq_false_iff]
    intro he
    have := (h.bit k hk).1 he
    simp at this
  · have h2 : (2 : Nat) ^ 6 ≤ 2 ^ k := Nat.pow_le_pow_right (by omega) hk
    exact Nat.testBit_lt_two_pow (by have := h.lt; omega)
theorem span_one (x : Int) : SpanIs [x] x (0 ||| 2 ^ 0) := by
  refine ⟨rfl, by decide, fun k hk => ?_⟩
  rw [Nat.zero_or, Nat.testBit_two_pow, decide_eq_true_eq, List.mem_singleton]
  omega
theorem span_snoc {l : List Int} {f x : Int} {b : Nat} (h : SpanIs l f b) (hl : l ≠ []) (h1 : x ≤ f) (h2 : f - 6 < x) : SpanIs (l ++ [x]) f (b ||| 2 ^ (f - x).toNat) := by
  refine ⟨?_, ?_, fun k hk => ?_⟩
  · rw [h.top]
    cases l with
    | nil => exact absurd rfl hl
    | cons y l => rfl
  · have h3 : (2 : Nat) ^ (f - x).toNat < 2 ^ 6 := Nat.pow_lt_pow_right (by omega) (by omega)
    exact Nat.or_lt_two_pow (n := 6) h.lt h3
  · rw [Nat.testBit_or, Bool.or_eq_true, Nat.testBit_two_pow, decide_eq_true_eq, h.bit k hk, List.mem_append, List.mem_singleton]
    constructor
    · rintro (h1 | h1)
      · exact .inl h1
      · right; omega
    · rintro (h1 | h1)
      · exact .inl h1
      · right; omega
/-- What the first bits tell. -/
def toldZ (f : Int) (b j : Nat) : List Int := ((List.range j).filter (fun k => b.testBit k)).map (fun k : Nat => f - (k : Int))
theorem told_yes {f : Int} {b j : Nat} (h : b.testBit j = true) : toldZ f b (j + 1) = toldZ f b j ++ [f - (j : Int)] := by
  unfold toldZ
  rw [List.range_succ, List.filter_append, List.map_append]
  congr 1
  rw [List.filter_cons, if_pos h]
  rfl
theorem told_no {f : Int} {b j : Nat} (h : b.testBit j = false) : toldZ f b (j + 1) = toldZ f b j := by
  unfold toldZ
  rw [List.range_succ, List.filter_append, List.map_append, List.filter_cons, if_neg (by rw [h]; simp)]
  simp
theorem told_mem {f : Int} {b j : Nat} {x : Int} : x ∈ toldZ f b j ↔ ∃ k, k < j ∧ b.testBit k = true ∧ x = f - (k : Int) := by
  unfold toldZ
  rw [List.mem_map]
  constructor
  · rintro ⟨k, h, rfl⟩
    exact ⟨k, List.mem_range.1 (List.mem_filter.1 h).1, (List.mem_filter.1 h).2, rfl⟩
  · rintro ⟨k, h1, h2, rfl⟩
    exact ⟨k, List.mem_filter.2 ⟨List.mem_range.2 h1, h2⟩, rfl⟩
theorem told_len (f : Int) (b j : Nat) : (toldZ f b j).length ≤ j := by
  unfold toldZ
  rw [List.length_map]
  have := List.length_filter_le (fun k => b.testBit k) (List.range j)
  rwa [List.length_range] at this
theorem told_desc (f : Int) (b j : Nat) : DescZ (toldZ f b j) := by
  induction j with
  | zero => trivial
  | succ j ih =>
    cases h : b.testBit j with
    | false => rw [told_no h]; exact ih
    | true =>
      rw [told_yes h]
      refine desc_append ih trivial fun x hx y hy => ?_
      obtain ⟨k, h1, -, rfl⟩ := told_mem.1 hx
      rw [List.mem_singleton.1 hy]
      omega
/-- Descending numbers are known by which they are. -/
theorem desc_same {a b : List Int} (ha : DescZ a) (hb : DescZ b) (h : ∀ x, x ∈ a ↔ x ∈ b) : a = b := by
  induction a generalizing b with
  | nil =>
    cases b with
    | nil => rfl
    | cons y b => exact absurd ((h y).2 List.mem_cons_self) (by simp)
  | cons x a ih =>
    cases b with
    | nil => exact absurd ((h x).1 List.mem_cons_self) (by simp)
    | cons y b =>
      have h1 : x ≤ y := top_most hb x ((h x).1 List.mem_cons_self)
      have h2 : y ≤ x := top_most ha y ((h y).2 List.mem_cons_self)
      obtain rfl : x = y := by omega
      rw [ih (desc_tail ha) (desc_tail hb) fun z => ?_]
      constructor
      · intro hz
        have := desc_head ha z hz
        rcases List.mem_cons.1 ((h z).1 (List.mem_cons_of_mem _ hz)) with e | e
        · omega
        · exact e
      · intro hz
        have := desc_head hb z hz
        rcases List.mem_cons.1 ((h z).2 (List.mem_cons_of_mem _ hz)) with e | e
        · omega
        · exact e
theorem span_told {seen : List Int} {f : Int} {b : Nat} (hs : SeenP seen) (h : SpanIs seen f b) : toldZ f b 6 = seen := by
  refine desc_same (told_desc f b 6) hs.2.2.1 fun x => ?_
  rw [told_mem]
  constructor
  · rintro ⟨k, h1, h2, rfl⟩
    exact (h.bit k h1).1 h2
  · intro hx
    have h1 := top_most hs.2.2.1 x hx
    have h2 := hs.2.2.2 x hx
    have h3 := h.top
    refine ⟨(f - x).toNat, by omega, (h.bit _ (by omega)).2 ?_, by omega⟩
    rwa [show f - (((f - x).toNat : Nat) : Int) = x by omega]

theorem bits_and_u8_nat (a b : Nat) (ha : a < 256) (hb : b < 256) : bits .and .u8 (a : Int) (b : Int) = ((a &&& b : Nat) : Int) := by
  have hx : a &&& b ≤ a := Nat.and_le_left
  have h1 : (BitVec.ofInt 8 (a : Int)).toNat = a := by
    rw [BitVec.ofInt_natCast, BitVec.toNat_ofNat]; exact Nat.mod_eq_of_lt (by omega)
  have h2 : (BitVec.ofInt 8 (b : Int)).toNat = b := by
    rw [BitVec.ofInt_natCast, BitVec.toNat_ofNat]; exact Nat.mod_eq_of_lt (by omega)
  show IntKind.u8.wrap ((BitVec.ofInt 8 (a : Int) &&& BitVec.ofInt 8 (b : Int)).toNat : Int) = _
  rw [BitVec.toNat_and, h1, h2, IntKind.wrap_u8]
  omega
theorem bits_or_u8_nat (a b : Nat) (ha : a < 256) (hb : b < 256) : bits .or .u8 (a : Int) (b : Int) = ((a ||| b : Nat) : Int) := by
  have hx : a ||| b < 2 ^ 8 := Nat.or_lt_two_pow (by omega) (by omega)
  have h1 : (BitVec.ofInt 8 (a : Int)).toNat = a := by
    rw [BitVec.ofInt_natCast, BitVec.toNat_ofNat]; exact Nat.mod_eq_of_lt (by omega)
  have h2 : (BitVec.ofInt 8 (b : Int)).toNat = b := by
    rw [BitVec.ofInt_natCast, BitVec.toNat_ofNat]; exact Nat.mod_eq_of_lt (by omega)
  show IntKind.u8.wrap ((BitVec.ofInt 8 (a : Int) ||| BitVec.ofInt 8 (b : Int)).toNat : Int) = _
  rw [BitVec.toNat_or, h1, h2, IntKind.wrap_u8]
  omega
theorem bits_or_one (a : Nat) (ha : a < 256) : bits .or .u8 (a : Int) 1 = ((a ||| 1 : Nat) : Int) := bits_or_u8_nat a 1 ha (by omega)
/-- Whether a bit is there, as the program asks it. -/
theorem bit_asked (b k : Nat) : ((b &&& 2 ^ k : Nat) = 0) ↔ b.testBit k = false := by
  constructor
  · intro h
    have h2 := congrArg (fun x => Nat.testBit x k) h
    simp only [Nat.testBit_and, Nat.testBit_two_pow, decide_true, Bool.and_true, Nat.zero_testBit] at h2
    exact h2
  · intro h
    refine Nat.eq_of_testBit_eq fun j => ?_
    rw [Nat.testBit_and, Nat.testBit_two_pow, Nat.zero_testBit]
    by_cases e : k = j
    · subst e; rw [h]; rfl
    · rw [decide_eq_false e, Bool.and_false]
end Go.Proofs.YtoaifgblbfdncabGreatDoor
namespace Go.Proofs.YtoaifgblbfdncabGreatDoor
open Go.RowKit

/-- Right ones are few: no more than six are above the first less six. -/
theorem seenTo_few {xs : List Int} (h : SeenTo xs xs.length) : xs.length ≤ 6 := by
  have hd : DescZ xs := (desc_iff xs).2 fun i hi => (h (i + 1) hi hi).2.1 (by omega)
  have hm : ∀ x ∈ xs, topZ xs - 6 < x := fun x hx => by
    obtain ⟨i, hi, rfl⟩ := List.getElem_of_mem hx
    exact (h i hi hi).2.2
  have := desc_len hd hm
  omega
set_option maxRecDepth 100000 in
set_option maxHeartbeats 3200000 in
theorem implSeenOk_bool (xs : List Int) (v : Value) (b : Bool) (hb : b = true ↔ SeenP xs) (hl : xs.length ≤ 100000000) (_hwf : ∀ x ∈ xs, IntZ x) (w : World) (h : layIntS.rd w [v] xs) :
    Calls Tryz.prog 60 #[v] w fun e w' => e = .returned (.bool b) ∧ Below w.heap.size w w' := by
  rw [seenP_iff] at hb
  obtain ⟨ao, cp, rfl⟩ := rows_form h
  have HR := Lib.hid h
  have HB := Lib.hid hb
  have HF : Hid (¬ SeenTo xs xs.length → b = false) := Lib.hid (fun h => by
    cases b with
    | false => rfl
    | true => exact absurd (hb.1 rfl).1 h)
  clear h hb
  go_enter Tryz.func60, Tryz.ntmps60
  go_wp2_with fail
  go_loop [7] (fun c => ∃ j : Nat, j ≤ xs.length ∧ c = .int .i64 j ∧ Hid (SeenTo xs j)) (fun c => xs.length - (intOf c).toNat)
  case atStart => exact ⟨0, Nat.zero_le _, rfl, Lib.hid (fun i _ h => absurd h (by omega))⟩
  case round =>
    obtain ⟨j, hj, rfl, HA⟩ := hrel
    by_cases hlt : j < xs.length
    · have hlt' : (j : Int) < (xs.length : Int) := by omega
      have hl0 : (0 : Int) < (xs.length : Int) := by omega
      obtain ⟨g, off, c2, hv, -, c0⟩ := ints_get HR.out j hlt
      simp only [Value.slice.injEq] at hv
      obtain ⟨rfl, -, rfl⟩ := hv
      have d0 := ints_at HR.out (show 0 < xs.length by omega) rfl
      have d1 : w.cell? ⟨g, off, none⟩ = some (.int .i64 (xs[0]'(by omega))) := d0
      obtain ⟨p, hpe⟩ : ∃ p : Int, (hj2 : j - 1 < xs.length) → xs[j - 1] = p := ⟨xs.getD (j - 1) 0, fun h => by rw [List.getD_eq_getElem?_getD, List.getElem?_eq_getElem h]; rfl⟩
      have hpv : 0 < j → ∀ i : Nat, i = j - 1 → w.cell? ⟨g, off + i, none⟩ = some (.int .i64 p) := fun h0 i hi => by
        subst hi
        rw [← hpe (by omega)]
        exact ints_at HR.out (show j - 1 < xs.length by omega) rfl
      have htop : topZ xs = xs[0]'(by omega) := top_get (by omega)
      have hfirst : 0 < j → 1 ≤ xs[0]'(by omega) ∧ xs[0]'(by omega) ≤ 1000000000 := fun h0 => (HA.out 0 (by omega) h0).1
      have hzero : j = 0 → xs[0]'(by omega) = xs[j] := fun h0 => by subst h0; rfl
      have HX : Hid (¬ ((1 ≤ xs[j] ∧ xs[j] ≤ 1000000000) ∧ (0 < j → xs[j] < p) ∧ xs[0]'(by omega) - 6 < xs[j]) → b = false) := Lib.hid (fun h => HF.out fun hw => h (by rw [← htop]; have := hw j hlt hlt; exact ⟨this.1, fun h0 => by rw [← hpe (by omega)]; exact this.2.1 h0, this.2.2⟩))
      have HNX : Hid ((1 ≤ xs[j] ∧ xs[j] ≤ 1000000000) → (0 < j → xs[j] < p) → xs[0]'(by omega) - 6 < xs[j] → SeenTo xs (j + 1)) := Lib.hid (fun h1 h2 h3 => seenTo_next hlt HA.out h1 (fun h0 => by rw [hpe (by omega)]; exact h2 h0) (by rw [htop]; exact h3))
      clear htop hpe
      generalize (xs[0]'(by omega)) = t at *
      generalize xs[j] = x at *
      by_cases h1 : 1 ≤ x
      rotate_left
      · obtain rfl := HX.out (fun h => h1 h.1.1)
        have k1 : decide (x < 1) = true := decide_eq_true (by omega)
        clear HX HNX h1 hpv hfirst hzero
        go_wp2_with fail
        go_ret
        exact ⟨rfl, Below.refl _ _⟩
      have k1 : decide (x < 1) = false := decide_eq_false (by omega)
      by_cases h2 : x ≤ 1000000000
      rotate_left
      · obtain rfl := HX.out (fun h => h2 h.1.2)
        have k2 : decide (1000000000 < x) = true := decide_eq_true (by omega)
        clear HX HNX h1 h2 hpv hfirst hzero
        go_wp2_with fail
        go_ret
        exact ⟨rfl, Below.refl _ _⟩
      have k2 : decide (1000000000 < x) = false := decide_eq_false (by omega)
      have ht : 1 ≤ t ∧ t ≤ 1000000000 := by
        rcases Nat.eq_zero_or_pos j with h0 | h0
        · rw [hzero h0]; exact ⟨h1, h2⟩
        · exact hfirst h0
      have hwt : IntKind.i64.wrap (t - 6) = t - 6 := by rw [IntKind.wrap_i64]; omega
      by_cases hf : t - 6 < x
      rotate_left
      · obtain rfl := HX.out (fun h => hf h.2.2)
        have k3 : decide (x ≤ t - 6) = true := decide_eq_true (by omega)
        clear HX HNX h1 h2 hf hpv hfirst hzero
        go_wp2_with fail
        go_ret
        exact ⟨rfl, Below.refl _ _⟩
      have k3 : decide (x ≤ t - 6) = false := decide_eq_false (by omega)
      rcases Nat.eq_zero_or_pos j with h0 | h0
      · have h00 : ¬ ((0 : Int) < (j : Int)) := by omega
        have h01 : ¬ (0 < j) := by omega
        have HJ := Lib.hid (HNX.out ⟨h1, h2⟩ (fun h => absurd h (by omega)) hf)
        clear HX HNX hpv hfirst hzero h0
        go_wp2_with fail
        go_round
        case rel => exact ⟨j + 1, by omega, by go_num, HJ⟩
        case measure => simp [intOf]; omega
      · have h0' : (0 : Int) < (j : Int) := by omega
        obtain ⟨i, hi⟩ : ∃ i : Nat, i = j - 1 := ⟨_, rfl⟩
        have hwi : IntKind.i64.wrap ((j : Int) - 1) = (i : Int) := by rw [IntKind.wrap_i64]; omega
        have hil : (i : Int) < (xs.length : Int) := by omega
        have p0 := hpv h0 i hi
        clear hpv hfirst hzero hi
        by_cases hp : x < p
        rotate_left
        · obtain rfl := HX.out (fun h => hp (h.2.1 h0))
          have hp' : decide (p ≤ x) = true := decide_eq_true (by omega)
          clear HX HNX hp
          go_wp2_with fail
          go_ret
          exact ⟨rfl, Below.refl _ _⟩
        have hp' : decide (p ≤ x) = false := decide_eq_false (by omega)
        have HJ := Lib.hid (HNX.out ⟨h1, h2⟩ (fun _ => hp) hf)
        clear HX HNX
        go_wp2_with fail
        go_round
        case rel => exact ⟨j + 1, by omega, by go_num, HJ⟩
        case measure => simp [intOf]; omega
    · obtain rfl : j = xs.length := by omega
      have hge : ¬ ((xs.length : Int) < (xs.length : Int)) := by omega
      obtain rfl : b = true := HB.out.2 ⟨HA.out, seenTo_few HA.out⟩
      go_wp2_with fail
      go_ret
      exact ⟨rfl, Below.refl _ _⟩

end Go.Proofs.YtoaifgblbfdncabGreatDoor
