/-
  Numbers that are taken once, in plain words; no program is spoken of here.
  Right numbers that were seen, one behind another; no program is spoken of here.
  Keys that change, in plain words; no program is spoken of here.
  Whether a number is one of a row, by the given code.
  The given test of a range, by what it answers.
  The given SeenOk and IsFresh.
-/
import Derived.Test.YtoaifgblbfdncaaGreatDoorRows
import Derived.Test.YtoaifgblbfdncaaGreatDoorJ04
import Derived.Test.YtoaifgblbfdncaaGreatDoorJ01
import Derived.BigQuiet
import Derived.Deep.QuietTactic
namespace Go.Proofs.YtoaifgblbfdncaaGreatDoor

/-- Descending numbers. -/
def DescZ : List Int → Prop
  | [] => True
  | [_] => True
  | x :: y :: l => y < x ∧ DescZ (y :: l)
/-- The first one, 0 without one. -/
def topZ : List Int → Int
  | [] => 0
  | x :: _ => x
/-- Right numbers that were seen. -/
def SeenP (seen : List Int) : Prop := seen.length ≤ 6 ∧ (∀ x ∈ seen, 1 ≤ x ∧ x ≤ 1000000000) ∧ DescZ seen ∧ ∀ x ∈ seen, topZ seen - 6 < x
theorem desc_tail {x : Int} {l : List Int} (h : DescZ (x :: l)) : DescZ l := by
  cases l with
  | nil => trivial
  | cons y l => exact h.2
/-- Descending numbers above m are at most so many. -/
theorem desc_len {l : List Int} {m : Int} (h : DescZ l) (hm : ∀ x ∈ l, m < x) : (l.length : Int) ≤ max 0 (topZ l - m) := by
  induction l with
  | nil => exact Int.le_max_left _ _
  | cons x l ih =>
    have h1 := ih (desc_tail h) (fun y hy => hm y (List.mem_cons_of_mem _ hy))
    have h2 := hm x List.mem_cons_self
    show ((l.length + 1 : Nat) : Int) ≤ max 0 (x - m)
    cases l with
    | nil => simp; omega
    | cons y l =>
      have h3 := h.1
      have h4 := hm y (List.mem_cons_of_mem _ List.mem_cons_self)
      have h5 : topZ (y :: l) = y := rfl
      rw [h5] at h1
      omega
end Go.Proofs.YtoaifgblbfdncaaGreatDoor
namespace Go.Proofs.YtoaifgblbfdncaaGreatDoor

/-- A number that an int holds. -/
def IntZ (x : Int) : Prop := -9223372036854775808 ≤ x ∧ x ≤ 9223372036854775807
theorem desc_iff (xs : List Int) : DescZ xs ↔ ∀ i, (h : i + 1 < xs.length) → xs[i + 1] < xs[i] := by
  induction xs with
  | nil => exact ⟨fun _ i h => absurd h (by simp), fun _ => trivial⟩
  | cons x l ih =>
    cases l with
    | nil => exact ⟨fun _ i h => absurd h (by simp), fun _ => trivial⟩
    | cons y l =>
      constructor
      · rintro ⟨h1, h2⟩ i hi
        cases i with
        | zero => exact h1
        | succ i => exact (ih.1 h2) i (by simpa using hi)
      · intro h
        refine ⟨h 0 (by simp), ih.2 fun i hi => ?_⟩
        exact h (i + 1) (by simpa using hi)
theorem top_get {xs : List Int} (h : 0 < xs.length) : topZ xs = xs[0] := by
  cases xs with
  | nil => exact absurd h (by simp)
  | cons x l => rfl
/-- The first ones are right. -/
def SeenTo (xs : List Int) (j : Nat) : Prop := ∀ i, (hi : i < xs.length) → i < j → (1 ≤ xs[i] ∧ xs[i] ≤ 1000000000) ∧ (∀ h : 0 < i, xs[i] < xs[i - 1]) ∧ topZ xs - 6 < xs[i]
theorem seenP_iff (xs : List Int) : SeenP xs ↔ SeenTo xs xs.length ∧ xs.length ≤ 6 := by
  constructor
  · rintro ⟨h1, h2, h3, h4⟩
    refine ⟨fun i hi _ => ⟨h2 _ (List.getElem_mem hi), fun h => ?_, h4 _ (List.getElem_mem hi)⟩, h1⟩
    obtain ⟨k, rfl⟩ : ∃ k, i = k + 1 := ⟨i - 1, by omega⟩
    exact (desc_iff xs).1 h3 k hi
  · rintro ⟨h1, h2⟩
    refine ⟨h2, fun x hx => ?_, (desc_iff xs).2 fun i hi => (h1 (i + 1) hi hi).2.1 (by omega), fun x hx => ?_⟩
    · obtain ⟨i, hi, rfl⟩ := List.getElem_of_mem hx
      exact (h1 i hi hi).1
    · obtain ⟨i, hi, rfl⟩ := List.getElem_of_mem hx
      exact (h1 i hi hi).2.2
theorem seenTo_next {xs : List Int} {j : Nat} (hj : j < xs.length) (h : SeenTo xs j) (h1 : 1 ≤ xs[j] ∧ xs[j] ≤ 1000000000) (h2 : ∀ h : 0 < j, xs[j] < xs[j - 1]) (h3 : topZ xs - 6 < xs[j]) : SeenTo xs (j + 1) := by
  intro i hi hij
  rcases Nat.lt_or_ge i j with h4 | h4
  · exact h i hi h4
  · obtain rfl : i = j := by omega
    exact ⟨h1, h2, h3⟩
end Go.Proofs.YtoaifgblbfdncaaGreatDoor
namespace Go.Proofs.YtoaifgblbfdncaaGreatDoor

/-- Nothing at all. -/
def NoneP (x0 : Int) (x1 x2 : ByteArray) (x3 : Int) (r4 : List Int) (x5 : Int) : Prop := x0 = 0 ∧ x1.size = 0 ∧ x2.size = 0 ∧ x3 = 0 ∧ r4.length = 0 ∧ x5 = 0
/-- A set of keys that is right. -/
def KeysP (x0 : Int) (x1 x2 : ByteArray) (x3 : Int) (r4 : List Int) (x5 : Int) : Prop := (1 ≤ x0 ∧ x0 ≤ 1000000000) ∧ x1.size = 32 ∧ x2.size = 32 ∧ (0 ≤ x3 ∧ x3 ≤ 12) ∧ SeenP r4 ∧ (0 ≤ x5 ∧ x5 ≤ 1000000000)
def SlotP (x0 : Int) (x1 x2 : ByteArray) (x3 : Int) (r4 : List Int) (x5 : Int) : Prop := NoneP x0 x1 x2 x3 r4 x5 ∨ KeysP x0 x1 x2 x3 r4 x5
def SlotsP (x0 : Int) (x1 x2 : ByteArray) (x3 : Int) (r4 : List Int) (x5 : Int) (y0 : Int) (y1 y2 : ByteArray) (y3 : Int) (s4 : List Int) (y5 : Int) : Prop := SlotP x0 x1 x2 x3 r4 x5 ∧ SlotP y0 y1 y2 y3 s4 y5 ∧ (NoneP y0 y1 y2 y3 s4 y5 ∨ y0 < x0)
end Go.Proofs.YtoaifgblbfdncaaGreatDoor
namespace Go.Proofs.YtoaifgblbfdncaaGreatDoor
open Go.RowKit

end Go.Proofs.YtoaifgblbfdncaaGreatDoor
namespace Go.Proofs.YtoaifgblbfdncaaGreatDoor
open Go.RowKit

theorem inRange_yes (x a b : Int) (h0 : a ≤ x) (h1 : x ≤ b) (w : World) :
    Calls Tryz.prog 39 #[.int .i64 x, .int .i64 a, .int .i64 b] w fun e w' => e = .returned (.bool true) ∧ w' = w := by
  go_enter Tryz.func39, Tryz.ntmps39
  go_wp2
  go_ret
  exact ⟨rfl, rfl⟩

theorem inRange_no (x a b : Int) (h : x < a ∨ b < x) (w : World) :
    Calls Tryz.prog 39 #[.int .i64 x, .int .i64 a, .int .i64 b] w fun e w' => e = .returned (.bool false) ∧ w' = w := by
  by_cases hx : x < a
  · go_enter Tryz.func39, Tryz.ntmps39
    go_wp2
    go_ret
    exact ⟨rfl, rfl⟩
  · have h0 : a ≤ x := by omega
    have h1 : decide (x ≤ b) = false := decide_eq_false (by omega)
    clear h hx
    go_enter Tryz.func39, Tryz.ntmps39
    go_wp2
    go_ret
    exact ⟨rfl, rfl⟩

end Go.Proofs.YtoaifgblbfdncaaGreatDoor
namespace Go.Proofs.YtoaifgblbfdncaaGreatDoor
open Go.RowKit

/-- An element of a row of ints, by its cell. -/
theorem ints_at {w : World} {a : Option Addr} {n c : Nat} {xs : List Int} (h : layIntS.rd w [.slice a n c] xs) {j : Nat} (hj : j < xs.length) {g off : Nat} (ha : a = some ⟨g, off, none⟩) : w.cell? ⟨g, off + j, none⟩ = some (.int .i64 xs[j]) := by
  obtain ⟨g2, off2, c2, hv, -, hc⟩ := ints_get h j hj
  simp only [Value.slice.injEq] at hv
  obtain ⟨rfl, -, -⟩ := hv
  simp only [Option.some.injEq, Addr.mk.injEq, and_true] at ha
  obtain ⟨rfl, rfl⟩ := ha
  exact hc

set_option maxRecDepth 100000 in
set_option maxHeartbeats 3200000 in
theorem specSeenOk_bool (xs : List Int) (v : Value) (b : Bool) (hb : b = true ↔ SeenP xs) (hl : xs.length ≤ 100000000) (w : World) (h : layIntS.rd w [v] xs) :
    Calls Tryz.prog 108 #[v] w fun e w' => e = .returned (.bool b) ∧ Below w.heap.size w w' := by
  rw [seenP_iff] at hb
  obtain ⟨ao, cp, rfl⟩ := rows_form h
  have HR := Lib.hid h
  have HB := Lib.hid hb
  have HF : Hid (¬ SeenTo xs xs.length → b = false) := Lib.hid (fun h => by
    cases b with
    | false => rfl
    | true => exact absurd (hb.1 rfl).1 h)
  clear h hb
  go_enter Tryz.func108, Tryz.ntmps108
  go_wp2_with fail
  go_loopw [3] (fun c wr => ∃ j : Nat, j ≤ xs.length ∧ c = .int .i64 j ∧ Hid (SeenTo xs j) ∧ Hid (Below w.heap.size w wr)) (fun c _ => xs.length - (intOf c).toNat)
  case atStart => exact ⟨0, Nat.zero_le _, rfl, Lib.hid (fun i _ h => absurd h (by omega)), Lib.hid (Below.refl _ _)⟩
  case round =>
    obtain ⟨j, hj, rfl, HA, HW⟩ := hrel
    by_cases hlt : j < xs.length
    · have hlt' : (j : Int) < (xs.length : Int) := by omega
      have hl0 : (0 : Int) < (xs.length : Int) := by omega
      have HRW := layIntS.below HR.out HW.out
      obtain ⟨g, off, c2, hv, -, c0⟩ := ints_get HRW j hlt
      simp only [Value.slice.injEq] at hv
      obtain ⟨rfl, -, rfl⟩ := hv
      have d0 := ints_at HRW (show 0 < xs.length by omega) rfl
      have d1 : wr.cell? ⟨g, off, none⟩ = some (.int .i64 (xs[0]'(by omega))) := d0
      obtain ⟨p, hpe⟩ : ∃ p : Int, (hj2 : j - 1 < xs.length) → xs[j - 1] = p := ⟨xs.getD (j - 1) 0, fun h => by rw [List.getD_eq_getElem?_getD, List.getElem?_eq_getElem h]; rfl⟩
      have hpv : 0 < j → ∀ i : Nat, i = j - 1 → wr.cell? ⟨g, off + i, none⟩ = some (.int .i64 p) := fun h0 i hi => by
        subst hi
        rw [← hpe (by omega)]
        exact ints_at HRW (show j - 1 < xs.length by omega) rfl
      have htop : topZ xs = xs[0]'(by omega) := top_get (by omega)
      have hfirst : 0 < j → 1 ≤ xs[0]'(by omega) ∧ xs[0]'(by omega) ≤ 1000000000 := fun h0 => (HA.out 0 (by omega) h0).1
      have hzero : j = 0 → xs[0]'(by omega) = xs[j] := fun h0 => by subst h0; rfl
      have HX : Hid (¬ ((1 ≤ xs[j] ∧ xs[j] ≤ 1000000000) ∧ (0 < j → xs[j] < p) ∧ xs[0]'(by omega) - 6 < xs[j]) → b = false) := Lib.hid (fun h => HF.out fun hw => h (by rw [← htop]; have := hw j hlt hlt; exact ⟨this.1, fun h0 => by rw [← hpe (by omega)]; exact this.2.1 h0, this.2.2⟩))
      have HNX : Hid ((1 ≤ xs[j] ∧ xs[j] ≤ 1000000000) → (0 < j → xs[j] < p) → xs[0]'(by omega) - 6 < xs[j] → SeenTo xs (j + 1)) := Lib.hid (fun h1 h2 h3 => seenTo_next hlt HA.out h1 (fun h0 => by rw [hpe (by omega)]; exact h2 h0) (by rw [htop]; exact h3))
      clear HRW htop hpe
      generalize (xs[0]'(by omega)) = t at *
      generalize xs[j] = x at *
      by_cases h1 : 1 ≤ x ∧ x ≤ 1000000000
      rotate_left
      · obtain rfl := HX.out (fun h => h1 h.1)
        have K1 := Lib.hid (inRange_no x 1 1000000000 (by omega))
        clear HX HNX h1 hpv hfirst hzero
        go_wp2_with fail
        go_quiet ((go_at_call 39; exact Calls.quiet_of_same (K1.out _)))
        go_wp2_with fail
        go_ret
        exact ⟨rfl, below_drewN HW.out _⟩
      have K1 := Lib.hid (inRange_yes x 1 1000000000 h1.1 h1.2)
      have ht : 1 ≤ t ∧ t ≤ 1000000000 := by
        rcases Nat.eq_zero_or_pos j with h0 | h0
        · rw [hzero h0]; exact h1
        · exact hfirst h0
      have hwt : IntKind.i64.wrap (t - 6) = t - 6 := by rw [IntKind.wrap_i64]; omega
      rcases Nat.eq_zero_or_pos j with h0 | h0
      · have hx : t = x := hzero h0
        have h00 : ¬ ((0 : Int) < (j : Int)) := by omega
        have h01 : ¬ (0 < j) := by omega
        have hle : ¬ (x ≤ t - 6) := by omega
        have HJ := Lib.hid (HNX.out h1 (fun h => absurd h (by omega)) (by omega))
        clear HX HNX hpv hfirst hzero hx h0
        go_wp2_with fail
        go_quiet ((go_at_call 39; exact Calls.quiet_of_same (K1.out _)))
        go_wp2_with fail
        go_roundw
        case rel => exact ⟨j + 1, by omega, by go_num, HJ, Lib.hid (below_drewN HW.out _)⟩
        case measure => simp [intOf]; omega
      · have h0' : (0 : Int) < (j : Int) := by omega
        obtain ⟨i, hi⟩ : ∃ i : Nat, i = j - 1 := ⟨_, rfl⟩
        have hwi : IntKind.i64.wrap ((j : Int) - 1) = (i : Int) := by rw [IntKind.wrap_i64]; omega
        have hil : (i : Int) < (xs.length : Int) := by omega
        have p0 := hpv h0 i hi
        clear hpv hfirst hzero hi
        by_cases hp : x < p
        rotate_left
        · obtain rfl := HX.out (fun h => hp (h.2.1 h0))
          have hp' : decide (p ≤ x) = true := decide_eq_true (by omega)
          clear HX HNX hp
          go_wp2_with fail
          go_quiet ((go_at_call 39; exact Calls.quiet_of_same (K1.out _)))
          go_wp2_with fail
          go_ret
          exact ⟨rfl, below_drewN HW.out _⟩
        have hp' : decide (p ≤ x) = false := decide_eq_false (by omega)
        by_cases hf : t - 6 < x
        rotate_left
        · obtain rfl := HX.out (fun h => hf h.2.2)
          have hf' : decide (x ≤ t - 6) = true := decide_eq_true (by omega)
          clear HX HNX hp hf
          go_wp2_with fail
          go_quiet ((go_at_call 39; exact Calls.quiet_of_same (K1.out _)))
          go_wp2_with fail
          go_ret
          exact ⟨rfl, below_drewN HW.out _⟩
        · have hf' : decide (x ≤ t - 6) = false := decide_eq_false (by omega)
          have HJ := Lib.hid (HNX.out h1 (fun _ => hp) hf)
          clear HX HNX hp hf
          go_wp2_with fail
          go_quiet ((go_at_call 39; exact Calls.quiet_of_same (K1.out _)))
          go_wp2_with fail
          go_roundw
          case rel => exact ⟨j + 1, by omega, by go_num, HJ, Lib.hid (below_drewN HW.out _)⟩
          case measure => simp [intOf]; omega
    · have hlt' : ¬ ((j : Int) < (xs.length : Int)) := by omega
      obtain rfl : j = xs.length := by omega
      have hd : decide ((xs.length : Int) ≤ 6) = b := by
        cases b with
        | true => exact decide_eq_true (by have := (HB.out.1 rfl).2; omega)
        | false => exact decide_eq_false (fun h => by have := HB.out.2 ⟨HA.out, by omega⟩; cases this)
      go_wp2_with fail
      go_ret
      exact ⟨rfl, HW.out⟩

end Go.Proofs.YtoaifgblbfdncaaGreatDoor
