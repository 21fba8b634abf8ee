/-
  Where one is held: the program's placeOf.
-/
import Derived.Test.YthiicpbedgcmlaaJ16
import Derived.Test.YthiicpbedgcmlaaJ08
namespace Go.Proofs.Ythiicpbedgcmlaa
open Go.RowKit

/-- The first of From and Id, or none. -/
def PlaceIs (l : List HeldD) (a b : Int) (r : Int) : Prop := (∃ i : Nat, ∃ hi : i < l.length, r = (i : Int) ∧ SameV a b l[i] ∧ ∀ k, (hk : k < l.length) → k < i → ¬ SameV a b l[k]) ∨ (r = -1 ∧ ∀ x ∈ l, ¬ SameV a b x)
theorem placeIs_one {l : List HeldD} {a b r s : Int} (h : PlaceIs l a b r) (k : PlaceIs l a b s) : r = s := by
  rcases h with ⟨i, hi, rfl, h1, h2⟩ | ⟨rfl, h1⟩ <;> rcases k with ⟨j, hj, rfl, k1, k2⟩ | ⟨rfl, k1⟩
  · rcases Nat.lt_trichotomy i j with h9 | h9 | h9
    · exact absurd h1 (k2 i hi h9)
    · rw [h9]
    · exact absurd k1 (h2 j hj h9)
  · exact absurd h1 (k1 _ (List.getElem_mem hi))
  · exact absurd k1 (h1 _ (List.getElem_mem hj))
  · rfl

/-- Whether one is of From and Id. -/
theorem isOf_any (x0 x1 x2 : Int) (v3 v4 : Value) (x5 : Int) (q s : Nat) (a b : Int) (c : Bool) (hc : c = true ↔ (x0 = a ∧ x1 = b)) (w : World) (hq : w.cell? ⟨q, 0, none⟩ = some (.int .i64 a)) (hs : w.cell? ⟨s, 0, none⟩ = some (.int .i64 b)) :
    Calls Try.prog 44 #[.agg #[.int .i64 x0, .int .i64 x1, .int .i64 x2, v3, v4, .int .i64 x5], .pointer (some ⟨q, 0, none⟩), .pointer (some ⟨s, 0, none⟩)] w fun e w' => e = .returned (.bool c) ∧ Below w.heap.size w w' := by
  have A0 := Lib.hid (VarA.new w HeldT #[.int .i64 x0, .int .i64 x1, .int .i64 x2, v3, v4, .int .i64 x5])
  have B0 := Lib.hid ((Below.refl w.heap.size w).alloc (Nat.le_refl _) (.cells #[.int .i64 x0, .int .i64 x1, .int .i64 x2, v3, v4, .int .i64 x5] HeldT))
  have hq2 := (B0.out.cell (p := ⟨q, 0, none⟩) (cell_size hq)).trans hq
  have hs2 := (B0.out.cell (p := ⟨s, 0, none⟩) (cell_size hs)).trans hs
  go_enter Try.func44, Try.ntmps44
  go_upto_region 1 with fail
  generalize w.alloc (.cells #[.int .i64 x0, .int .i64 x1, .int .i64 x2, v3, v4, .int .i64 x5] HeldT) = X0 at *
  have c0 : X0.cell? ⟨w.heap.size, 0, none⟩ = some (.int .i64 x0) := A0.out.cell 0
  have c1 : X0.cell? ⟨w.heap.size, 1, none⟩ = some (.int .i64 x1) := A0.out.cell 1
  by_cases h0 : x0 = a
  rotate_left
  · have k0 : (x0 == a) = false := by rw [beq_eq_false_iff_ne]; exact h0
    obtain rfl : c = false := Bool.eq_false_iff.2 (fun e => h0 (hc.1 e).1)
    clear hc h0
    go_wp2_with fail
    go_ret
    exact ⟨rfl, B0.out⟩
  have k0 : (x0 == a) = true := by rw [beq_iff_eq]; exact h0
  by_cases h1 : x1 = b
  rotate_left
  · have k1 : (x1 == b) = false := by rw [beq_eq_false_iff_ne]; exact h1
    obtain rfl : c = false := Bool.eq_false_iff.2 (fun e => h1 (hc.1 e).2)
    clear hc h0 h1
    go_wp2_with fail
    go_ret
    exact ⟨rfl, B0.out⟩
  have k1 : (x1 == b) = true := by rw [beq_iff_eq]; exact h1
  obtain rfl : c = true := hc.2 ⟨h0, h1⟩
  clear hc h0 h1
  go_wp2_with fail
  go_ret
  exact ⟨rfl, B0.out⟩

set_option maxRecDepth 100000 in
set_option maxHeartbeats 1600000 in
theorem indexHeld_any (v : Value) (l : List HeldD) (a b r : Int) (hr : PlaceIs l a b r) (hl : l.length ≤ 100000000) (q s : Nat) (w : World) (h : layHeldS.rd w [v] l) (hq : w.cell? ⟨q, 0, none⟩ = some (.int .i64 a)) (hs : w.cell? ⟨s, 0, none⟩ = some (.int .i64 b)) :
    Calls Try.prog 43 #[v, .func (.func 44) #[] #[.pointer (some ⟨q, 0, none⟩), .pointer (some ⟨s, 0, none⟩)]] w fun e w' => e = .returned (.int .i64 r) ∧ Below w.heap.size w w' := by
  obtain ⟨ao, cp, rfl⟩ := rows_form h
  have HR := Lib.hid h
  have HP := Lib.hid hr
  have HQ := Lib.hid hq
  have HS := Lib.hid hs
  clear h hr hq hs
  go_enter Try.func43, Try.ntmps43
  go_wp2_with fail
  go_loopw [8] (fun c wr => ∃ j : Nat, j ≤ l.length ∧ c = .int .i64 j ∧ Hid (∀ k, (hk : k < l.length) → k < j → ¬ SameV a b l[k]) ∧ Hid (Below w.heap.size w wr)) (fun c _ => l.length - (intOf c).toNat)
  case atStart => exact ⟨0, Nat.zero_le _, rfl, Lib.hid (fun i _ h => absurd h (by omega)), Lib.hid (Below.refl _ _)⟩
  case round =>
    obtain ⟨j, hj, rfl, HA, HB⟩ := hrel
    by_cases hlt : j < l.length
    rotate_left
    · have hlt' : ¬ ((j : Int) < (l.length : Int)) := by omega
      obtain rfl : r = -1 := placeIs_one HP.out (.inr ⟨rfl, fun x hx => by
        obtain ⟨i, hi, rfl⟩ := List.getElem_of_mem hx
        exact HA.out i hi (by omega)⟩)
      clear HP HA
      go_wp2_with fail
      go_ret
      exact ⟨rfl, HB.out⟩
    have hlt' : (j : Int) < (l.length : Int) := by omega
    have HE : Hid (SameV a b l[j] → r = (j : Int)) := Lib.hid (fun h => placeIs_one HP.out (.inl ⟨j, hlt, rfl, h, HA.out⟩))
    have HNX : Hid (¬ SameV a b l[j] → ∀ k, (hk : k < l.length) → k < j + 1 → ¬ SameV a b l[k]) := Lib.hid (fun hx i hi h => by
      rcases Nat.lt_or_ge i j with h2 | h2
      · exact HA.out i hi h2
      · have : i = j := by omega
        subst this
        exact hx)
    obtain ⟨g, og, cs, rfl, hg, hr, hcl⟩ := rows_elem (layHeldS.below HR.out HB.out) j _ (List.getElem?_eq_getElem hlt)
    generalize l[j] = y at hr HE HNX
    obtain ⟨v3, v4, rfl, -, -⟩ := layHeld_rd.1 hr
    obtain ⟨y0, y1, y2, r3, r4, y5⟩ := y
    have d0 : wr.cell? ⟨g, og + j * 6, none⟩ = some (.int .i64 y0) := hcl 0 _ rfl
    have d1 : wr.cell? ⟨g, og + j * 6 + 1, none⟩ = some (.int .i64 y1) := hcl 1 _ rfl
    have d2 : wr.cell? ⟨g, og + j * 6 + 2, none⟩ = some (.int .i64 y2) := hcl 2 _ rfl
    have d3 : wr.cell? ⟨g, og + j * 6 + 3, none⟩ = some v3 := hcl 3 _ rfl
    have d4 : wr.cell? ⟨g, og + j * 6 + 4, none⟩ = some v4 := hcl 4 _ rfl
    have d5 : wr.cell? ⟨g, og + j * 6 + 5, none⟩ = some (.int .i64 y5) := hcl 5 _ rfl
    obtain ⟨c, hc⟩ : ∃ c : Bool, c = true ↔ (y0 = a ∧ y1 = b) := by
      by_cases h : y0 = a ∧ y1 = b
      · exact ⟨true, fun _ => h, fun _ => rfl⟩
      · exact ⟨false, fun e => (by cases e), fun e => absurd e h⟩
    have K := Lib.hid (isOf_any y0 y1 y2 v3 v4 y5 q s a b c hc wr ((HB.out.cell (p := ⟨q, 0, none⟩) (cell_size HQ.out)).trans HQ.out) ((HB.out.cell (p := ⟨s, 0, none⟩) (cell_size HS.out)).trans HS.out))
    clear hr hcl
    cases c with
    | true =>
      obtain rfl := HE.out (hc.1 rfl)
      clear hc HE HNX HP
      go_wp2_with fail
      refine K.out.mono ?_
      rintro e w1 ⟨rfl, hb1⟩
      have HB1 := Lib.hid (HB.out.trans (hb1.mono HB.out.size))
      clear hb1 K
      go_wp2_with fail
      go_ret
      exact ⟨rfl, HB1.out⟩
    | false =>
      have HN := Lib.hid (HNX.out (fun h => by cases hc.2 h))
      clear hc HE HNX
      go_wp2_with fail
      refine K.out.mono ?_
      rintro e w1 ⟨rfl, hb1⟩
      have HB1 := Lib.hid (HB.out.trans (hb1.mono HB.out.size))
      clear hb1 K
      go_wp2_with fail
      go_roundw
      case rel => exact ⟨j + 1, by omega, by go_num, HN, HB1⟩
      case measure => simp [intOf]; omega

theorem placeOf_any (p : Nat) (v : Value) (l : List HeldD) (a b r : Int) (hr : PlaceIs l a b r) (hl : l.length ≤ 100000000) (w : World) (hp : w.cell? ⟨p, 0, none⟩ = some v) (h : layHeldS.rd w [v] l) :
    Calls Try.prog 31 #[.pointer (some ⟨p, 0, none⟩), .int .i64 a, .int .i64 b] w fun e w' => e = .returned (.int .i64 r) ∧ Below w.heap.size w w' := by
  have e1 : (w.alloc (.cells #[.int .i64 a] 3)).heap.size = w.heap.size + 1 := by simp
  have h2 := VarA.new (w.alloc (.cells #[.int .i64 a] 3)) 3 #[.int .i64 b]
  rw [e1] at h2
  have B0 := Lib.hid (((Below.refl w.heap.size w).alloc (Nat.le_refl _) (.cells #[.int .i64 a] 3)).alloc (by simp) (.cells #[.int .i64 b] 3))
  have A1 := (VarA.new w 3 #[.int .i64 a]).alloc (.cells #[.int .i64 b] 3)
  have c1 : ((w.alloc (.cells #[.int .i64 a] 3)).alloc (.cells #[.int .i64 b] 3)).cell? ⟨w.heap.size, 0, none⟩ = some (.int .i64 a) := A1.cell 0
  have c2 : ((w.alloc (.cells #[.int .i64 a] 3)).alloc (.cells #[.int .i64 b] 3)).cell? ⟨w.heap.size + 1, 0, none⟩ = some (.int .i64 b) := h2.cell 0
  have hp2 := (B0.out.cell (p := ⟨p, 0, none⟩) (cell_size hp)).trans hp
  have hr2 := layHeldS.below h B0.out
  have K := Lib.hid (indexHeld_any v l a b r hr hl w.heap.size (w.heap.size + 1) _ hr2 c1 c2)
  clear h h2 A1 c1 c2 hr2 hp e1
  go_enter Try.func31, Try.ntmps31
  go_upto_region 1 with fail
  generalize ((w.alloc (.cells #[.int .i64 a] 3)).alloc (.cells #[.int .i64 b] 3)) = Y at *
  go_wp2_with fail
  refine K.out.mono ?_
  rintro e w1 ⟨rfl, hb1⟩
  have HB1 := Lib.hid (B0.out.trans (hb1.mono B0.out.size))
  clear hb1 K
  go_wp2_with fail
  go_ret
  exact ⟨rfl, HB1.out⟩

end Go.Proofs.Ythiicpbedgcmlaa
