/-
  The given order of prefixes and RoutesOk.
-/
import Derived.Test.YtphmomlgmnllkacJ11
import Derived.Test.YtphmomlgmnllkacJ16
namespace Go.Proofs.Ytphmomlgmnllkac
open Go.RowKit

/-- Which prefix comes ahead. -/
def Ahead (a n b m : Int) : Prop := a < b ∨ (a = b ∧ n < m)
set_option maxRecDepth 100000 in
set_option maxHeartbeats 1600000 in
theorem specAhead_yes (a n b m : Int) (h : Ahead a n b m) (w : World) :
    Calls Try.prog 42 #[.agg #[.int .i64 a, .int .i64 n], .agg #[.int .i64 b, .int .i64 m]] w fun e w' => e = .returned (.bool true) ∧ Below w.heap.size w w' := by
  have hb := ((Below.refl w.heap.size w).alloc (Nat.le_refl _) (.cells #[.int .i64 a, .int .i64 n] PT)).alloc (by simp) (.cells #[.int .i64 b, .int .i64 m] PT)
  have HB := Lib.hid hb
  clear hb
  by_cases h1 : a < b
  · have h2 : decide (a < b) = true := decide_eq_true h1
    clear h
    go_enter Try.func42, Try.ntmps42
    go_wp2_with fail
    go_ret
    exact ⟨rfl, HB.out⟩
  · have h3 : a = b := by unfold Ahead at h; omega
    have h4 : n < m := by unfold Ahead at h; omega
    subst h3
    have h2 : decide (a < a) = false := decide_eq_false h1
    have h5 : decide (n < m) = true := decide_eq_true h4
    clear h h1
    go_enter Try.func42, Try.ntmps42
    go_wp2_with fail
    go_ret
    exact ⟨rfl, HB.out⟩
set_option maxRecDepth 100000 in
set_option maxHeartbeats 1600000 in
theorem specAhead_no (a n b m : Int) (h : ¬ Ahead a n b m) (w : World) :
    Calls Try.prog 42 #[.agg #[.int .i64 a, .int .i64 n], .agg #[.int .i64 b, .int .i64 m]] w fun e w' => e = .returned (.bool false) ∧ Below w.heap.size w w' := by
  have hb := ((Below.refl w.heap.size w).alloc (Nat.le_refl _) (.cells #[.int .i64 a, .int .i64 n] PT)).alloc (by simp) (.cells #[.int .i64 b, .int .i64 m] PT)
  have HB := Lib.hid hb
  clear hb
  have h1 : ¬ (a < b) := fun e => h (.inl e)
  have h2 : decide (a < b) = false := decide_eq_false h1
  by_cases h3 : a = b
  · subst h3
    have h4 : ¬ (n < m) := fun e => h (.inr ⟨rfl, e⟩)
    have h5 : decide (n < m) = false := decide_eq_false h4
    clear h h1 h4
    go_enter Try.func42, Try.ntmps42
    go_wp2_with fail
    go_ret
    exact ⟨rfl, HB.out⟩
  · have h4 : (a == b) = false := by rw [beq_eq_false_iff_ne]; exact h3
    clear h h1 h3
    go_enter Try.func42, Try.ntmps42
    go_wp2_with fail
    go_ret
    exact ⟨rfl, HB.out⟩

/-- Whether a route is right by itself. -/
def RtOk (r : Rt) : Prop := PrefOk r.1 r.2.1 ∧ 1 ≤ r.2.2 ∧ r.2.2 ≤ 99
def GoodAt (xs : List Rt) (j : Nat) : Prop := ∀ x, xs[j]? = some x → RtOk x ∧ ∀ y, 0 < j → xs[j - 1]? = some y → Ahead y.1 y.2.1 x.1 x.2.1
def GoodTo (xs : List Rt) (k : Nat) : Prop := ∀ j, j < k → GoodAt xs j
/-- Routes that are right. -/
def RoutesP (xs : List Rt) : Prop := GoodTo xs xs.length ∧ xs.length ≤ 12
theorem GoodTo.snoc {xs : List Rt} {k : Nat} (h : GoodTo xs k) (hk : GoodAt xs k) : GoodTo xs (k + 1) := fun j hj => by
  rcases Nat.lt_or_ge j k with h1 | h1
  · exact h j h1
  · have : j = k := by omega
    subst this
    exact hk
/-- How RoutesOk ends. -/
def RoutesEnd (xs : List Rt) (e : Ending) : Prop := (RoutesP xs ∧ e = .returned (.bool true)) ∨ (¬ RoutesP xs ∧ e = .returned (.bool false))

theorem held_next {w X Y : World} {g k : Nat} {xa xn xt : Int} (h : X.cell? ⟨g, k * 3, none⟩ = some (.int .i64 xa) ∧ X.cell? ⟨g, k * 3 + 1, none⟩ = some (.int .i64 xn) ∧ X.cell? ⟨g, k * 3 + 2, none⟩ = some (.int .i64 xt) ∧ Below w.heap.size w X) (hb : Below X.heap.size X Y) :
    Y.cell? ⟨g, k * 3, none⟩ = some (.int .i64 xa) ∧ Y.cell? ⟨g, k * 3 + 1, none⟩ = some (.int .i64 xn) ∧ Y.cell? ⟨g, k * 3 + 2, none⟩ = some (.int .i64 xt) ∧ Below w.heap.size w Y := by
  have hg : g < X.heap.size := cell_size (p := ⟨g, k * 3, none⟩) h.1
  exact ⟨by rw [hb.cell (p := ⟨g, k * 3, none⟩) hg]; exact h.1, by rw [hb.cell (p := ⟨g, k * 3 + 1, none⟩) hg]; exact h.2.1, by rw [hb.cell (p := ⟨g, k * 3 + 2, none⟩) hg]; exact h.2.2.1, h.2.2.2.trans (hb.mono h.2.2.2.size)⟩
theorem held_five {w X Y : World} {g k j : Nat} {xa xn xt ya yn : Int} (h : X.cell? ⟨g, k * 3, none⟩ = some (.int .i64 xa) ∧ X.cell? ⟨g, k * 3 + 1, none⟩ = some (.int .i64 xn) ∧ X.cell? ⟨g, k * 3 + 2, none⟩ = some (.int .i64 xt) ∧ X.cell? ⟨g, j * 3, none⟩ = some (.int .i64 ya) ∧ X.cell? ⟨g, j * 3 + 1, none⟩ = some (.int .i64 yn) ∧ Below w.heap.size w X) (hb : Below X.heap.size X Y) : Y.cell? ⟨g, k * 3, none⟩ = some (.int .i64 xa) ∧ Y.cell? ⟨g, k * 3 + 1, none⟩ = some (.int .i64 xn) ∧ Y.cell? ⟨g, k * 3 + 2, none⟩ = some (.int .i64 xt) ∧ Y.cell? ⟨g, j * 3, none⟩ = some (.int .i64 ya) ∧ Y.cell? ⟨g, j * 3 + 1, none⟩ = some (.int .i64 yn) ∧ Below w.heap.size w Y := by
  have hg : g < X.heap.size := cell_size (p := ⟨g, k * 3, none⟩) h.1
  exact ⟨by rw [hb.cell (p := ⟨g, k * 3, none⟩) hg]; exact h.1, by rw [hb.cell (p := ⟨g, k * 3 + 1, none⟩) hg]; exact h.2.1, by rw [hb.cell (p := ⟨g, k * 3 + 2, none⟩) hg]; exact h.2.2.1, by rw [hb.cell (p := ⟨g, j * 3, none⟩) hg]; exact h.2.2.2.1, by rw [hb.cell (p := ⟨g, j * 3 + 1, none⟩) hg]; exact h.2.2.2.2.1, h.2.2.2.2.2.trans (hb.mono h.2.2.2.2.2.size)⟩

set_option maxRecDepth 100000 in
set_option maxHeartbeats 1600000 in
theorem specRoutesOk_any (v : Value) (xs : List Rt) (hl : xs.length ≤ 100000000) (w : World) (hr : RowR rtRec w v xs) :
    Calls Try.prog 43 #[v] w fun e w' => RoutesEnd xs e ∧ Below w.heap.size w w' := by
  obtain ⟨ao, cp, rfl, hf⟩ := hr.form
  go_enter Try.func43, Try.ntmps43
  go_wp2_with fail
  go_loopw [3] (fun c wr => ∃ k : Nat, k ≤ xs.length ∧ c = .int .i64 k ∧ GoodTo xs k ∧ Below w.heap.size w wr) (fun c _ => xs.length - (intOf c).toNat)
  case atStart => exact ⟨0, Nat.zero_le _, rfl, fun j hj => absurd hj (by omega), Below.refl _ _⟩
  case round =>
    obtain ⟨k, hk, rfl, hgood, hnx⟩ := hrel
    have HG := Lib.hid hgood
    have HN := Lib.hid hnx
    clear hgood
    by_cases hlt : k < xs.length
    · have hlt' : (k : Int) < (xs.length : Int) := by omega
      obtain ⟨g, rfl, hg, hcell⟩ := hf (by omega)
      have hxk : xs[k]? = some xs[k] := List.getElem?_eq_getElem hlt
      obtain ⟨c0, c1, c2⟩ := row_three hcell k xs[k] hxk
      rw [← hnx.cell (p := ⟨g, k * 3, none⟩) hg] at c0
      rw [← hnx.cell (p := ⟨g, k * 3 + 1, none⟩) hg] at c1
      rw [← hnx.cell (p := ⟨g, k * 3 + 2, none⟩) hg] at c2
      generalize xs[k] = x at hxk c0 c1 c2
      obtain ⟨xa, xn, xt⟩ := x
      have V0 : Hid ((wr.drew.cell? ⟨g, k * 3, none⟩ = some (.int .i64 xa) ∧ wr.drew.cell? ⟨g, k * 3 + 1, none⟩ = some (.int .i64 xn) ∧ wr.drew.cell? ⟨g, k * 3 + 2, none⟩ = some (.int .i64 xt) ∧ Below w.heap.size w wr.drew)) := ⟨c0, c1, c2, hnx.drew⟩
      have HX := Lib.hid hxk
      have HCL := Lib.hid hcell
      clear hf hnx hxk hcell c0 c1 c2
      by_cases hp : PrefOk xa xn
      · have k1 := specPrefixOk_right xa xn hp
        have K1 : Hid (∀ X, (X.cell? ⟨g, k * 3, none⟩ = some (.int .i64 xa) ∧ X.cell? ⟨g, k * 3 + 1, none⟩ = some (.int .i64 xn) ∧ X.cell? ⟨g, k * 3 + 2, none⟩ = some (.int .i64 xt) ∧ Below w.heap.size w X) → Calls Try.prog 49 #[.agg #[.int .i64 xa, .int .i64 xn]] X fun e Y => e = .returned (.bool true) ∧ (Y.cell? ⟨g, k * 3, none⟩ = some (.int .i64 xa) ∧ Y.cell? ⟨g, k * 3 + 1, none⟩ = some (.int .i64 xn) ∧ Y.cell? ⟨g, k * 3 + 2, none⟩ = some (.int .i64 xt) ∧ Below w.heap.size w Y)) := fun X hX => (k1 X).mono (by rintro e Y ⟨rfl, hb⟩; exact ⟨rfl, held_next hX hb⟩)
        by_cases ht : xt < 1 ∨ 99 < xt
        · have hend : Hid (¬ RoutesP xs) := fun h => by
            have h2 := (h.1 k hlt _ HX.out).1.2
            simp only at h2
            omega
          have k2 := inRange_no xt 1 99 ht
          have K2 : Hid (∀ X, (X.cell? ⟨g, k * 3, none⟩ = some (.int .i64 xa) ∧ X.cell? ⟨g, k * 3 + 1, none⟩ = some (.int .i64 xn) ∧ X.cell? ⟨g, k * 3 + 2, none⟩ = some (.int .i64 xt) ∧ Below w.heap.size w X) → Calls Try.prog 73 #[.int .i64 xt, .int .i64 1, .int .i64 99] X fun e Y => e = .returned (.bool false) ∧ (Y.cell? ⟨g, k * 3, none⟩ = some (.int .i64 xa) ∧ Y.cell? ⟨g, k * 3 + 1, none⟩ = some (.int .i64 xn) ∧ Y.cell? ⟨g, k * 3 + 2, none⟩ = some (.int .i64 xt) ∧ Below w.heap.size w Y)) := fun X hX => (k2 X).mono (by rintro e Y ⟨rfl, rfl⟩; exact ⟨rfl, hX⟩)
          clear k1 k2 hp ht
          go_wp2_with fail
          refine wp_region_held_drew (S := (fun X => X.cell? ⟨g, k * 3, none⟩ = some (.int .i64 xa) ∧ X.cell? ⟨g, k * 3 + 1, none⟩ = some (.int .i64 xn) ∧ X.cell? ⟨g, k * 3 + 2, none⟩ = some (.int .i64 xt) ∧ Below w.heap.size w X)) (by kernel_rfl) V0.out (fun hHeld => ?_)
          refine wpAnyH_take (i := 0) (v := ?_) rfl (by kernel_rfl) (by kernel_rfl) (by kernel_rfl) (fun _ _ _ h => h) (Or.inl ⟨by kernel_rfl, ?_⟩) (by assumption) ?_
          rotate_left
          · intro X hX
            first | (go_simp; done) | (go_simp; with_reducible rfl)
          simp only [Act.put, List.getElem_toArray, List.getElem_cons_zero, List.setIfInBounds_toArray, List.set_cons_zero, List.set_cons_succ]
          refine wpAnyH_take (i := 1) (v := ?_) rfl (by kernel_rfl) (by kernel_rfl) (by kernel_rfl) (fun _ _ _ h => h) (Or.inl ⟨by kernel_rfl, ?_⟩) (by assumption) ?_
          rotate_left
          · intro X hX
            first | (go_simp; done) | (go_simp; with_reducible rfl)
          simp only [Act.put, List.getElem_toArray, List.getElem_cons_succ, List.getElem_cons_zero, List.setIfInBounds_toArray, List.set_cons_zero, List.set_cons_succ]
          refine wpAnyH_take (i := 2) (v := ?_) rfl (by kernel_rfl) (by kernel_rfl) (by kernel_rfl) (fun _ _ _ h => h) (Or.inl ⟨by kernel_rfl, ?_⟩) (by assumption) ?_
          rotate_left
          · intro X hX
            first | (go_simp; done) | (go_simp; with_reducible rfl)
          simp only [Act.put, List.getElem_toArray, List.getElem_cons_succ, List.getElem_cons_zero, List.setIfInBounds_toArray, List.set_cons_zero, List.set_cons_succ]
          refine wpAnyH_take (i := 3) (v := ?_) rfl (by kernel_rfl) (by kernel_rfl) (by kernel_rfl) (fun _ _ _ h => h) (Or.inl ⟨by kernel_rfl, ?_⟩) (by assumption) ?_
          rotate_left
          · intro X hX
            first | (go_simp; done) | (go_simp; with_reducible rfl)
          simp only [Act.put, List.getElem_toArray, List.getElem_cons_succ, List.getElem_cons_zero, List.setIfInBounds_toArray, List.set_cons_zero, List.set_cons_succ]
          refine wpAnyH_take (i := 4) (v := ?_) rfl (by kernel_rfl) (by kernel_rfl) (by kernel_rfl) (fun _ _ _ h => h) (Or.inl ⟨by kernel_rfl, ?_⟩) (by assumption) ?_
          rotate_left
          · intro X hX
            obtain ⟨e0, e1, _⟩ := hX
            first | (go_simp; done) | (go_simp; with_reducible rfl)
          simp only [Act.put, List.getElem_toArray, List.getElem_cons_succ, List.getElem_cons_zero, List.setIfInBounds_toArray, List.set_cons_zero, List.set_cons_succ]
          refine wpAnyH_ready (rs := [5]) (by kernel_rfl) (by simp) ?_
          refine AllReadyH.cons rfl (fun K hK => ?_) AllReadyH.nil
          go_simp
          go_wp2_with ((go_at_call 49; refine (K1.out _ hHeld).mono ?_; rintro e v1 ⟨rfl, hS⟩))
          refine hK.out _ _ hS (fun hHeld => ?_)
          clear hK K
          refine wpAnyH_take (i := 6) (v := ?_) rfl (by kernel_rfl) (by kernel_rfl) (by kernel_rfl) (fun _ _ _ h => h) (Or.inl ⟨by kernel_rfl, ?_⟩) (by assumption) ?_
          rotate_left
          · intro X hX
            first | (go_simp; done) | (go_simp; with_reducible rfl)
          simp only [Act.put, List.getElem_toArray, List.getElem_cons_succ, List.getElem_cons_zero, List.setIfInBounds_toArray, List.set_cons_zero, List.set_cons_succ]
          refine wpAnyH_take (i := 7) (v := ?_) rfl (by kernel_rfl) (by kernel_rfl) (by kernel_rfl) (fun _ _ _ h => h) (Or.inl ⟨by kernel_rfl, ?_⟩) (by assumption) ?_
          rotate_left
          · intro X hX
            first | (go_simp; done) | (go_simp; with_reducible rfl)
          simp only [Act.put, List.getElem_toArray, List.getElem_cons_succ, List.getElem_cons_zero, List.setIfInBounds_toArray, List.set_cons_zero, List.set_cons_succ]
          refine wpAnyH_take (i := 8) (v := ?_) rfl (by kernel_rfl) (by kernel_rfl) (by kernel_rfl) (fun _ _ _ h => h) (Or.inl ⟨by kernel_rfl, ?_⟩) (by assumption) ?_
          rotate_left
          · intro X hX
            first | (go_simp; done) | (go_simp; with_reducible rfl)
          simp only [Act.put, List.getElem_toArray, List.getElem_cons_succ, List.getElem_cons_zero, List.setIfInBounds_toArray, List.set_cons_zero, List.set_cons_succ]
          refine wpAnyH_take (i := 9) (v := ?_) rfl (by kernel_rfl) (by kernel_rfl) (by kernel_rfl) (fun _ _ _ h => h) (Or.inl ⟨by kernel_rfl, ?_⟩) (by assumption) ?_
          rotate_left
          · intro X hX
            first | (go_simp; done) | (go_simp; with_reducible rfl)
          simp only [Act.put, List.getElem_toArray, List.getElem_cons_succ, List.getElem_cons_zero, List.setIfInBounds_toArray, List.set_cons_zero, List.set_cons_succ]
          refine wpAnyH_take (i := 10) (v := ?_) rfl (by kernel_rfl) (by kernel_rfl) (by kernel_rfl) (fun _ _ _ h => h) (Or.inl ⟨by kernel_rfl, ?_⟩) (by assumption) ?_
          rotate_left
          · intro X hX
            first | (go_simp; done) | (go_simp; with_reducible rfl)
          simp only [Act.put, List.getElem_toArray, List.getElem_cons_succ, List.getElem_cons_zero, List.setIfInBounds_toArray, List.set_cons_zero, List.set_cons_succ]
          refine wpAnyH_take (i := 11) (v := ?_) rfl (by kernel_rfl) (by kernel_rfl) (by kernel_rfl) (fun _ _ _ h => h) (Or.inl ⟨by kernel_rfl, ?_⟩) (by assumption) ?_
          rotate_left
          · intro X hX
            first | (go_simp; done) | (go_simp; with_reducible rfl)
          simp only [Act.put, List.getElem_toArray, List.getElem_cons_succ, List.getElem_cons_zero, List.setIfInBounds_toArray, List.set_cons_zero, List.set_cons_succ]
          refine wpAnyH_take (i := 12) (v := ?_) rfl (by kernel_rfl) (by kernel_rfl) (by kernel_rfl) (fun _ _ _ h => h) (Or.inl ⟨by kernel_rfl, ?_⟩) (by assumption) ?_
          rotate_left
          · intro X hX
            obtain ⟨_, _, e2, _⟩ := hX
            first | (go_simp; done) | (go_simp; with_reducible rfl)
          simp only [Act.put, List.getElem_toArray, List.getElem_cons_succ, List.getElem_cons_zero, List.setIfInBounds_toArray, List.set_cons_zero, List.set_cons_succ]
          refine wpAnyH_ready (rs := [13]) (by kernel_rfl) (by simp) ?_
          refine AllReadyH.cons rfl (fun K hK => ?_) AllReadyH.nil
          go_simp
          go_wp2_with ((go_at_call 73; refine (K2.out _ hHeld).mono ?_; rintro e v1 ⟨rfl, hS⟩))
          refine hK.out _ _ hS (fun hHeld => ?_)
          clear hK K
          refine wpAnyH_take (i := 14) (v := ?_) rfl (by kernel_rfl) (by kernel_rfl) (by kernel_rfl) (fun _ _ _ h => h) (Or.inl ⟨by kernel_rfl, ?_⟩) (by assumption) ?_
          rotate_left
          · intro X hX
            first | (go_simp; done) | (go_simp; with_reducible rfl)
          simp only [Act.put, List.getElem_toArray, List.getElem_cons_succ, List.getElem_cons_zero, List.setIfInBounds_toArray, List.set_cons_zero, List.set_cons_succ]
          refine wpAnyH_take (i := 15) (v := ?_) rfl (by kernel_rfl) (by kernel_rfl) (by kernel_rfl) (fun _ _ _ h => h) (Or.inl ⟨by kernel_rfl, ?_⟩) (by assumption) ?_
          rotate_left
          · intro X hX
            first | (go_simp; done) | (go_simp; with_reducible rfl)
          simp only [Act.put, List.getElem_toArray, List.getElem_cons_succ, List.getElem_cons_zero, List.setIfInBounds_toArray, List.set_cons_zero, List.set_cons_succ]
          refine wpAnyH_take (i := 16) (v := ?_) rfl (by kernel_rfl) (by kernel_rfl) (by kernel_rfl) (fun _ _ _ h => h) (Or.inl ⟨by kernel_rfl, ?_⟩) (by assumption) ?_
          rotate_left
          · intro X hX
            first | (go_simp; done) | (go_simp; with_reducible rfl)
          simp only [Act.put, List.getElem_toArray, List.getElem_cons_succ, List.getElem_cons_zero, List.setIfInBounds_toArray, List.set_cons_zero, List.set_cons_succ]
          refine wpAnyH_take (i := 17) (v := undef) rfl (by kernel_rfl) (by kernel_rfl) (by kernel_rfl) (fun _ _ _ h => h) (Or.inr ⟨by kernel_rfl, rfl⟩) (by assumption) ?_
          simp only [Act.put, List.getElem_toArray, List.getElem_cons_succ, List.getElem_cons_zero, List.setIfInBounds_toArray, List.set_cons_zero, List.set_cons_succ]
          refine wpAnyH_take (i := 18) (v := undef) rfl (by kernel_rfl) (by kernel_rfl) (by kernel_rfl) (fun _ _ _ h => h) (Or.inr ⟨by kernel_rfl, rfl⟩) (by assumption) ?_
          simp only [Act.put, List.getElem_toArray, List.getElem_cons_succ, List.getElem_cons_zero, List.setIfInBounds_toArray, List.set_cons_zero, List.set_cons_succ]
          refine wpAnyH_take (i := 19) (v := undef) rfl (by kernel_rfl) (by kernel_rfl) (by kernel_rfl) (fun _ _ _ h => h) (Or.inr ⟨by kernel_rfl, rfl⟩) (by assumption) ?_
          simp only [Act.put, List.getElem_toArray, List.getElem_cons_succ, List.getElem_cons_zero, List.setIfInBounds_toArray, List.set_cons_zero, List.set_cons_succ]
          refine wpAnyH_take (i := 20) (v := undef) rfl (by kernel_rfl) (by kernel_rfl) (by kernel_rfl) (fun _ _ _ h => h) (Or.inr ⟨by kernel_rfl, rfl⟩) (by assumption) ?_
          simp only [Act.put, List.getElem_toArray, List.getElem_cons_succ, List.getElem_cons_zero, List.setIfInBounds_toArray, List.set_cons_zero, List.set_cons_succ]
          refine wpAnyH_take (i := 21) (v := undef) rfl (by kernel_rfl) (by kernel_rfl) (by kernel_rfl) (fun _ _ _ h => h) (Or.inr ⟨by kernel_rfl, rfl⟩) (by assumption) ?_
          simp only [Act.put, List.getElem_toArray, List.getElem_cons_succ, List.getElem_cons_zero, List.setIfInBounds_toArray, List.set_cons_zero, List.set_cons_succ]
          refine wpAnyH_take (i := 22) (v := undef) rfl (by kernel_rfl) (by kernel_rfl) (by kernel_rfl) (fun _ _ _ h => h) (Or.inr ⟨by kernel_rfl, rfl⟩) (by assumption) ?_
          simp only [Act.put, List.getElem_toArray, List.getElem_cons_succ, List.getElem_cons_zero, List.setIfInBounds_toArray, List.set_cons_zero, List.set_cons_succ]
          refine wpAnyH_take (i := 23) (v := undef) rfl (by kernel_rfl) (by kernel_rfl) (by kernel_rfl) (fun _ _ _ h => h) (Or.inr ⟨by kernel_rfl, rfl⟩) (by assumption) ?_
          simp only [Act.put, List.getElem_toArray, List.getElem_cons_succ, List.getElem_cons_zero, List.setIfInBounds_toArray, List.set_cons_zero, List.set_cons_succ]
          refine wpAnyH_take (i := 24) (v := undef) rfl (by kernel_rfl) (by kernel_rfl) (by kernel_rfl) (fun _ _ _ h => h) (Or.inr ⟨by kernel_rfl, rfl⟩) (by assumption) ?_
          simp only [Act.put, List.getElem_toArray, List.getElem_cons_succ, List.getElem_cons_zero, List.setIfInBounds_toArray, List.set_cons_zero, List.set_cons_succ]
          refine wpAnyH_take (i := 25) (v := undef) rfl (by kernel_rfl) (by kernel_rfl) (by kernel_rfl) (fun _ _ _ h => h) (Or.inr ⟨by kernel_rfl, rfl⟩) (by assumption) ?_
          simp only [Act.put, List.getElem_toArray, List.getElem_cons_succ, List.getElem_cons_zero, List.setIfInBounds_toArray, List.set_cons_zero, List.set_cons_succ]
          refine wpAnyH_take (i := 26) (v := undef) rfl (by kernel_rfl) (by kernel_rfl) (by kernel_rfl) (fun _ _ _ h => h) (Or.inr ⟨by kernel_rfl, rfl⟩) (by assumption) ?_
          simp only [Act.put, List.getElem_toArray, List.getElem_cons_succ, List.getElem_cons_zero, List.setIfInBounds_toArray, List.set_cons_zero, List.set_cons_succ]
          refine wpAnyH_take (i := 27) (v := undef) rfl (by kernel_rfl) (by kernel_rfl) (by kernel_rfl) (fun _ _ _ h => h) (Or.inr ⟨by kernel_rfl, rfl⟩) (by assumption) ?_
          simp only [Act.put, List.getElem_toArray, List.getElem_cons_succ, List.getElem_cons_zero, List.setIfInBounds_toArray, List.set_cons_zero, List.set_cons_succ]
          refine wpAnyH_take (i := 28) (v := undef) rfl (by kernel_rfl) (by kernel_rfl) (by kernel_rfl) (fun _ _ _ h => h) (Or.inr ⟨by kernel_rfl, rfl⟩) (by assumption) ?_
          simp only [Act.put, List.getElem_toArray, List.getElem_cons_succ, List.getElem_cons_zero, List.setIfInBounds_toArray, List.set_cons_zero, List.set_cons_succ]
          refine wpAnyH_take (i := 29) (v := undef) rfl (by kernel_rfl) (by kernel_rfl) (by kernel_rfl) (fun _ _ _ h => h) (Or.inr ⟨by kernel_rfl, rfl⟩) (by assumption) ?_
          simp only [Act.put, List.getElem_toArray, List.getElem_cons_succ, List.getElem_cons_zero, List.setIfInBounds_toArray, List.set_cons_zero, List.set_cons_succ]
          refine wpAnyH_take (i := 30) (v := undef) rfl (by kernel_rfl) (by kernel_rfl) (by kernel_rfl) (fun _ _ _ h => h) (Or.inr ⟨by kernel_rfl, rfl⟩) (by assumption) ?_
          simp only [Act.put, List.getElem_toArray, List.getElem_cons_succ, List.getElem_cons_zero, List.setIfInBounds_toArray, List.set_cons_zero, List.set_cons_succ]
          refine wpAnyH_take (i := 31) (v := undef) rfl (by kernel_rfl) (by kernel_rfl) (by kernel_rfl) (fun _ _ _ h => h) (Or.inr ⟨by kernel_rfl, rfl⟩) (by assumption) ?_
          simp only [Act.put, List.getElem_toArray, List.getElem_cons_succ, List.getElem_cons_zero, List.setIfInBounds_toArray, List.set_cons_zero, List.set_cons_succ]
          refine wpAnyH_take (i := 32) (v := undef) rfl (by kernel_rfl) (by kernel_rfl) (by kernel_rfl) (fun _ _ _ h => h) (Or.inr ⟨by kernel_rfl, rfl⟩) (by assumption) ?_
          simp only [Act.put, List.getElem_toArray, List.getElem_cons_succ, List.getElem_cons_zero, List.setIfInBounds_toArray, List.set_cons_zero, List.set_cons_succ]
          refine wpAnyH_take (i := 33) (v := undef) rfl (by kernel_rfl) (by kernel_rfl) (by kernel_rfl) (fun _ _ _ h => h) (Or.inr ⟨by kernel_rfl, rfl⟩) (by assumption) ?_
          simp only [Act.put, List.getElem_toArray, List.getElem_cons_succ, List.getElem_cons_zero, List.setIfInBounds_toArray, List.set_cons_zero, List.set_cons_succ]
          refine wpAnyH_take (i := 34) (v := ?_) rfl (by kernel_rfl) (by kernel_rfl) (by kernel_rfl) (fun _ _ _ h => h) (Or.inl ⟨by kernel_rfl, ?_⟩) (by assumption) ?_
          rotate_left
          · intro X hX
            first | (go_simp; done) | (go_simp; with_reducible rfl)
          simp only [Act.put, List.getElem_toArray, List.getElem_cons_succ, List.getElem_cons_zero, List.setIfInBounds_toArray, List.set_cons_zero, List.set_cons_succ]
          refine wpAnyH_done (by kernel_rfl) ?_ _
          have HB := Lib.hid hHeld.2.2.2
          clear hHeld
          go_wp2_with fail
          go_ret
          exact ⟨.inr ⟨hend.out, rfl⟩, HB.out⟩
        · have k2 := inRange_yes xt 1 99 (by omega) (by omega)
          have HOK : Hid (RtOk (xa, xn, xt)) := ⟨hp, by show 1 ≤ xt; omega, by show xt ≤ 99; omega⟩
          by_cases hk0 : k = 0
          · subst hk0
            have HG1 : Hid (GoodTo xs (0 + 1)) := HG.out.snoc (fun x hx => by
              rw [HX.out] at hx
              simp only [Option.some.injEq] at hx
              subst hx
              exact ⟨HOK.out, fun y h => absurd h (by omega)⟩)
            have V00 : Hid (wr.drew.cell? ⟨g, 0, none⟩ = some (.int .i64 xa) ∧ wr.drew.cell? ⟨g, 1, none⟩ = some (.int .i64 xn) ∧ wr.drew.cell? ⟨g, 2, none⟩ = some (.int .i64 xt) ∧ Below w.heap.size w wr.drew) := V0.out
            have hl0 : (0 : Int) < (xs.length : Int) := by omega
            have hl1 : 0 < xs.length := hlt
            clear K1 V0 hlt'
            have K1 : Hid (∀ X, (X.cell? ⟨g, 0, none⟩ = some (.int .i64 xa) ∧ X.cell? ⟨g, 1, none⟩ = some (.int .i64 xn) ∧ X.cell? ⟨g, 2, none⟩ = some (.int .i64 xt) ∧ Below w.heap.size w X) → Calls Try.prog 49 #[.agg #[.int .i64 xa, .int .i64 xn]] X fun e Y => e = .returned (.bool true) ∧ (Y.cell? ⟨g, 0, none⟩ = some (.int .i64 xa) ∧ Y.cell? ⟨g, 1, none⟩ = some (.int .i64 xn) ∧ Y.cell? ⟨g, 2, none⟩ = some (.int .i64 xt) ∧ Below w.heap.size w Y)) := fun X hX => (k1 X).mono (by rintro e Y ⟨rfl, hb⟩; exact ⟨rfl, held_next (k := 0) hX hb⟩)
            have K2 : Hid (∀ X, (X.cell? ⟨g, 0, none⟩ = some (.int .i64 xa) ∧ X.cell? ⟨g, 1, none⟩ = some (.int .i64 xn) ∧ X.cell? ⟨g, 2, none⟩ = some (.int .i64 xt) ∧ Below w.heap.size w X) → Calls Try.prog 73 #[.int .i64 xt, .int .i64 1, .int .i64 99] X fun e Y => e = .returned (.bool true) ∧ (Y.cell? ⟨g, 0, none⟩ = some (.int .i64 xa) ∧ Y.cell? ⟨g, 1, none⟩ = some (.int .i64 xn) ∧ Y.cell? ⟨g, 2, none⟩ = some (.int .i64 xt) ∧ Below w.heap.size w Y)) := fun X hX => (k2 X).mono (by rintro e Y ⟨rfl, rfl⟩; exact ⟨rfl, hX⟩)
            clear k1 k2 hp ht
            go_wp2_with fail
            refine wp_region_held_drew (S := (fun X => X.cell? ⟨g, 0, none⟩ = some (.int .i64 xa) ∧ X.cell? ⟨g, 1, none⟩ = some (.int .i64 xn) ∧ X.cell? ⟨g, 2, none⟩ = some (.int .i64 xt) ∧ Below w.heap.size w X)) (by kernel_rfl) V00.out (fun hHeld => ?_)
            refine wpAnyH_take (i := 0) (v := ?_) rfl (by kernel_rfl) (by kernel_rfl) (by kernel_rfl) (fun _ _ _ h => h) (Or.inl ⟨by kernel_rfl, ?_⟩) (by assumption) ?_
            rotate_left
            · intro X hX
              first | (go_simp; done) | (go_simp; with_reducible rfl)
            simp only [Act.put, List.getElem_toArray, List.getElem_cons_zero, List.setIfInBounds_toArray, List.set_cons_zero, List.set_cons_succ]
            refine wpAnyH_take (i := 1) (v := ?_) rfl (by kernel_rfl) (by kernel_rfl) (by kernel_rfl) (fun _ _ _ h => h) (Or.inl ⟨by kernel_rfl, ?_⟩) (by assumption) ?_
            rotate_left
            · intro X hX
              first | (go_simp; done) | (go_simp; with_reducible rfl)
            simp only [Act.put, List.getElem_toArray, List.getElem_cons_succ, List.getElem_cons_zero, List.setIfInBounds_toArray, List.set_cons_zero, List.set_cons_succ]
            refine wpAnyH_take (i := 2) (v := ?_) rfl (by kernel_rfl) (by kernel_rfl) (by kernel_rfl) (fun _ _ _ h => h) (Or.inl ⟨by kernel_rfl, ?_⟩) (by assumption) ?_
            rotate_left
            · intro X hX
              first | (go_simp; done) | (go_simp; with_reducible rfl)
            simp only [Act.put, List.getElem_toArray, List.getElem_cons_succ, List.getElem_cons_zero, List.setIfInBounds_toArray, List.set_cons_zero, List.set_cons_succ]
            refine wpAnyH_take (i := 3) (v := ?_) rfl (by kernel_rfl) (by kernel_rfl) (by kernel_rfl) (fun _ _ _ h => h) (Or.inl ⟨by kernel_rfl, ?_⟩) (by assumption) ?_
            rotate_left
            · intro X hX
              first | (go_simp; done) | (go_simp; with_reducible rfl)
            simp only [Act.put, List.getElem_toArray, List.getElem_cons_succ, List.getElem_cons_zero, List.setIfInBounds_toArray, List.set_cons_zero, List.set_cons_succ]
            refine wpAnyH_take (i := 4) (v := ?_) rfl (by kernel_rfl) (by kernel_rfl) (by kernel_rfl) (fun _ _ _ h => h) (Or.inl ⟨by kernel_rfl, ?_⟩) (by assumption) ?_
            rotate_left
            · intro X hX
              obtain ⟨e0, e1, _⟩ := hX
              first | (go_simp; done) | (go_simp; with_reducible rfl)
            simp only [Act.put, List.getElem_toArray, List.getElem_cons_succ, List.getElem_cons_zero, List.setIfInBounds_toArray, List.set_cons_zero, List.set_cons_succ]
            refine wpAnyH_ready (rs := [5]) (by kernel_rfl) (by simp) ?_
            refine AllReadyH.cons rfl (fun K hK => ?_) AllReadyH.nil
            go_simp
            go_wp2_with ((go_at_call 49; refine (K1.out _ hHeld).mono ?_; rintro e v1 ⟨rfl, hS⟩))
            refine hK.out _ _ hS (fun hHeld => ?_)
            clear hK K
            refine wpAnyH_take (i := 6) (v := ?_) rfl (by kernel_rfl) (by kernel_rfl) (by kernel_rfl) (fun _ _ _ h => h) (Or.inl ⟨by kernel_rfl, ?_⟩) (by assumption) ?_
            rotate_left
            · intro X hX
              first | (go_simp; done) | (go_simp; with_reducible rfl)
            simp only [Act.put, List.getElem_toArray, List.getElem_cons_succ, List.getElem_cons_zero, List.setIfInBounds_toArray, List.set_cons_zero, List.set_cons_succ]
            refine wpAnyH_take (i := 7) (v := ?_) rfl (by kernel_rfl) (by kernel_rfl) (by kernel_rfl) (fun _ _ _ h => h) (Or.inl ⟨by kernel_rfl, ?_⟩) (by assumption) ?_
            rotate_left
            · intro X hX
              first | (go_simp; done) | (go_simp; with_reducible rfl)
            simp only [Act.put, List.getElem_toArray, List.getElem_cons_succ, List.getElem_cons_zero, List.setIfInBounds_toArray, List.set_cons_zero, List.set_cons_succ]
            refine wpAnyH_take (i := 8) (v := ?_) rfl (by kernel_rfl) (by kernel_rfl) (by kernel_rfl) (fun _ _ _ h => h) (Or.inl ⟨by kernel_rfl, ?_⟩) (by assumption) ?_
            rotate_left
            · intro X hX
              first | (go_simp; done) | (go_simp; with_reducible rfl)
            simp only [Act.put, List.getElem_toArray, List.getElem_cons_succ, List.getElem_cons_zero, List.setIfInBounds_toArray, List.set_cons_zero, List.set_cons_succ]
            refine wpAnyH_take (i := 9) (v := ?_) rfl (by kernel_rfl) (by kernel_rfl) (by kernel_rfl) (fun _ _ _ h => h) (Or.inl ⟨by kernel_rfl, ?_⟩) (by assumption) ?_
            rotate_left
            · intro X hX
              first | (go_simp; done) | (go_simp; with_reducible rfl)
            simp only [Act.put, List.getElem_toArray, List.getElem_cons_succ, List.getElem_cons_zero, List.setIfInBounds_toArray, List.set_cons_zero, List.set_cons_succ]
            refine wpAnyH_take (i := 10) (v := ?_) rfl (by kernel_rfl) (by kernel_rfl) (by kernel_rfl) (fun _ _ _ h => h) (Or.inl ⟨by kernel_rfl, ?_⟩) (by assumption) ?_
            rotate_left
            · intro X hX
              first | (go_simp; done) | (go_simp; with_reducible rfl)
            simp only [Act.put, List.getElem_toArray, List.getElem_cons_succ, List.getElem_cons_zero, List.setIfInBounds_toArray, List.set_cons_zero, List.set_cons_succ]
            refine wpAnyH_take (i := 11) (v := ?_) rfl (by kernel_rfl) (by kernel_rfl) (by kernel_rfl) (fun _ _ _ h => h) (Or.inl ⟨by kernel_rfl, ?_⟩) (by assumption) ?_
            rotate_left
            · intro X hX
              first | (go_simp; done) | (go_simp; with_reducible rfl)
            simp only [Act.put, List.getElem_toArray, List.getElem_cons_succ, List.getElem_cons_zero, List.setIfInBounds_toArray, List.set_cons_zero, List.set_cons_succ]
            refine wpAnyH_take (i := 12) (v := ?_) rfl (by kernel_rfl) (by kernel_rfl) (by kernel_rfl) (fun _ _ _ h => h) (Or.inl ⟨by kernel_rfl, ?_⟩) (by assumption) ?_
            rotate_left
            · intro X hX
              obtain ⟨_, _, e2, _⟩ := hX
              first | (go_simp; done) | (go_simp; with_reducible rfl)
            simp only [Act.put, List.getElem_toArray, List.getElem_cons_succ, List.getElem_cons_zero, List.setIfInBounds_toArray, List.set_cons_zero, List.set_cons_succ]
            refine wpAnyH_ready (rs := [13]) (by kernel_rfl) (by simp) ?_
            refine AllReadyH.cons rfl (fun K hK => ?_) AllReadyH.nil
            go_simp
            go_wp2_with ((go_at_call 73; refine (K2.out _ hHeld).mono ?_; rintro e v1 ⟨rfl, hS⟩))
            refine hK.out _ _ hS (fun hHeld => ?_)
            clear hK K
            refine wpAnyH_take (i := 14) (v := ?_) rfl (by kernel_rfl) (by kernel_rfl) (by kernel_rfl) (fun _ _ _ h => h) (Or.inl ⟨by kernel_rfl, ?_⟩) (by assumption) ?_
            rotate_left
            · intro X hX
              first | (go_simp; done) | (go_simp; with_reducible rfl)
            simp only [Act.put, List.getElem_toArray, List.getElem_cons_succ, List.getElem_cons_zero, List.setIfInBounds_toArray, List.set_cons_zero, List.set_cons_succ]
            refine wpAnyH_take (i := 15) (v := ?_) rfl (by kernel_rfl) (by kernel_rfl) (by kernel_rfl) (fun _ _ _ h => h) (Or.inl ⟨by kernel_rfl, ?_⟩) (by assumption) ?_
            rotate_left
            · intro X hX
              first | (go_simp; done) | (go_simp; with_reducible rfl)
            simp only [Act.put, List.getElem_toArray, List.getElem_cons_succ, List.getElem_cons_zero, List.setIfInBounds_toArray, List.set_cons_zero, List.set_cons_succ]
            refine wpAnyH_take (i := 16) (v := ?_) rfl (by kernel_rfl) (by kernel_rfl) (by kernel_rfl) (fun _ _ _ h => h) (Or.inl ⟨by kernel_rfl, ?_⟩) (by assumption) ?_
            rotate_left
            · intro X hX
              first | (go_simp; done) | (go_simp; with_reducible rfl)
            simp only [Act.put, List.getElem_toArray, List.getElem_cons_succ, List.getElem_cons_zero, List.setIfInBounds_toArray, List.set_cons_zero, List.set_cons_succ]
            refine wpAnyH_take (i := 17) (v := ?_) rfl (by kernel_rfl) (by kernel_rfl) (by kernel_rfl) (fun _ _ _ h => h) (Or.inl ⟨by kernel_rfl, ?_⟩) (by assumption) ?_
            rotate_left
            · intro X hX
              first | (go_simp; done) | (go_simp; with_reducible rfl)
            simp only [Act.put, List.getElem_toArray, List.getElem_cons_succ, List.getElem_cons_zero, List.setIfInBounds_toArray, List.set_cons_zero, List.set_cons_succ]
            refine wpAnyH_take (i := 18) (v := ?_) rfl (by kernel_rfl) (by kernel_rfl) (by kernel_rfl) (fun _ _ _ h => h) (Or.inl ⟨by kernel_rfl, ?_⟩) (by assumption) ?_
            rotate_left
            · intro X hX
              first | (go_simp; done) | (go_simp; with_reducible rfl)
            simp only [Act.put, List.getElem_toArray, List.getElem_cons_succ, List.getElem_cons_zero, List.setIfInBounds_toArray, List.set_cons_zero, List.set_cons_succ]
            refine wpAnyH_take (i := 19) (v := ?_) rfl (by kernel_rfl) (by kernel_rfl) (by kernel_rfl) (fun _ _ _ h => h) (Or.inl ⟨by kernel_rfl, ?_⟩) (by assumption) ?_
            rotate_left
            · intro X hX
              first | (go_simp; done) | (go_simp; with_reducible rfl)
            simp only [Act.put, List.getElem_toArray, List.getElem_cons_succ, List.getElem_cons_zero, List.setIfInBounds_toArray, List.set_cons_zero, List.set_cons_succ]
            refine wpAnyH_take (i := 20) (v := undef) rfl (by kernel_rfl) (by kernel_rfl) (by kernel_rfl) (fun _ _ _ h => h) (Or.inr ⟨by kernel_rfl, rfl⟩) (by assumption) ?_
            simp only [Act.put, List.getElem_toArray, List.getElem_cons_succ, List.getElem_cons_zero, List.setIfInBounds_toArray, List.set_cons_zero, List.set_cons_succ]
            refine wpAnyH_take (i := 21) (v := undef) rfl (by kernel_rfl) (by kernel_rfl) (by kernel_rfl) (fun _ _ _ h => h) (Or.inr ⟨by kernel_rfl, rfl⟩) (by assumption) ?_
            simp only [Act.put, List.getElem_toArray, List.getElem_cons_succ, List.getElem_cons_zero, List.setIfInBounds_toArray, List.set_cons_zero, List.set_cons_succ]
            refine wpAnyH_take (i := 22) (v := undef) rfl (by kernel_rfl) (by kernel_rfl) (by kernel_rfl) (fun _ _ _ h => h) (Or.inr ⟨by kernel_rfl, rfl⟩) (by assumption) ?_
            simp only [Act.put, List.getElem_toArray, List.getElem_cons_succ, List.getElem_cons_zero, List.setIfInBounds_toArray, List.set_cons_zero, List.set_cons_succ]
            refine wpAnyH_take (i := 23) (v := undef) rfl (by kernel_rfl) (by kernel_rfl) (by kernel_rfl) (fun _ _ _ h => h) (Or.inr ⟨by kernel_rfl, rfl⟩) (by assumption) ?_
            simp only [Act.put, List.getElem_toArray, List.getElem_cons_succ, List.getElem_cons_zero, List.setIfInBounds_toArray, List.set_cons_zero, List.set_cons_succ]
            refine wpAnyH_take (i := 24) (v := undef) rfl (by kernel_rfl) (by kernel_rfl) (by kernel_rfl) (fun _ _ _ h => h) (Or.inr ⟨by kernel_rfl, rfl⟩) (by assumption) ?_
            simp only [Act.put, List.getElem_toArray, List.getElem_cons_succ, List.getElem_cons_zero, List.setIfInBounds_toArray, List.set_cons_zero, List.set_cons_succ]
            refine wpAnyH_take (i := 25) (v := undef) rfl (by kernel_rfl) (by kernel_rfl) (by kernel_rfl) (fun _ _ _ h => h) (Or.inr ⟨by kernel_rfl, rfl⟩) (by assumption) ?_
            simp only [Act.put, List.getElem_toArray, List.getElem_cons_succ, List.getElem_cons_zero, List.setIfInBounds_toArray, List.set_cons_zero, List.set_cons_succ]
            refine wpAnyH_take (i := 26) (v := undef) rfl (by kernel_rfl) (by kernel_rfl) (by kernel_rfl) (fun _ _ _ h => h) (Or.inr ⟨by kernel_rfl, rfl⟩) (by assumption) ?_
            simp only [Act.put, List.getElem_toArray, List.getElem_cons_succ, List.getElem_cons_zero, List.setIfInBounds_toArray, List.set_cons_zero, List.set_cons_succ]
            refine wpAnyH_take (i := 27) (v := undef) rfl (by kernel_rfl) (by kernel_rfl) (by kernel_rfl) (fun _ _ _ h => h) (Or.inr ⟨by kernel_rfl, rfl⟩) (by assumption) ?_
            simp only [Act.put, List.getElem_toArray, List.getElem_cons_succ, List.getElem_cons_zero, List.setIfInBounds_toArray, List.set_cons_zero, List.set_cons_succ]
            refine wpAnyH_take (i := 28) (v := undef) rfl (by kernel_rfl) (by kernel_rfl) (by kernel_rfl) (fun _ _ _ h => h) (Or.inr ⟨by kernel_rfl, rfl⟩) (by assumption) ?_
            simp only [Act.put, List.getElem_toArray, List.getElem_cons_succ, List.getElem_cons_zero, List.setIfInBounds_toArray, List.set_cons_zero, List.set_cons_succ]
            refine wpAnyH_take (i := 29) (v := undef) rfl (by kernel_rfl) (by kernel_rfl) (by kernel_rfl) (fun _ _ _ h => h) (Or.inr ⟨by kernel_rfl, rfl⟩) (by assumption) ?_
            simp only [Act.put, List.getElem_toArray, List.getElem_cons_succ, List.getElem_cons_zero, List.setIfInBounds_toArray, List.set_cons_zero, List.set_cons_succ]
            refine wpAnyH_take (i := 30) (v := undef) rfl (by kernel_rfl) (by kernel_rfl) (by kernel_rfl) (fun _ _ _ h => h) (Or.inr ⟨by kernel_rfl, rfl⟩) (by assumption) ?_
            simp only [Act.put, List.getElem_toArray, List.getElem_cons_succ, List.getElem_cons_zero, List.setIfInBounds_toArray, List.set_cons_zero, List.set_cons_succ]
            refine wpAnyH_take (i := 31) (v := undef) rfl (by kernel_rfl) (by kernel_rfl) (by kernel_rfl) (fun _ _ _ h => h) (Or.inr ⟨by kernel_rfl, rfl⟩) (by assumption) ?_
            simp only [Act.put, List.getElem_toArray, List.getElem_cons_succ, List.getElem_cons_zero, List.setIfInBounds_toArray, List.set_cons_zero, List.set_cons_succ]
            refine wpAnyH_take (i := 32) (v := undef) rfl (by kernel_rfl) (by kernel_rfl) (by kernel_rfl) (fun _ _ _ h => h) (Or.inr ⟨by kernel_rfl, rfl⟩) (by assumption) ?_
            simp only [Act.put, List.getElem_toArray, List.getElem_cons_succ, List.getElem_cons_zero, List.setIfInBounds_toArray, List.set_cons_zero, List.set_cons_succ]
            refine wpAnyH_take (i := 33) (v := ?_) rfl (by kernel_rfl) (by kernel_rfl) (by kernel_rfl) (fun _ _ _ h => h) (Or.inl ⟨by kernel_rfl, ?_⟩) (by assumption) ?_
            rotate_left
            · intro X hX
              first | (go_simp; done) | (go_simp; with_reducible rfl)
            simp only [Act.put, List.getElem_toArray, List.getElem_cons_succ, List.getElem_cons_zero, List.setIfInBounds_toArray, List.set_cons_zero, List.set_cons_succ]
            refine wpAnyH_take (i := 34) (v := ?_) rfl (by kernel_rfl) (by kernel_rfl) (by kernel_rfl) (fun _ _ _ h => h) (Or.inl ⟨by kernel_rfl, ?_⟩) (by assumption) ?_
            rotate_left
            · intro X hX
              first | (go_simp; done) | (go_simp; with_reducible rfl)
            simp only [Act.put, List.getElem_toArray, List.getElem_cons_succ, List.getElem_cons_zero, List.setIfInBounds_toArray, List.set_cons_zero, List.set_cons_succ]
            refine wpAnyH_done (by kernel_rfl) ?_ _
            have HB := Lib.hid hHeld.2.2.2
            clear hHeld
            go_wp2_with fail
            go_roundw
            case rel => exact ⟨0 + 1, by omega, by go_num, HG1.out, HB.out⟩
            case measure => simp [intOf]; omega
          · obtain ⟨j, hj⟩ : ∃ j, k = j + 1 := ⟨k - 1, by omega⟩
            have hz : decide ((0 : Int) < (k : Int)) = true := decide_eq_true (by omega)
            have hz1 : (0 : Int) < (k : Int) := by omega
            have hz2 : 0 < k := by omega
            have hj1 : (j : Int) < (xs.length : Int) := by omega
            have hsub : IntKind.i64.wrap ((k : Int) - 1) = (j : Int) := by rw [IntKind.wrap_i64]; omega
            have hxj : xs[j]? = some (xs[j]'(by omega)) := List.getElem?_eq_getElem (by omega)
            obtain ⟨d0, d1, d2⟩ := row_three HCL.out j _ hxj
            clear d2
            rw [← HN.out.drew.cell (p := ⟨g, j * 3, none⟩) hg] at d0
            rw [← HN.out.drew.cell (p := ⟨g, j * 3 + 1, none⟩) hg] at d1
            generalize (xs[j]'(by omega)) = y at hxj d0 d1
            obtain ⟨ya, yn, yt⟩ := y
            have V5 : Hid (wr.drew.cell? ⟨g, k * 3, none⟩ = some (.int .i64 xa) ∧ wr.drew.cell? ⟨g, k * 3 + 1, none⟩ = some (.int .i64 xn) ∧ wr.drew.cell? ⟨g, k * 3 + 2, none⟩ = some (.int .i64 xt) ∧ wr.drew.cell? ⟨g, j * 3, none⟩ = some (.int .i64 ya) ∧ wr.drew.cell? ⟨g, j * 3 + 1, none⟩ = some (.int .i64 yn) ∧ Below w.heap.size w wr.drew) := ⟨V0.out.1, V0.out.2.1, V0.out.2.2.1, d0, d1, V0.out.2.2.2⟩
            obtain ⟨b, k3, hbt, hbf⟩ : ∃ b : Bool, (∀ X, Calls Try.prog 42 #[.agg #[.int .i64 ya, .int .i64 yn], .agg #[.int .i64 xa, .int .i64 xn]] X fun e w' => e = .returned (.bool b) ∧ Below X.heap.size X w') ∧ (b = true → GoodTo xs (k + 1)) ∧ (b = false → ¬ RoutesP xs) := by
              by_cases ha : Ahead ya yn xa xn
              · refine ⟨true, specAhead_yes ya yn xa xn ha, fun _ => HG.out.snoc (fun x hx => ?_), fun h => by cases h⟩
                rw [HX.out] at hx
                simp only [Option.some.injEq] at hx
                subst hx
                refine ⟨HOK.out, fun y _ hy => ?_⟩
                have e : k - 1 = j := by omega
                rw [e, hxj] at hy
                simp only [Option.some.injEq] at hy
                subst hy
                exact ha
              · refine ⟨false, specAhead_no ya yn xa xn ha, (fun h => by cases h), fun _ h => ha ?_⟩
                have e : k - 1 = j := by omega
                exact (h.1 k hlt _ HX.out).2 (ya, yn, yt) (by omega) (by rw [e]; exact hxj)
            have HBT := Lib.hid hbt
            have HBF := Lib.hid hbf
            have L1 : Hid (∀ X, (X.cell? ⟨g, k * 3, none⟩ = some (.int .i64 xa) ∧ X.cell? ⟨g, k * 3 + 1, none⟩ = some (.int .i64 xn) ∧ X.cell? ⟨g, k * 3 + 2, none⟩ = some (.int .i64 xt) ∧ X.cell? ⟨g, j * 3, none⟩ = some (.int .i64 ya) ∧ X.cell? ⟨g, j * 3 + 1, none⟩ = some (.int .i64 yn) ∧ Below w.heap.size w X) → Calls Try.prog 49 #[.agg #[.int .i64 xa, .int .i64 xn]] X fun e Y => e = .returned (.bool true) ∧ (Y.cell? ⟨g, k * 3, none⟩ = some (.int .i64 xa) ∧ Y.cell? ⟨g, k * 3 + 1, none⟩ = some (.int .i64 xn) ∧ Y.cell? ⟨g, k * 3 + 2, none⟩ = some (.int .i64 xt) ∧ Y.cell? ⟨g, j * 3, none⟩ = some (.int .i64 ya) ∧ Y.cell? ⟨g, j * 3 + 1, none⟩ = some (.int .i64 yn) ∧ Below w.heap.size w Y)) := fun X hX => (k1 X).mono (by rintro e Y ⟨rfl, hb⟩; exact ⟨rfl, held_five hX hb⟩)
            have L2 : Hid (∀ X, (X.cell? ⟨g, k * 3, none⟩ = some (.int .i64 xa) ∧ X.cell? ⟨g, k * 3 + 1, none⟩ = some (.int .i64 xn) ∧ X.cell? ⟨g, k * 3 + 2, none⟩ = some (.int .i64 xt) ∧ X.cell? ⟨g, j * 3, none⟩ = some (.int .i64 ya) ∧ X.cell? ⟨g, j * 3 + 1, none⟩ = some (.int .i64 yn) ∧ Below w.heap.size w X) → Calls Try.prog 73 #[.int .i64 xt, .int .i64 1, .int .i64 99] X fun e Y => e = .returned (.bool true) ∧ (Y.cell? ⟨g, k * 3, none⟩ = some (.int .i64 xa) ∧ Y.cell? ⟨g, k * 3 + 1, none⟩ = some (.int .i64 xn) ∧ Y.cell? ⟨g, k * 3 + 2, none⟩ = some (.int .i64 xt) ∧ Y.cell? ⟨g, j * 3, none⟩ = some (.int .i64 ya) ∧ Y.cell? ⟨g, j * 3 + 1, none⟩ = some (.int .i64 yn) ∧ Below w.heap.size w Y)) := fun X hX => (k2 X).mono (by rintro e Y ⟨rfl, rfl⟩; exact ⟨rfl, hX⟩)
            have L3 : Hid (∀ X, (X.cell? ⟨g, k * 3, none⟩ = some (.int .i64 xa) ∧ X.cell? ⟨g, k * 3 + 1, none⟩ = some (.int .i64 xn) ∧ X.cell? ⟨g, k * 3 + 2, none⟩ = some (.int .i64 xt) ∧ X.cell? ⟨g, j * 3, none⟩ = some (.int .i64 ya) ∧ X.cell? ⟨g, j * 3 + 1, none⟩ = some (.int .i64 yn) ∧ Below w.heap.size w X) → Calls Try.prog 42 #[.agg #[.int .i64 ya, .int .i64 yn], .agg #[.int .i64 xa, .int .i64 xn]] X fun e Y => e = .returned (.bool b) ∧ (Y.cell? ⟨g, k * 3, none⟩ = some (.int .i64 xa) ∧ Y.cell? ⟨g, k * 3 + 1, none⟩ = some (.int .i64 xn) ∧ Y.cell? ⟨g, k * 3 + 2, none⟩ = some (.int .i64 xt) ∧ Y.cell? ⟨g, j * 3, none⟩ = some (.int .i64 ya) ∧ Y.cell? ⟨g, j * 3 + 1, none⟩ = some (.int .i64 yn) ∧ Below w.heap.size w Y)) := fun X hX => (k3 X).mono (by rintro e Y ⟨rfl, hb⟩; exact ⟨rfl, held_five hX hb⟩)
            clear k1 k2 k3 hp ht hk0 hbt hbf hxj d0 d1 V0 K1 hj
            go_wp2_with fail
            go_region_held3 (fun X => X.cell? ⟨g, k * 3, none⟩ = some (.int .i64 xa) ∧ X.cell? ⟨g, k * 3 + 1, none⟩ = some (.int .i64 xn) ∧ X.cell? ⟨g, k * 3 + 2, none⟩ = some (.int .i64 xt) ∧ X.cell? ⟨g, j * 3, none⟩ = some (.int .i64 ya) ∧ X.cell? ⟨g, j * 3 + 1, none⟩ = some (.int .i64 yn) ∧ Below w.heap.size w X) (first | (with_reducible assumption) | (with_reducible exact V5.out)) (first | (go_at_call 49; refine (L1.out _ (by assumption)).mono ?_; rintro e v1 ⟨rfl, hS⟩) | (go_at_call 73; refine (L2.out _ (by assumption)).mono ?_; rintro e v1 ⟨rfl, hS⟩) | (go_at_call 42; refine (L3.out _ (by assumption)).mono ?_; rintro e v1 ⟨rfl, hS⟩))
            all_goals
              have HB := Lib.hid hS.2.2.2.2.2
              clear hS
              cases b
              · have hend := Lib.hid (HBF.out rfl)
                go_wp2_with fail
                go_ret
                exact ⟨.inr ⟨hend.out, rfl⟩, HB.out⟩
              · have hg1 := Lib.hid (HBT.out rfl)
                go_wp2_with fail
                go_roundw
                case rel => exact ⟨k + 1, by omega, by go_num, hg1.out, HB.out⟩
                case measure => simp [intOf]; omega
      · have k1 := specPrefixOk_wrong xa xn hp
        have hend : Hid (¬ RoutesP xs) := fun h => hp (h.1 k hlt _ HX.out).1.1
        have K1 : Hid (∀ X, (X.cell? ⟨g, k * 3, none⟩ = some (.int .i64 xa) ∧ X.cell? ⟨g, k * 3 + 1, none⟩ = some (.int .i64 xn) ∧ X.cell? ⟨g, k * 3 + 2, none⟩ = some (.int .i64 xt) ∧ Below w.heap.size w X) → Calls Try.prog 49 #[.agg #[.int .i64 xa, .int .i64 xn]] X fun e Y => e = .returned (.bool false) ∧ (Y.cell? ⟨g, k * 3, none⟩ = some (.int .i64 xa) ∧ Y.cell? ⟨g, k * 3 + 1, none⟩ = some (.int .i64 xn) ∧ Y.cell? ⟨g, k * 3 + 2, none⟩ = some (.int .i64 xt) ∧ Below w.heap.size w Y)) := fun X hX => (k1 X).mono (by rintro e Y ⟨rfl, hb⟩; exact ⟨rfl, held_next hX hb⟩)
        clear k1 hp
        go_wp2_with fail
        refine wp_region_held_drew (S := (fun X => X.cell? ⟨g, k * 3, none⟩ = some (.int .i64 xa) ∧ X.cell? ⟨g, k * 3 + 1, none⟩ = some (.int .i64 xn) ∧ X.cell? ⟨g, k * 3 + 2, none⟩ = some (.int .i64 xt) ∧ Below w.heap.size w X)) (by kernel_rfl) V0.out (fun hHeld => ?_)
        refine wpAnyH_take (i := 0) (v := ?_) rfl (by kernel_rfl) (by kernel_rfl) (by kernel_rfl) (fun _ _ _ h => h) (Or.inl ⟨by kernel_rfl, ?_⟩) (by assumption) ?_
        rotate_left
        · intro X hX
          first | (go_simp; done) | (go_simp; with_reducible rfl)
        simp only [Act.put, List.getElem_toArray, List.getElem_cons_zero, List.setIfInBounds_toArray, List.set_cons_zero, List.set_cons_succ]
        refine wpAnyH_take (i := 1) (v := ?_) rfl (by kernel_rfl) (by kernel_rfl) (by kernel_rfl) (fun _ _ _ h => h) (Or.inl ⟨by kernel_rfl, ?_⟩) (by assumption) ?_
        rotate_left
        · intro X hX
          first | (go_simp; done) | (go_simp; with_reducible rfl)
        simp only [Act.put, List.getElem_toArray, List.getElem_cons_succ, List.getElem_cons_zero, List.setIfInBounds_toArray, List.set_cons_zero, List.set_cons_succ]
        refine wpAnyH_take (i := 2) (v := ?_) rfl (by kernel_rfl) (by kernel_rfl) (by kernel_rfl) (fun _ _ _ h => h) (Or.inl ⟨by kernel_rfl, ?_⟩) (by assumption) ?_
        rotate_left
        · intro X hX
          first | (go_simp; done) | (go_simp; with_reducible rfl)
        simp only [Act.put, List.getElem_toArray, List.getElem_cons_succ, List.getElem_cons_zero, List.setIfInBounds_toArray, List.set_cons_zero, List.set_cons_succ]
        refine wpAnyH_take (i := 3) (v := ?_) rfl (by kernel_rfl) (by kernel_rfl) (by kernel_rfl) (fun _ _ _ h => h) (Or.inl ⟨by kernel_rfl, ?_⟩) (by assumption) ?_
        rotate_left
        · intro X hX
          first | (go_simp; done) | (go_simp; with_reducible rfl)
        simp only [Act.put, List.getElem_toArray, List.getElem_cons_succ, List.getElem_cons_zero, List.setIfInBounds_toArray, List.set_cons_zero, List.set_cons_succ]
        refine wpAnyH_take (i := 4) (v := ?_) rfl (by kernel_rfl) (by kernel_rfl) (by kernel_rfl) (fun _ _ _ h => h) (Or.inl ⟨by kernel_rfl, ?_⟩) (by assumption) ?_
        rotate_left
        · intro X hX
          obtain ⟨e0, e1, _⟩ := hX
          first | (go_simp; done) | (go_simp; with_reducible rfl)
        simp only [Act.put, List.getElem_toArray, List.getElem_cons_succ, List.getElem_cons_zero, List.setIfInBounds_toArray, List.set_cons_zero, List.set_cons_succ]
        refine wpAnyH_ready (rs := [5]) (by kernel_rfl) (by simp) ?_
        refine AllReadyH.cons rfl (fun K hK => ?_) AllReadyH.nil
        go_simp
        go_wp2_with ((go_at_call 49; refine (K1.out _ hHeld).mono ?_; rintro e v1 ⟨rfl, hS⟩))
        refine hK.out _ _ hS (fun hHeld => ?_)
        clear hK K
        refine wpAnyH_take (i := 6) (v := ?_) rfl (by kernel_rfl) (by kernel_rfl) (by kernel_rfl) (fun _ _ _ h => h) (Or.inl ⟨by kernel_rfl, ?_⟩) (by assumption) ?_
        rotate_left
        · intro X hX
          first | (go_simp; done) | (go_simp; with_reducible rfl)
        simp only [Act.put, List.getElem_toArray, List.getElem_cons_succ, List.getElem_cons_zero, List.setIfInBounds_toArray, List.set_cons_zero, List.set_cons_succ]
        refine wpAnyH_take (i := 7) (v := ?_) rfl (by kernel_rfl) (by kernel_rfl) (by kernel_rfl) (fun _ _ _ h => h) (Or.inl ⟨by kernel_rfl, ?_⟩) (by assumption) ?_
        rotate_left
        · intro X hX
          first | (go_simp; done) | (go_simp; with_reducible rfl)
        simp only [Act.put, List.getElem_toArray, List.getElem_cons_succ, List.getElem_cons_zero, List.setIfInBounds_toArray, List.set_cons_zero, List.set_cons_succ]
        refine wpAnyH_take (i := 8) (v := undef) rfl (by kernel_rfl) (by kernel_rfl) (by kernel_rfl) (fun _ _ _ h => h) (Or.inr ⟨by kernel_rfl, rfl⟩) (by assumption) ?_
        simp only [Act.put, List.getElem_toArray, List.getElem_cons_succ, List.getElem_cons_zero, List.setIfInBounds_toArray, List.set_cons_zero, List.set_cons_succ]
        refine wpAnyH_take (i := 9) (v := undef) rfl (by kernel_rfl) (by kernel_rfl) (by kernel_rfl) (fun _ _ _ h => h) (Or.inr ⟨by kernel_rfl, rfl⟩) (by assumption) ?_
        simp only [Act.put, List.getElem_toArray, List.getElem_cons_succ, List.getElem_cons_zero, List.setIfInBounds_toArray, List.set_cons_zero, List.set_cons_succ]
        refine wpAnyH_take (i := 10) (v := undef) rfl (by kernel_rfl) (by kernel_rfl) (by kernel_rfl) (fun _ _ _ h => h) (Or.inr ⟨by kernel_rfl, rfl⟩) (by assumption) ?_
        simp only [Act.put, List.getElem_toArray, List.getElem_cons_succ, List.getElem_cons_zero, List.setIfInBounds_toArray, List.set_cons_zero, List.set_cons_succ]
        refine wpAnyH_take (i := 11) (v := undef) rfl (by kernel_rfl) (by kernel_rfl) (by kernel_rfl) (fun _ _ _ h => h) (Or.inr ⟨by kernel_rfl, rfl⟩) (by assumption) ?_
        simp only [Act.put, List.getElem_toArray, List.getElem_cons_succ, List.getElem_cons_zero, List.setIfInBounds_toArray, List.set_cons_zero, List.set_cons_succ]
        refine wpAnyH_take (i := 12) (v := undef) rfl (by kernel_rfl) (by kernel_rfl) (by kernel_rfl) (fun _ _ _ h => h) (Or.inr ⟨by kernel_rfl, rfl⟩) (by assumption) ?_
        simp only [Act.put, List.getElem_toArray, List.getElem_cons_succ, List.getElem_cons_zero, List.setIfInBounds_toArray, List.set_cons_zero, List.set_cons_succ]
        refine wpAnyH_take (i := 13) (v := undef) rfl (by kernel_rfl) (by kernel_rfl) (by kernel_rfl) (fun _ _ _ h => h) (Or.inr ⟨by kernel_rfl, rfl⟩) (by assumption) ?_
        simp only [Act.put, List.getElem_toArray, List.getElem_cons_succ, List.getElem_cons_zero, List.setIfInBounds_toArray, List.set_cons_zero, List.set_cons_succ]
        refine wpAnyH_take (i := 14) (v := undef) rfl (by kernel_rfl) (by kernel_rfl) (by kernel_rfl) (fun _ _ _ h => h) (Or.inr ⟨by kernel_rfl, rfl⟩) (by assumption) ?_
        simp only [Act.put, List.getElem_toArray, List.getElem_cons_succ, List.getElem_cons_zero, List.setIfInBounds_toArray, List.set_cons_zero, List.set_cons_succ]
        refine wpAnyH_take (i := 15) (v := ?_) rfl (by kernel_rfl) (by kernel_rfl) (by kernel_rfl) (fun _ _ _ h => h) (Or.inl ⟨by kernel_rfl, ?_⟩) (by assumption) ?_
        rotate_left
        · intro X hX
          first | (go_simp; done) | (go_simp; with_reducible rfl)
        simp only [Act.put, List.getElem_toArray, List.getElem_cons_succ, List.getElem_cons_zero, List.setIfInBounds_toArray, List.set_cons_zero, List.set_cons_succ]
        refine wpAnyH_take (i := 16) (v := ?_) rfl (by kernel_rfl) (by kernel_rfl) (by kernel_rfl) (fun _ _ _ h => h) (Or.inl ⟨by kernel_rfl, ?_⟩) (by assumption) ?_
        rotate_left
        · intro X hX
          first | (go_simp; done) | (go_simp; with_reducible rfl)
        simp only [Act.put, List.getElem_toArray, List.getElem_cons_succ, List.getElem_cons_zero, List.setIfInBounds_toArray, List.set_cons_zero, List.set_cons_succ]
        refine wpAnyH_take (i := 17) (v := undef) rfl (by kernel_rfl) (by kernel_rfl) (by kernel_rfl) (fun _ _ _ h => h) (Or.inr ⟨by kernel_rfl, rfl⟩) (by assumption) ?_
        simp only [Act.put, List.getElem_toArray, List.getElem_cons_succ, List.getElem_cons_zero, List.setIfInBounds_toArray, List.set_cons_zero, List.set_cons_succ]
        refine wpAnyH_take (i := 18) (v := undef) rfl (by kernel_rfl) (by kernel_rfl) (by kernel_rfl) (fun _ _ _ h => h) (Or.inr ⟨by kernel_rfl, rfl⟩) (by assumption) ?_
        simp only [Act.put, List.getElem_toArray, List.getElem_cons_succ, List.getElem_cons_zero, List.setIfInBounds_toArray, List.set_cons_zero, List.set_cons_succ]
        refine wpAnyH_take (i := 19) (v := undef) rfl (by kernel_rfl) (by kernel_rfl) (by kernel_rfl) (fun _ _ _ h => h) (Or.inr ⟨by kernel_rfl, rfl⟩) (by assumption) ?_
        simp only [Act.put, List.getElem_toArray, List.getElem_cons_succ, List.getElem_cons_zero, List.setIfInBounds_toArray, List.set_cons_zero, List.set_cons_succ]
        refine wpAnyH_take (i := 20) (v := undef) rfl (by kernel_rfl) (by kernel_rfl) (by kernel_rfl) (fun _ _ _ h => h) (Or.inr ⟨by kernel_rfl, rfl⟩) (by assumption) ?_
        simp only [Act.put, List.getElem_toArray, List.getElem_cons_succ, List.getElem_cons_zero, List.setIfInBounds_toArray, List.set_cons_zero, List.set_cons_succ]
        refine wpAnyH_take (i := 21) (v := undef) rfl (by kernel_rfl) (by kernel_rfl) (by kernel_rfl) (fun _ _ _ h => h) (Or.inr ⟨by kernel_rfl, rfl⟩) (by assumption) ?_
        simp only [Act.put, List.getElem_toArray, List.getElem_cons_succ, List.getElem_cons_zero, List.setIfInBounds_toArray, List.set_cons_zero, List.set_cons_succ]
        refine wpAnyH_take (i := 22) (v := undef) rfl (by kernel_rfl) (by kernel_rfl) (by kernel_rfl) (fun _ _ _ h => h) (Or.inr ⟨by kernel_rfl, rfl⟩) (by assumption) ?_
        simp only [Act.put, List.getElem_toArray, List.getElem_cons_succ, List.getElem_cons_zero, List.setIfInBounds_toArray, List.set_cons_zero, List.set_cons_succ]
        refine wpAnyH_take (i := 23) (v := undef) rfl (by kernel_rfl) (by kernel_rfl) (by kernel_rfl) (fun _ _ _ h => h) (Or.inr ⟨by kernel_rfl, rfl⟩) (by assumption) ?_
        simp only [Act.put, List.getElem_toArray, List.getElem_cons_succ, List.getElem_cons_zero, List.setIfInBounds_toArray, List.set_cons_zero, List.set_cons_succ]
        refine wpAnyH_take (i := 24) (v := undef) rfl (by kernel_rfl) (by kernel_rfl) (by kernel_rfl) (fun _ _ _ h => h) (Or.inr ⟨by kernel_rfl, rfl⟩) (by assumption) ?_
        simp only [Act.put, List.getElem_toArray, List.getElem_cons_succ, List.getElem_cons_zero, List.setIfInBounds_toArray, List.set_cons_zero, List.set_cons_succ]
        refine wpAnyH_take (i := 25) (v := undef) rfl (by kernel_rfl) (by kernel_rfl) (by kernel_rfl) (fun _ _ _ h => h) (Or.inr ⟨by kernel_rfl, rfl⟩) (by assumption) ?_
        simp only [Act.put, List.getElem_toArray, List.getElem_cons_succ, List.getElem_cons_zero, List.setIfInBounds_toArray, List.set_cons_zero, List.set_cons_succ]
        refine wpAnyH_take (i := 26) (v := undef) rfl (by kernel_rfl) (by kernel_rfl) (by kernel_rfl) (fun _ _ _ h => h) (Or.inr ⟨by kernel_rfl, rfl⟩) (by assumption) ?_
        simp only [Act.put, List.getElem_toArray, List.getElem_cons_succ, List.getElem_cons_zero, List.setIfInBounds_toArray, List.set_cons_zero, List.set_cons_succ]
        refine wpAnyH_take (i := 27) (v := undef) rfl (by kernel_rfl) (by kernel_rfl) (by kernel_rfl) (fun _ _ _ h => h) (Or.inr ⟨by kernel_rfl, rfl⟩) (by assumption) ?_
        simp only [Act.put, List.getElem_toArray, List.getElem_cons_succ, List.getElem_cons_zero, List.setIfInBounds_toArray, List.set_cons_zero, List.set_cons_succ]
        refine wpAnyH_take (i := 28) (v := undef) rfl (by kernel_rfl) (by kernel_rfl) (by kernel_rfl) (fun _ _ _ h => h) (Or.inr ⟨by kernel_rfl, rfl⟩) (by assumption) ?_
        simp only [Act.put, List.getElem_toArray, List.getElem_cons_succ, List.getElem_cons_zero, List.setIfInBounds_toArray, List.set_cons_zero, List.set_cons_succ]
        refine wpAnyH_take (i := 29) (v := undef) rfl (by kernel_rfl) (by kernel_rfl) (by kernel_rfl) (fun _ _ _ h => h) (Or.inr ⟨by kernel_rfl, rfl⟩) (by assumption) ?_
        simp only [Act.put, List.getElem_toArray, List.getElem_cons_succ, List.getElem_cons_zero, List.setIfInBounds_toArray, List.set_cons_zero, List.set_cons_succ]
        refine wpAnyH_take (i := 30) (v := undef) rfl (by kernel_rfl) (by kernel_rfl) (by kernel_rfl) (fun _ _ _ h => h) (Or.inr ⟨by kernel_rfl, rfl⟩) (by assumption) ?_
        simp only [Act.put, List.getElem_toArray, List.getElem_cons_succ, List.getElem_cons_zero, List.setIfInBounds_toArray, List.set_cons_zero, List.set_cons_succ]
        refine wpAnyH_take (i := 31) (v := undef) rfl (by kernel_rfl) (by kernel_rfl) (by kernel_rfl) (fun _ _ _ h => h) (Or.inr ⟨by kernel_rfl, rfl⟩) (by assumption) ?_
        simp only [Act.put, List.getElem_toArray, List.getElem_cons_succ, List.getElem_cons_zero, List.setIfInBounds_toArray, List.set_cons_zero, List.set_cons_succ]
        refine wpAnyH_take (i := 32) (v := undef) rfl (by kernel_rfl) (by kernel_rfl) (by kernel_rfl) (fun _ _ _ h => h) (Or.inr ⟨by kernel_rfl, rfl⟩) (by assumption) ?_
        simp only [Act.put, List.getElem_toArray, List.getElem_cons_succ, List.getElem_cons_zero, List.setIfInBounds_toArray, List.set_cons_zero, List.set_cons_succ]
        refine wpAnyH_take (i := 33) (v := undef) rfl (by kernel_rfl) (by kernel_rfl) (by kernel_rfl) (fun _ _ _ h => h) (Or.inr ⟨by kernel_rfl, rfl⟩) (by assumption) ?_
        simp only [Act.put, List.getElem_toArray, List.getElem_cons_succ, List.getElem_cons_zero, List.setIfInBounds_toArray, List.set_cons_zero, List.set_cons_succ]
        refine wpAnyH_take (i := 34) (v := ?_) rfl (by kernel_rfl) (by kernel_rfl) (by kernel_rfl) (fun _ _ _ h => h) (Or.inl ⟨by kernel_rfl, ?_⟩) (by assumption) ?_
        rotate_left
        · intro X hX
          first | (go_simp; done) | (go_simp; with_reducible rfl)
        simp only [Act.put, List.getElem_toArray, List.getElem_cons_succ, List.getElem_cons_zero, List.setIfInBounds_toArray, List.set_cons_zero, List.set_cons_succ]
        refine wpAnyH_done (by kernel_rfl) ?_ _
        have HB := Lib.hid hHeld.2.2.2
        clear hHeld
        go_wp2_with fail
        go_ret
        exact ⟨.inr ⟨hend.out, rfl⟩, HB.out⟩
    · have hlt' : ¬ ((k : Int) < (xs.length : Int)) := by omega
      have hke : k = xs.length := by omega
      by_cases h12 : xs.length ≤ 12
      · have hd : decide ((xs.length : Int) ≤ 12) = true := decide_eq_true (by omega)
        have HE : Hid (RoutesP xs) := ⟨hke ▸ HG.out, h12⟩
        go_wp2_with fail
        go_ret
        exact ⟨.inl ⟨HE.out, rfl⟩, HN.out⟩
      · have hd : decide ((xs.length : Int) ≤ 12) = false := decide_eq_false (by omega)
        have HE : Hid (¬ RoutesP xs) := fun h => h12 h.2
        go_wp2_with fail
        go_ret
        exact ⟨.inr ⟨HE.out, rfl⟩, HN.out⟩

end Go.Proofs.Ytphmomlgmnllkac
