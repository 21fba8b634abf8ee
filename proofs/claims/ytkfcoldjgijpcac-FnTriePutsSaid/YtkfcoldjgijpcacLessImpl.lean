/-
  The program's order of prefixes, and whether a route is right by itself.
-/
import Derived.Test.YtkfcoldjgijpcacPutSpec
import Derived.Test.YtkfcoldjgijpcacAddrImpl
namespace Go.Proofs.Ytkfcoldjgijpcac
open Go.RowKit

/-- What cmp.Compare answers. -/
def cmpI (x y : Int) : Int := if x < y then -1 else if y < x then 1 else 0
/-- What cmp.Or answers of two. -/
def orI (x y : Int) : Int := if x = 0 then y else x
theorem less_ahead (a n b m : Int) : decide (orI (cmpI a b) (cmpI n m) < 0) = aheadB a n b m := by
  rw [Bool.eq_iff_iff, decide_eq_true_eq, aheadB_iff]
  unfold orI cmpI Ahead
  split <;> split <;> (try split) <;> (try split) <;> omega

theorem isNaN_any (x : Int) (w : World) : Calls Try.prog 71 #[.int .i64 x] w fun e w' => e = .returned (.bool false) ∧ w' = w := by
  have h : (x != x) = false := by rw [bne_eq_false_iff_eq]
  go_enter Try.func71, Try.ntmps71
  go_wp2_with fail
  go_ret
  exact ⟨rfl, rfl⟩

theorem compare_any (x y : Int) (w : World) : Calls Try.prog 60 #[.int .i64 x, .int .i64 y] w fun e w' => e = .returned (.int .i64 (cmpI x y)) ∧ w' = w := by
  by_cases h1 : x < y
  · have h : cmpI x y = -1 := if_pos h1
    rw [h]
    clear h
    go_enter Try.func60, Try.ntmps60
    go_wp2_with (go_at_call 71; refine (isNaN_any _ _).mono ?_; rintro e w' ⟨rfl, hw⟩; rw [hw])
    go_ret
    exact ⟨rfl, rfl⟩
  · by_cases h2 : y < x
    · have h : cmpI x y = 1 := by rw [cmpI, if_neg h1, if_pos h2]
      rw [h]
      clear h
      go_enter Try.func60, Try.ntmps60
      go_wp2_with (go_at_call 71; refine (isNaN_any _ _).mono ?_; rintro e w' ⟨rfl, hw⟩; rw [hw])
      go_ret
      exact ⟨rfl, rfl⟩
    · have h : cmpI x y = 0 := by rw [cmpI, if_neg h1, if_neg h2]
      rw [h]
      clear h
      go_enter Try.func60, Try.ntmps60
      go_wp2_with (go_at_call 71; refine (isNaN_any _ _).mono ?_; rintro e w' ⟨rfl, hw⟩; rw [hw])
      go_ret
      exact ⟨rfl, rfl⟩

set_option maxRecDepth 100000 in
theorem or_any (x y : Int) (g : Nat) (w : World) (h0 : w.cell? ⟨g, 0, none⟩ = some (.int .i64 x)) (h1 : w.cell? ⟨g, 1, none⟩ = some (.int .i64 y)) :
    Calls Try.prog 59 #[.slice (some ⟨g, 0, none⟩) 2 2] w fun e w' => e = .returned (.int .i64 (orI x y)) ∧ w' = w := by
  by_cases hx : x = 0
  · have h : orI x y = y := if_pos hx
    rw [h]
    clear h
    subst hx
    by_cases hy : y = 0
    · subst hy
      go_enter Try.func59, Try.ntmps59
      go_wp2_with fail
      go_loopw [8] (fun c wr => (c = .int .i64 0 ∨ c = .int .i64 1 ∨ c = .int .i64 2) ∧ wr = w) (fun c _ => 2 - (intOf c).toNat)
      case atStart => exact ⟨.inl rfl, rfl⟩
      case round =>
        obtain ⟨hc, rfl⟩ := hrel
        rcases hc with rfl | rfl | rfl
        · go_wp2_with fail
          go_roundw
          case rel => exact ⟨.inr (.inl (by go_num)), trivial⟩
          case measure => simp [intOf]
        · go_wp2_with fail
          go_roundw
          case rel => exact ⟨.inr (.inr (by go_num)), trivial⟩
          case measure => simp [intOf]
        · go_wp2_with fail
          go_ret
          exact ⟨rfl, rfl⟩
    · have hb : (y != 0) = true := by rw [bne_iff_ne]; exact hy
      go_enter Try.func59, Try.ntmps59
      go_wp2_with fail
      go_loopw [8] (fun c wr => (c = .int .i64 0 ∨ c = .int .i64 1) ∧ wr = w) (fun c _ => 2 - (intOf c).toNat)
      case atStart => exact ⟨.inl rfl, rfl⟩
      case round =>
        obtain ⟨hc, rfl⟩ := hrel
        rcases hc with rfl | rfl
        · go_wp2_with fail
          go_roundw
          case rel => exact ⟨.inr (by go_num), trivial⟩
          case measure => simp [intOf]
        · go_wp2_with fail
          go_ret
          exact ⟨rfl, rfl⟩
  · have h : orI x y = x := if_neg hx
    rw [h]
    clear h
    have hb : (x != 0) = true := by rw [bne_iff_ne]; exact hx
    go_enter Try.func59, Try.ntmps59
    go_wp2_with fail
    go_loopw [8] (fun c wr => c = .int .i64 0 ∧ wr = w) (fun c _ => 2 - (intOf c).toNat)
    case atStart => exact ⟨rfl, rfl⟩
    case round =>
      obtain ⟨rfl, rfl⟩ := hrel
      go_wp2_with fail
      go_ret
      exact ⟨rfl, rfl⟩

theorem pair_new0 (X : World) (g : Nat) (hg : g = X.heap.size) (u0 u1 : Value) (t : TypeId) : (X.alloc (.cells #[u0, u1] t)).drew.cell? ⟨g, 0, none⟩ = some u0 := by
  subst hg
  exact cell_of_row _ _ 0 _ _ (0, 0) (heap_alloc_new X _)
theorem pair_new1 (X : World) (g : Nat) (hg : g = X.heap.size) (u0 u1 : Value) (t : TypeId) : (X.alloc (.cells #[u0, u1] t)).drew.cell? ⟨g, 1, none⟩ = some u1 := by
  subst hg
  exact cell_of_row _ _ 1 _ _ (0, 0) (heap_alloc_new X _)
/-- Two boxed prefixes of the call. -/
def LB (w : World) (a n b m : Int) (X : World) : Prop := X.cell? ⟨w.heap.size, 0, none⟩ = some (.int .i64 a) ∧ X.cell? ⟨w.heap.size, 1, none⟩ = some (.int .i64 n) ∧ X.cell? ⟨w.heap.size + 1, 0, none⟩ = some (.int .i64 b) ∧ X.cell? ⟨w.heap.size + 1, 1, none⟩ = some (.int .i64 m) ∧ Below w.heap.size w X
theorem LB.next {w : World} {a n b m : Int} {X Y : World} (h : LB w a n b m X) (hb : Below X.heap.size X Y) : LB w a n b m Y := by
  obtain ⟨h0, h1, h2, h3, h4⟩ := h
  have hg : w.heap.size < X.heap.size := cell_size (p := ⟨w.heap.size, 0, none⟩) h0
  have hg2 : w.heap.size + 1 < X.heap.size := cell_size (p := ⟨w.heap.size + 1, 0, none⟩) h2
  exact ⟨by rw [hb.cell (p := ⟨w.heap.size, 0, none⟩) hg]; exact h0, by rw [hb.cell (p := ⟨w.heap.size, 1, none⟩) hg]; exact h1, by rw [hb.cell (p := ⟨w.heap.size + 1, 0, none⟩) hg2]; exact h2, by rw [hb.cell (p := ⟨w.heap.size + 1, 1, none⟩) hg2]; exact h3, h4.trans (hb.mono h4.size)⟩
theorem LB.new (w : World) (a n b m : Int) : LB w a n b m ((w.alloc (.cells #[.int .i64 a, .int .i64 n] PT)).alloc (.cells #[.int .i64 b, .int .i64 m] PT)) := by
  have hrow : ((w.alloc (.cells #[.int .i64 a, .int .i64 n] PT)).alloc (.cells #[.int .i64 b, .int .i64 m] PT)).heap[w.heap.size]? = some (.cells #[.int .i64 a, .int .i64 n] PT (0, 0)) := by
    rw [Below.heap_alloc _ _ _ (by simp)]
    exact heap_alloc_new w _
  have hrow2 : ((w.alloc (.cells #[.int .i64 a, .int .i64 n] PT)).alloc (.cells #[.int .i64 b, .int .i64 m] PT)).heap[w.heap.size + 1]? = some (.cells #[.int .i64 b, .int .i64 m] PT (0, 0)) := by
    have := heap_alloc_new (w.alloc (.cells #[.int .i64 a, .int .i64 n] PT)) (.cells #[.int .i64 b, .int .i64 m] PT)
    simpa using this
  exact ⟨cell_of_row _ _ 0 _ _ (0, 0) hrow, cell_of_row _ _ 1 _ _ (0, 0) hrow, cell_of_row _ _ 0 _ _ (0, 0) hrow2, cell_of_row _ _ 1 _ _ (0, 0) hrow2, ((Below.refl w.heap.size w).alloc (Nat.le_refl _) _).alloc (by simp) _⟩
theorem LB.below {w : World} {a n b m : Int} {X : World} (h : LB w a n b m X) : Below w.heap.size w X := by
  obtain ⟨_, _, _, _, h⟩ := h
  exact h
theorem LB.drew {w : World} {a n b m : Int} {X : World} (h : LB w a n b m X) : LB w a n b m X.drew := h.next ((Below.refl _ X).drew)
theorem LB.alloc {w : World} {a n b m : Int} {X : World} (h : LB w a n b m X) (o : Obj) : LB w a n b m (X.alloc o) := h.next ((Below.refl _ X).alloc (Nat.le_refl _) o)

set_option maxRecDepth 100000 in
set_option maxHeartbeats 1600000 in
theorem isPrefixLess_any (a n b m : Int) (w : World) :
    Calls Try.prog 36 #[.agg #[.int .i64 a, .int .i64 n], .agg #[.int .i64 b, .int .i64 m]] w fun e w' => e = .returned (.bool (aheadB a n b m)) ∧ Below w.heap.size w w' := by
  have HE := Lib.hid (less_ahead a n b m)
  have V0 := Lib.hid (LB.new w a n b m)
  go_enter Try.func36, Try.ntmps36
  go_wp2_with fail
  go_region_held3 (fun X => X.cell? ⟨w.heap.size, 0, none⟩ = some (.int .i64 a) ∧ X.cell? ⟨w.heap.size, 1, none⟩ = some (.int .i64 n) ∧ X.cell? ⟨w.heap.size + 1, 0, none⟩ = some (.int .i64 b) ∧ X.cell? ⟨w.heap.size + 1, 1, none⟩ = some (.int .i64 m) ∧ Below w.heap.size w X) (first | (with_reducible assumption) | (with_reducible exact V0.out.drew) | (exact LB.drew (by assumption)) | (exact LB.alloc (by assumption) _) | (exact LB.drew (LB.alloc (by assumption) _))) (first | (go_at_call 60; refine (compare_any _ _ _).mono ?_; rintro e v1 ⟨rfl, hw⟩; rw [hw]) | (go_at_call 59; refine (or_any (cmpI a b) (cmpI n m) _ _ (pair_new0 _ _ (by simp) _ _ _) (pair_new1 _ _ (by simp) _ _ _)).mono ?_; rintro e v1 ⟨rfl, hw⟩; rw [hw]))
  all_goals
    go_wp2_with fail
    go_ret
    rw [← HE.out]
    exact ⟨rfl, (LB.drew (LB.alloc V0.out _)).below⟩

theorem isRoute_any (a n t : Int) (b : Bool) (hb : b = true ↔ RtOk (a, n, t)) (w : World) :
    Calls Try.prog 35 #[.agg #[.int .i64 a, .int .i64 n, .int .i64 t]] w fun e w' => e = .returned (.bool b) ∧ Below w.heap.size w w' := by
  have hd : (w.alloc (.cells #[.int .i64 a, .int .i64 n, .int .i64 t] RT3)).cell? ⟨w.heap.size, 2, none⟩ = some (.int .i64 t) := cell_of_row _ _ 2 _ _ (0, 0) (heap_alloc_new w _)
  have HB0 := Lib.hid ((Below.refl w.heap.size w).alloc (Nat.le_refl _) (.cells #[.int .i64 a, .int .i64 n, .int .i64 t] RT3))
  by_cases hp : PrefOk a n
  · have H1 := Lib.hid (implPrefixOk_yes a n hp)
    by_cases h1 : 1 ≤ t
    · by_cases h2 : t ≤ 99
      · obtain rfl : b = true := hb.2 ⟨hp, h1, h2⟩
        clear hb
        go_enter Try.func35, Try.ntmps35
        go_wp2_with fail
        refine (H1.out _).mono ?_
        rintro e w1 ⟨rfl, hb1⟩
        have hc := (hb1.cell (p := ⟨w.heap.size, 2, none⟩) (by simp)).trans hd
        have HB := Lib.hid (HB0.out.trans (hb1.mono (by simp)))
        clear hb1 hd
        go_wp2_with fail
        go_ret
        exact ⟨rfl, HB.out⟩
      · obtain rfl : b = false := Bool.eq_false_iff.2 fun e => h2 (hb.1 e).2.2
        have d2 : decide (t ≤ 99) = false := decide_eq_false h2
        clear hb
        go_enter Try.func35, Try.ntmps35
        go_wp2_with fail
        refine (H1.out _).mono ?_
        rintro e w1 ⟨rfl, hb1⟩
        have hc := (hb1.cell (p := ⟨w.heap.size, 2, none⟩) (by simp)).trans hd
        have HB := Lib.hid (HB0.out.trans (hb1.mono (by simp)))
        clear hb1 hd
        go_wp2_with fail
        go_ret
        exact ⟨rfl, HB.out⟩
    · obtain rfl : b = false := Bool.eq_false_iff.2 fun e => h1 (hb.1 e).2.1
      clear hb
      go_enter Try.func35, Try.ntmps35
      go_wp2_with fail
      refine (H1.out _).mono ?_
      rintro e w1 ⟨rfl, hb1⟩
      have hc := (hb1.cell (p := ⟨w.heap.size, 2, none⟩) (by simp)).trans hd
      have HB := Lib.hid (HB0.out.trans (hb1.mono (by simp)))
      clear hb1 hd
      go_wp2_with fail
      go_ret
      exact ⟨rfl, HB.out⟩
  · have H1 := Lib.hid (implPrefixOk_no a n hp)
    obtain rfl : b = false := Bool.eq_false_iff.2 fun e => hp (hb.1 e).1
    clear hb
    go_enter Try.func35, Try.ntmps35
    go_wp2_with fail
    refine (H1.out _).mono ?_
    rintro e w1 ⟨rfl, hb1⟩
    have HB := Lib.hid (HB0.out.trans (hb1.mono (by simp)))
    clear hb1 hd
    go_wp2_with fail
    go_ret
    exact ⟨rfl, HB.out⟩

end Go.Proofs.Ytkfcoldjgijpcac
