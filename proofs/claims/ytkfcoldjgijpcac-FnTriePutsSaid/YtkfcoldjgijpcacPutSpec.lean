/-
  The given PutRoute.
-/
import Derived.Test.YtkfcoldjgijpcacRoutesSpec
namespace Go.Proofs.Ytkfcoldjgijpcac
open Go.RowKit

def aheadB (a n b m : Int) : Bool := decide (a < b) || (a == b && decide (n < m))
theorem aheadB_iff (a n b m : Int) : aheadB a n b m = true ↔ Ahead a n b m := by simp [aheadB, Ahead]
def aheadOf (r x : Rt) : Bool := aheadB x.1 x.2.1 r.1 r.2.1
def behind (r x : Rt) : Bool := aheadB r.1 r.2.1 x.1 x.2.1
/-- A route put among others. -/
def putP (xs : List Rt) (r : Rt) : List Rt := xs.filter (aheadOf r) ++ [r] ++ xs.filter (behind r)
abbrev RT3 : TypeId := 35
/-- A boxed route in block w.heap.size, a row of routes of the call's own, what lies below as it was. -/
structure PH (w : World) (t : TypeId) (a b c : Value) (v : Value) (os : List Rt) (X : World) : Prop where
  row : X.heap[w.heap.size]? = some (.cells #[a, b, c] t (0, 0))
  own : OwnR rtRec X (w.heap.size + 1) RT3 v os
  below : Below w.heap.size w X
theorem PH.next {w : World} {t : TypeId} {a b c v : Value} {os : List Rt} {X Y : World} (h : PH w t a b c v os X) (hb : Below X.heap.size X Y) : PH w t a b c v os Y :=
  ⟨by rw [hb.block _ (lt_of_block h.row)]; exact h.row, h.own.below hb, h.below.trans (hb.mono h.below.size)⟩
theorem PH.drew {w : World} {t : TypeId} {a b c v : Value} {os : List Rt} {X : World} (h : PH w t a b c v os X) : PH w t a b c v os X.drew := h.next ((Below.refl _ X).drew)
theorem PH.c0 {w : World} {t : TypeId} {a b c v : Value} {os : List Rt} {X : World} (h : PH w t a b c v os X) : X.cell? ⟨w.heap.size, 0, none⟩ = some a := by rw [cell_of_row X _ 0 _ t (0, 0) h.row]; rfl
theorem PH.c1 {w : World} {t : TypeId} {a b c v : Value} {os : List Rt} {X : World} (h : PH w t a b c v os X) : X.cell? ⟨w.heap.size, 1, none⟩ = some b := by rw [cell_of_row X _ 1 _ t (0, 0) h.row]; rfl
theorem PH.c2 {w : World} {t : TypeId} {a b c v : Value} {os : List Rt} {X : World} (h : PH w t a b c v os X) : X.cell? ⟨w.heap.size, 2, none⟩ = some c := by rw [cell_of_row X _ 2 _ t (0, 0) h.row]; rfl
theorem PH.size {w : World} {t : TypeId} {a b c v : Value} {os : List Rt} {X : World} (h : PH w t a b c v os X) : w.heap.size + 1 ≤ X.heap.size := lt_of_block h.row
/-- Its row grows. -/
theorem PH.grow {w : World} {t : TypeId} {a b c v v' : Value} {os os' : List Rt} {X Y : World} (h : PH w t a b c v os X) (ho : OwnR rtRec Y (w.heap.size + 1) RT3 v' os') (hb : Below (w.heap.size + 1) X Y) : PH w t a b c v' os' Y :=
  ⟨by rw [hb.block _ (by omega)]; exact h.row, ho, h.below.trans (hb.mono (by omega))⟩
theorem put_held {w X Y : World} {g k : Nat} {xa xn xt ra rn rt : Int} {v0 : Value} {os : List Rt} (h : X.cell? ⟨g, k * 3, none⟩ = some (.int .i64 xa) ∧ X.cell? ⟨g, k * 3 + 1, none⟩ = some (.int .i64 xn) ∧ X.cell? ⟨w.heap.size, 0, none⟩ = some (.int .i64 ra) ∧ X.cell? ⟨w.heap.size, 1, none⟩ = some (.int .i64 rn) ∧ PH w RT3 (.int .i64 ra) (.int .i64 rn) (.int .i64 rt) v0 os X ∧ X.cell? ⟨g, k * 3 + 2, none⟩ = some (.int .i64 xt)) (hb : Below X.heap.size X Y) : Y.cell? ⟨g, k * 3, none⟩ = some (.int .i64 xa) ∧ Y.cell? ⟨g, k * 3 + 1, none⟩ = some (.int .i64 xn) ∧ Y.cell? ⟨w.heap.size, 0, none⟩ = some (.int .i64 ra) ∧ Y.cell? ⟨w.heap.size, 1, none⟩ = some (.int .i64 rn) ∧ PH w RT3 (.int .i64 ra) (.int .i64 rn) (.int .i64 rt) v0 os Y ∧ Y.cell? ⟨g, k * 3 + 2, none⟩ = some (.int .i64 xt) := by
  have hg : g < X.heap.size := cell_size (p := ⟨g, k * 3, none⟩) h.1
  have hp := h.2.2.2.2.1.next hb
  exact ⟨by rw [hb.cell (p := ⟨g, k * 3, none⟩) hg]; exact h.1, by rw [hb.cell (p := ⟨g, k * 3 + 1, none⟩) hg]; exact h.2.1, hp.c0, hp.c1, hp, by rw [hb.cell (p := ⟨g, k * 3 + 2, none⟩) hg]; exact h.2.2.2.2.2⟩
theorem specAhead_any (a n b m : Int) : ∀ X, Calls Try.prog 33 #[.agg #[.int .i64 a, .int .i64 n], .agg #[.int .i64 b, .int .i64 m]] X fun e w' => e = .returned (.bool (aheadB a n b m)) ∧ Below X.heap.size X w' := by
  by_cases h : Ahead a n b m
  · rw [(aheadB_iff a n b m).2 h]
    exact specAhead_yes a n b m h
  · rw [Bool.eq_false_iff.2 (fun e => h ((aheadB_iff a n b m).1 e))]
    exact specAhead_no a n b m h

/-- How PutRoute ends. -/
def PutEnd (xs : List Rt) (r : Rt) (w : World) (e : Ending) (w' : World) : Prop :=
  ((RoutesP xs ∧ RoutesP (putP xs r)) ∧ ∃ v', e = .returned (.tuple #[v', .bool true]) ∧ OwnR rtRec w' w.heap.size RT3 v' (putP xs r)) ∨ (¬ (RoutesP xs ∧ RoutesP (putP xs r)) ∧ ∃ v', e = .returned (.tuple #[v', .bool false]) ∧ OwnR rtRec w' w.heap.size RT3 v' xs)

set_option maxRecDepth 100000 in
set_option maxHeartbeats 3200000 in
theorem specPutRoute_any (v : Value) (xs : List Rt) (ra rn rt : Int) (hl : xs.length ≤ 2000000) (w : World) (hr : RowR rtRec w v xs) :
    Calls Try.prog 11 #[v, .agg #[.int .i64 ra, .int .i64 rn, .int .i64 rt]] w fun e w' => PutEnd xs (ra, rn, rt) w e w' ∧ Below w.heap.size w w' := by
  have HR := Lib.hid hr
  obtain ⟨ao, cp, rfl, hf⟩ := hr.form
  clear hr
  obtain ⟨i0, z0, hi, hz0, hzs, hsz0, hby0⟩ := info_rec infoRoute
  go_enter Try.func11, Try.ntmps11
  go_wp2_with fail
  go_loopw [6, 7] (fun o c wr => ∃ (k : Nat) (v0 : Value), k ≤ xs.length ∧ v0 = o ∧ c = .int .i64 k ∧ PH w RT3 (.int .i64 ra) (.int .i64 rn) (.int .i64 rt) v0 ((xs.take k).filter (aheadOf (ra, rn, rt))) wr) (fun _ c _ => xs.length - (intOf c).toNat)
  case atStart =>
    have e1 : (w.alloc (.cells #[.int .i64 ra, .int .i64 rn, .int .i64 rt] RT3)).heap.size = w.heap.size + 1 := by simp
    have h1 := OwnR.lit (R := rtRec) (w.alloc (.cells #[.int .i64 ra, .int .i64 rn, .int .i64 rt] RT3)) (w.heap.size + 1) RT3 (by rw [e1]; exact Nat.le_refl _)
    rw [e1] at h1
    have hb : Below (w.alloc (.cells #[.int .i64 ra, .int .i64 rn, .int .i64 rt] RT3)).heap.size (w.alloc (.cells #[.int .i64 ra, .int .i64 rn, .int .i64 rt] RT3)) ((w.alloc (.cells #[.int .i64 ra, .int .i64 rn, .int .i64 rt] RT3)).alloc (.cells #[] RT3)) := (Below.refl _ _).alloc (Nat.le_refl _) _
    refine ⟨0, _, Nat.zero_le _, rfl, rfl, ?_, h1, ((Below.refl w.heap.size w).alloc (Nat.le_refl _) _).alloc (by simp) _⟩
    rw [hb.block _ (by simp)]
    exact heap_alloc_new w _
  case round =>
    obtain ⟨k, v0, hk, rfl, rfl, hph⟩ := hrel
    have HP := Lib.hid hph
    clear hph
    by_cases hlt : k < xs.length
    · have hlt' : (k : Int) < (xs.length : Int) := by omega
      obtain ⟨g, rfl, hg, hcell⟩ := hf (by omega)
      have hxk : xs[k]? = some xs[k] := List.getElem?_eq_getElem hlt
      obtain ⟨c0, c1, c2⟩ := row_three hcell k xs[k] hxk
      have hbd := HP.out.below.drew
      rw [← hbd.cell (p := ⟨g, k * 3, none⟩) hg] at c0
      rw [← hbd.cell (p := ⟨g, k * 3 + 1, none⟩) hg] at c1
      rw [← hbd.cell (p := ⟨g, k * 3 + 2, none⟩) hg] at c2
      have hft := filter_take (aheadOf (ra, rn, rt)) xs k hlt
      generalize xs[k] = x at hxk c0 c1 c2 hft
      obtain ⟨xa, xn, xt⟩ := x
      have hlen : ((xs.take k).filter (aheadOf (ra, rn, rt))).length ≤ 6000000 := by
        have h1 := List.length_filter_le (aheadOf (ra, rn, rt)) (xs.take k)
        have h2 := List.length_filter_le (aheadOf (ra, rn, rt)) xs
        rw [List.length_take] at h1
        try simp only [List.length_append, List.length_nil, List.length_cons]
        omega
      obtain ⟨b, hbe⟩ : ∃ b, aheadOf (ra, rn, rt) (xa, xn, xt) = b := ⟨_, rfl⟩
      rw [hbe] at hft
      have k3 : ∀ X, Calls Try.prog 33 #[.agg #[.int .i64 xa, .int .i64 xn], .agg #[.int .i64 ra, .int .i64 rn]] X fun e w' => e = .returned (.bool b) ∧ Below X.heap.size X w' := by
        rw [← hbe]
        exact specAhead_any _ _ _ _
      obtain ⟨os, OS⟩ : ∃ os, Hid (os = (xs.take k).filter (aheadOf (ra, rn, rt))) := ⟨_, rfl⟩
      rw [← OS.out] at HP hlen
      have HFT := Lib.hid hft
      have V0 : Hid (wr.drew.cell? ⟨g, k * 3, none⟩ = some (.int .i64 xa) ∧ wr.drew.cell? ⟨g, k * 3 + 1, none⟩ = some (.int .i64 xn) ∧ wr.drew.cell? ⟨w.heap.size, 0, none⟩ = some (.int .i64 ra) ∧ wr.drew.cell? ⟨w.heap.size, 1, none⟩ = some (.int .i64 rn) ∧ PH w RT3 (.int .i64 ra) (.int .i64 rn) (.int .i64 rt) v0 os wr.drew ∧ wr.drew.cell? ⟨g, k * 3 + 2, none⟩ = some (.int .i64 xt)) := ⟨c0, c1, HP.out.drew.c0, HP.out.drew.c1, HP.out.drew, c2⟩
      have K3 : Hid (∀ X, (X.cell? ⟨g, k * 3, none⟩ = some (.int .i64 xa) ∧ X.cell? ⟨g, k * 3 + 1, none⟩ = some (.int .i64 xn) ∧ X.cell? ⟨w.heap.size, 0, none⟩ = some (.int .i64 ra) ∧ X.cell? ⟨w.heap.size, 1, none⟩ = some (.int .i64 rn) ∧ PH w RT3 (.int .i64 ra) (.int .i64 rn) (.int .i64 rt) v0 os X ∧ X.cell? ⟨g, k * 3 + 2, none⟩ = some (.int .i64 xt)) → Calls Try.prog 33 #[.agg #[.int .i64 xa, .int .i64 xn], .agg #[.int .i64 ra, .int .i64 rn]] X fun e Y => e = .returned (.bool b) ∧ (Y.cell? ⟨g, k * 3, none⟩ = some (.int .i64 xa) ∧ Y.cell? ⟨g, k * 3 + 1, none⟩ = some (.int .i64 xn) ∧ Y.cell? ⟨w.heap.size, 0, none⟩ = some (.int .i64 ra) ∧ Y.cell? ⟨w.heap.size, 1, none⟩ = some (.int .i64 rn) ∧ PH w RT3 (.int .i64 ra) (.int .i64 rn) (.int .i64 rt) v0 os Y ∧ Y.cell? ⟨g, k * 3 + 2, none⟩ = some (.int .i64 xt))) := fun X hX => (k3 X).mono (by rintro e Y ⟨rfl, hb⟩; exact ⟨rfl, put_held hX hb⟩)
      clear hft hbe k3 hxk hcell c0 c1 c2 hbd HP
      go_wp2_with fail
      go_region_held3 (fun X => X.cell? ⟨g, k * 3, none⟩ = some (.int .i64 xa) ∧ X.cell? ⟨g, k * 3 + 1, none⟩ = some (.int .i64 xn) ∧ X.cell? ⟨w.heap.size, 0, none⟩ = some (.int .i64 ra) ∧ X.cell? ⟨w.heap.size, 1, none⟩ = some (.int .i64 rn) ∧ PH w RT3 (.int .i64 ra) (.int .i64 rn) (.int .i64 rt) v0 os X ∧ X.cell? ⟨g, k * 3 + 2, none⟩ = some (.int .i64 xt)) (first | (with_reducible assumption) | (with_reducible exact V0.out)) (first | (go_at_call 33; refine (K3.out _ (by assumption)).mono ?_; rintro e v1 ⟨rfl, hS⟩))
      all_goals
        have HS := Lib.hid hS
        have e0 := hS.1
        have e1 := hS.2.1
        have e2 := hS.2.2.2.2.2
        clear hS V0 K3
        cases b
        · go_wp2_with fail
          go_roundw
          case rel => exact ⟨k + 1, v0, by omega, rfl, by go_num, by rw [HFT.out, if_neg (by decide), List.append_nil, ← OS.out]; exact HS.out.2.2.2.2.1⟩
          case measure => simp [intOf]; omega
        · have hsz := HS.out.2.2.2.2.1.size
          have hown := HS.out.2.2.2.2.1.own
          go_wp2_with (at_builtin; refine wpList_pushR _ rfl _ _ 24 rfl (w.heap.size + 1) 35 i0 z0 24 Try.underlying24 hi hz0 hsz0 hby0 hzs (by decide) _ _ rfl hown (xa, xn, xt) _ rfl rfl (by omega) hsz ?_)
          intro v' w1 hown1 hnx1
          have HP1 := Lib.hid (HS.out.2.2.2.2.1.grow hown1 hnx1)
          clear hown1 hnx1 hown
          go_wp2_with fail
          go_roundw
          case rel => exact ⟨k + 1, v', by omega, rfl, by go_num, by rw [HFT.out]; simp only [if_true]; rw [← OS.out]; exact HP1.out⟩
          case measure => simp [intOf]; omega
    · have hlt' : ¬ ((k : Int) < (xs.length : Int)) := by omega
      have hke : k = xs.length := by omega
      subst hke
      rw [List.take_length] at HP
      have hsz := HP.out.size
      have hown := HP.out.own
      have r0 := HP.out.c0
      have r1 := HP.out.c1
      have r2 := HP.out.c2
      have hl1 := List.length_filter_le (aheadOf (ra, rn, rt)) xs
      go_wp2_with (at_builtin; refine wpList_pushR _ rfl _ _ 24 rfl (w.heap.size + 1) 35 i0 z0 24 Try.underlying24 hi hz0 hsz0 hby0 hzs (by decide) _ _ rfl hown (ra, rn, rt) _ rfl rfl (by omega) hsz ?_)
      intro v2 w2 hown2 hnx2
      have HP2 := Lib.hid (HP.out.grow hown2 hnx2)
      clear hown2 hnx2 hown r0 r1 r2 HP
      go_wp2_with fail
      go_loopw [6, 8] (fun o c wr => ∃ (k : Nat) (v0 : Value), k ≤ xs.length ∧ v0 = o ∧ c = .int .i64 k ∧ PH w RT3 (.int .i64 ra) (.int .i64 rn) (.int .i64 rt) v0 (xs.filter (aheadOf (ra, rn, rt)) ++ [(ra, rn, rt)] ++ (xs.take k).filter (behind (ra, rn, rt))) wr) (fun _ c _ => xs.length - (intOf c).toNat)
      case atStart => exact ⟨0, _, Nat.zero_le _, rfl, rfl, by rw [List.take_zero, List.filter_nil, List.append_nil]; exact HP2.out⟩
      case round =>
        obtain ⟨k, v0, hk, rfl, rfl, hph⟩ := hrel
        have HP := Lib.hid hph
        clear hph
        by_cases hlt : k < xs.length
        · have hlt' : (k : Int) < (xs.length : Int) := by omega
          obtain ⟨g, rfl, hg, hcell⟩ := hf (by omega)
          have hxk : xs[k]? = some xs[k] := List.getElem?_eq_getElem hlt
          obtain ⟨c0, c1, c2⟩ := row_three hcell k xs[k] hxk
          have hbd := HP.out.below.drew
          rw [← hbd.cell (p := ⟨g, k * 3, none⟩) hg] at c0
          rw [← hbd.cell (p := ⟨g, k * 3 + 1, none⟩) hg] at c1
          rw [← hbd.cell (p := ⟨g, k * 3 + 2, none⟩) hg] at c2
          have hft := filter_take (behind (ra, rn, rt)) xs k hlt
          generalize xs[k] = x at hxk c0 c1 c2 hft
          obtain ⟨xa, xn, xt⟩ := x
          have hlen : (xs.filter (aheadOf (ra, rn, rt)) ++ [(ra, rn, rt)] ++ (xs.take k).filter (behind (ra, rn, rt))).length ≤ 6000000 := by
            have h1 := List.length_filter_le (behind (ra, rn, rt)) (xs.take k)
            have h2 := List.length_filter_le (aheadOf (ra, rn, rt)) xs
            rw [List.length_take] at h1
            try simp only [List.length_append, List.length_nil, List.length_cons]
            omega
          obtain ⟨b, hbe⟩ : ∃ b, behind (ra, rn, rt) (xa, xn, xt) = b := ⟨_, rfl⟩
          rw [hbe] at hft
          have k3 : ∀ X, Calls Try.prog 33 #[.agg #[.int .i64 ra, .int .i64 rn], .agg #[.int .i64 xa, .int .i64 xn]] X fun e w' => e = .returned (.bool b) ∧ Below X.heap.size X w' := by
            rw [← hbe]
            exact specAhead_any _ _ _ _
          obtain ⟨os, OS⟩ : ∃ os, Hid (os = xs.filter (aheadOf (ra, rn, rt)) ++ [(ra, rn, rt)] ++ (xs.take k).filter (behind (ra, rn, rt))) := ⟨_, rfl⟩
          rw [← OS.out] at HP hlen
          have HFT := Lib.hid hft
          have V0 : Hid (wr.drew.cell? ⟨g, k * 3, none⟩ = some (.int .i64 xa) ∧ wr.drew.cell? ⟨g, k * 3 + 1, none⟩ = some (.int .i64 xn) ∧ wr.drew.cell? ⟨w.heap.size, 0, none⟩ = some (.int .i64 ra) ∧ wr.drew.cell? ⟨w.heap.size, 1, none⟩ = some (.int .i64 rn) ∧ PH w RT3 (.int .i64 ra) (.int .i64 rn) (.int .i64 rt) v0 os wr.drew ∧ wr.drew.cell? ⟨g, k * 3 + 2, none⟩ = some (.int .i64 xt)) := ⟨c0, c1, HP.out.drew.c0, HP.out.drew.c1, HP.out.drew, c2⟩
          have K3 : Hid (∀ X, (X.cell? ⟨g, k * 3, none⟩ = some (.int .i64 xa) ∧ X.cell? ⟨g, k * 3 + 1, none⟩ = some (.int .i64 xn) ∧ X.cell? ⟨w.heap.size, 0, none⟩ = some (.int .i64 ra) ∧ X.cell? ⟨w.heap.size, 1, none⟩ = some (.int .i64 rn) ∧ PH w RT3 (.int .i64 ra) (.int .i64 rn) (.int .i64 rt) v0 os X ∧ X.cell? ⟨g, k * 3 + 2, none⟩ = some (.int .i64 xt)) → Calls Try.prog 33 #[.agg #[.int .i64 ra, .int .i64 rn], .agg #[.int .i64 xa, .int .i64 xn]] X fun e Y => e = .returned (.bool b) ∧ (Y.cell? ⟨g, k * 3, none⟩ = some (.int .i64 xa) ∧ Y.cell? ⟨g, k * 3 + 1, none⟩ = some (.int .i64 xn) ∧ Y.cell? ⟨w.heap.size, 0, none⟩ = some (.int .i64 ra) ∧ Y.cell? ⟨w.heap.size, 1, none⟩ = some (.int .i64 rn) ∧ PH w RT3 (.int .i64 ra) (.int .i64 rn) (.int .i64 rt) v0 os Y ∧ Y.cell? ⟨g, k * 3 + 2, none⟩ = some (.int .i64 xt))) := fun X hX => (k3 X).mono (by rintro e Y ⟨rfl, hb⟩; exact ⟨rfl, put_held hX hb⟩)
          clear hft hbe k3 hxk hcell c0 c1 c2 hbd HP
          go_wp2_with fail
          go_region_held3 (fun X => X.cell? ⟨g, k * 3, none⟩ = some (.int .i64 xa) ∧ X.cell? ⟨g, k * 3 + 1, none⟩ = some (.int .i64 xn) ∧ X.cell? ⟨w.heap.size, 0, none⟩ = some (.int .i64 ra) ∧ X.cell? ⟨w.heap.size, 1, none⟩ = some (.int .i64 rn) ∧ PH w RT3 (.int .i64 ra) (.int .i64 rn) (.int .i64 rt) v0 os X ∧ X.cell? ⟨g, k * 3 + 2, none⟩ = some (.int .i64 xt)) (first | (with_reducible assumption) | (with_reducible exact V0.out)) (first | (go_at_call 33; refine (K3.out _ (by assumption)).mono ?_; rintro e v1 ⟨rfl, hS⟩))
          all_goals
            have HS := Lib.hid hS
            have e0 := hS.1
            have e1 := hS.2.1
            have e2 := hS.2.2.2.2.2
            clear hS V0 K3
            cases b
            · go_wp2_with fail
              go_roundw
              case rel => exact ⟨k + 1, v0, by omega, rfl, by go_num, by rw [HFT.out, if_neg (by decide), List.append_nil, ← OS.out]; exact HS.out.2.2.2.2.1⟩
              case measure => simp [intOf]; omega
            · have hsz := HS.out.2.2.2.2.1.size
              have hown := HS.out.2.2.2.2.1.own
              go_wp2_with (at_builtin; refine wpList_pushR _ rfl _ _ 24 rfl (w.heap.size + 1) 35 i0 z0 24 Try.underlying24 hi hz0 hsz0 hby0 hzs (by decide) _ _ rfl hown (xa, xn, xt) _ rfl rfl (by omega) hsz ?_)
              intro v' w1 hown1 hnx1
              have HP1 := Lib.hid (HS.out.2.2.2.2.1.grow hown1 hnx1)
              clear hown1 hnx1 hown
              go_wp2_with fail
              go_roundw
              case rel => exact ⟨k + 1, v', by omega, rfl, by go_num, by rw [HFT.out]; simp only [if_true]; rw [← List.append_assoc, ← OS.out]; exact HP1.out⟩
              case measure => simp [intOf]; omega
        · have hlt' : ¬ ((k : Int) < (xs.length : Int)) := by omega
          have hke : k = xs.length := by omega
          rw [hke, List.take_length] at HP
          have hput : xs.filter (aheadOf (ra, rn, rt)) ++ [(ra, rn, rt)] ++ xs.filter (behind (ra, rn, rt)) = putP xs (ra, rn, rt) := rfl
          rw [hput] at HP
          have hl2 : (putP xs (ra, rn, rt)).length ≤ 6000000 := by
            rw [← hput]
            have h1 := List.length_filter_le (aheadOf (ra, rn, rt)) xs
            have h2 := List.length_filter_le (behind (ra, rn, rt)) xs
            simp only [List.length_append, List.length_nil, List.length_cons]
            omega
          obtain ⟨ys, YS⟩ : ∃ ys, Hid (ys = putP xs (ra, rn, rt)) := ⟨_, rfl⟩
          rw [← YS.out] at HP hl2
          clear hput hke
          go_wp2_with fail
          refine (specRoutesOk_any _ xs (by omega) _ (HR.out.below HP.out.below)).mono ?_
          rintro e w3 ⟨hend, hb3⟩
          rcases hend with ⟨h1, rfl⟩ | ⟨h1, rfl⟩
          · have HP3 := Lib.hid (HP.out.next hb3)
            have H1 := Lib.hid h1
            clear hb3 h1 HP
            go_wp2_with fail
            refine (specRoutesOk_any v0 ys (by omega) _ HP3.out.own.row).mono ?_
            rintro e w4 ⟨hend, hb4⟩
            have HP4 := Lib.hid (HP3.out.next hb4)
            clear hb4 HP3
            rcases hend with ⟨h2, rfl⟩ | ⟨h2, rfl⟩
            · rw [YS.out] at h2
              have hown4 : OwnR rtRec w4 w.heap.size RT3 v0 (putP xs (ra, rn, rt)) := by
                have h := HP4.out.own.lower (show w.heap.size ≤ w.heap.size + 1 by omega)
                rw [YS.out] at h
                exact h
              have HO4 := Lib.hid hown4
              have H2 := Lib.hid h2
              clear hown4 h2
              go_wp2_with fail
              go_ret2
              exact ⟨.inl ⟨⟨H1.out, H2.out⟩, v0, rfl, HO4.out⟩, HP4.out.below⟩
            · have hcw : w.heap.size ≤ w4.heap.size := HP4.out.below.size
              have hlit := OwnR.lit (R := rtRec) w4 w.heap.size RT3 hcw
              have hbl : Below w4.heap.size w4 (w4.alloc (.cells #[] RT3)) := (Below.refl _ _).alloc (Nat.le_refl _) _
              have HBL := Lib.hid (HP4.out.below.trans (hbl.mono HP4.out.below.size))
              have hneg := Lib.hid (show ¬ (RoutesP xs ∧ RoutesP (putP xs (ra, rn, rt))) from fun h => h2 (by rw [YS.out]; exact h.2))
              rcases HR.out with ⟨hv, hx0⟩ | ⟨g, cap', hv, hg, hcell⟩
              · subst hx0
                obtain ⟨rfl, rfl⟩ : ao = none ∧ cp = 0 := by simpa using hv
                clear hf
                go_wp2_with fail
                go_ret2
                exact ⟨.inr ⟨hneg.out, _, rfl, hlit⟩, HBL.out⟩
              · obtain ⟨rfl, rfl⟩ : ao = some ⟨g, 0, none⟩ ∧ cp = cap' := by simpa using hv
                have hys : ∀ j t x, xs[j]? = some x → t < rtRec.k → (w4.alloc (.cells #[] RT3)).cell? ⟨g, rtRec.k * j + t, none⟩ = (rtRec.enc x)[t]? := fun j t x hx ht => by rw [HBL.out.cell (p := ⟨g, rtRec.k * j + t, none⟩) hg]; exact hcell j t x hx ht
                clear hf hcell hv
                go_wp2_with (at_builtin; refine wpList_copyR _ rfl _ _ 24 rfl w.heap.size 35 i0 z0 24 Try.underlying24 hi hz0 hsz0 hby0 hzs (by decide) _ [] rfl hlit g cp xs rfl hys (by simp; omega) (by simp; omega) ?_)
                intro v9 w9 hown9 hnx9
                go_wp2_with fail
                go_ret2
                exact ⟨.inr ⟨hneg.out, v9, rfl, hown9⟩, HBL.out.trans hnx9⟩
          · have HP3 := Lib.hid (HP.out.next hb3)
            clear hb3 HP
            have hcw : w.heap.size ≤ w3.heap.size := HP3.out.below.size
            have hlit := OwnR.lit (R := rtRec) w3 w.heap.size RT3 hcw
            have hbl : Below w3.heap.size w3 (w3.alloc (.cells #[] RT3)) := (Below.refl _ _).alloc (Nat.le_refl _) _
            have HBL := Lib.hid (HP3.out.below.trans (hbl.mono HP3.out.below.size))
            have hneg := Lib.hid (show ¬ (RoutesP xs ∧ RoutesP (putP xs (ra, rn, rt))) from fun h => h1 h.1)
            rcases HR.out with ⟨hv, hx0⟩ | ⟨g, cap', hv, hg, hcell⟩
            · subst hx0
              obtain ⟨rfl, rfl⟩ : ao = none ∧ cp = 0 := by simpa using hv
              clear hf
              go_wp2_with fail
              go_ret2
              exact ⟨.inr ⟨hneg.out, _, rfl, hlit⟩, HBL.out⟩
            · obtain ⟨rfl, rfl⟩ : ao = some ⟨g, 0, none⟩ ∧ cp = cap' := by simpa using hv
              have hys : ∀ j t x, xs[j]? = some x → t < rtRec.k → (w3.alloc (.cells #[] RT3)).cell? ⟨g, rtRec.k * j + t, none⟩ = (rtRec.enc x)[t]? := fun j t x hx ht => by rw [HBL.out.cell (p := ⟨g, rtRec.k * j + t, none⟩) hg]; exact hcell j t x hx ht
              clear hf hcell hv
              go_wp2_with (at_builtin; refine wpList_copyR _ rfl _ _ 24 rfl w.heap.size 35 i0 z0 24 Try.underlying24 hi hz0 hsz0 hby0 hzs (by decide) _ [] rfl hlit g cp xs rfl hys (by simp; omega) (by simp; omega) ?_)
              intro v9 w9 hown9 hnx9
              go_wp2_with fail
              go_ret2
              exact ⟨.inr ⟨hneg.out, v9, rfl, hown9⟩, HBL.out.trans hnx9⟩

end Go.Proofs.Ytkfcoldjgijpcac
