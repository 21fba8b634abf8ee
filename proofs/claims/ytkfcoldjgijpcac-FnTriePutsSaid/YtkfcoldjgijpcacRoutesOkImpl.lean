/-
  The program's RoutesOk.
-/
import Derived.Test.YtkfcoldjgijpcacLessImpl
namespace Go.Proofs.Ytkfcoldjgijpcac
open Go.RowKit

theorem rok_next {w X Y : World} {q : Nat} {xa xn xt : Int} (h : X.cell? ⟨q, 0, none⟩ = some (.int .i64 xa) ∧ X.cell? ⟨q, 1, none⟩ = some (.int .i64 xn) ∧ X.cell? ⟨q, 2, none⟩ = some (.int .i64 xt) ∧ Below w.heap.size w X) (hb : Below X.heap.size X Y) : Y.cell? ⟨q, 0, none⟩ = some (.int .i64 xa) ∧ Y.cell? ⟨q, 1, none⟩ = some (.int .i64 xn) ∧ Y.cell? ⟨q, 2, none⟩ = some (.int .i64 xt) ∧ Below w.heap.size w Y := by
  have hg : q < X.heap.size := cell_size (p := ⟨q, 0, none⟩) h.1
  exact ⟨by rw [hb.cell (p := ⟨q, 0, none⟩) hg]; exact h.1, by rw [hb.cell (p := ⟨q, 1, none⟩) hg]; exact h.2.1, by rw [hb.cell (p := ⟨q, 2, none⟩) hg]; exact h.2.2.1, h.2.2.2.trans (hb.mono h.2.2.2.size)⟩
theorem rok_five {w X Y : World} {q g j : Nat} {xa xn xt ya yn : Int} (h : X.cell? ⟨q, 0, none⟩ = some (.int .i64 xa) ∧ X.cell? ⟨q, 1, none⟩ = some (.int .i64 xn) ∧ X.cell? ⟨q, 2, none⟩ = some (.int .i64 xt) ∧ X.cell? ⟨g, j * 3, none⟩ = some (.int .i64 ya) ∧ X.cell? ⟨g, j * 3 + 1, none⟩ = some (.int .i64 yn) ∧ Below w.heap.size w X) (hb : Below X.heap.size X Y) : Y.cell? ⟨q, 0, none⟩ = some (.int .i64 xa) ∧ Y.cell? ⟨q, 1, none⟩ = some (.int .i64 xn) ∧ Y.cell? ⟨q, 2, none⟩ = some (.int .i64 xt) ∧ Y.cell? ⟨g, j * 3, none⟩ = some (.int .i64 ya) ∧ Y.cell? ⟨g, j * 3 + 1, none⟩ = some (.int .i64 yn) ∧ Below w.heap.size w Y := by
  have hq : q < X.heap.size := cell_size (p := ⟨q, 0, none⟩) h.1
  have hg : g < X.heap.size := cell_size (p := ⟨g, j * 3, none⟩) h.2.2.2.1
  exact ⟨by rw [hb.cell (p := ⟨q, 0, none⟩) hq]; exact h.1, by rw [hb.cell (p := ⟨q, 1, none⟩) hq]; exact h.2.1, by rw [hb.cell (p := ⟨q, 2, none⟩) hq]; exact h.2.2.1, by rw [hb.cell (p := ⟨g, j * 3, none⟩) hg]; exact h.2.2.2.1, by rw [hb.cell (p := ⟨g, j * 3 + 1, none⟩) hg]; exact h.2.2.2.2.1, h.2.2.2.2.2.trans (hb.mono h.2.2.2.2.2.size)⟩

set_option maxRecDepth 100000 in
set_option maxHeartbeats 1600000 in
theorem implRoutesOk_any (v : Value) (xs : List Rt) (hl : xs.length ≤ 100000000) (w : World) (hr : RowR rtRec w v xs) :
    Calls Try.prog 13 #[v] w fun e w' => RoutesEnd xs e ∧ Below w.heap.size w w' := by
  obtain ⟨ao, cp, rfl, hf⟩ := hr.form
  by_cases h12 : xs.length ≤ 12
  · have hd12 : ¬ ((12 : Int) < (xs.length : Int)) := by omega
    go_enter Try.func13, Try.ntmps13
    go_wp2_with fail
    go_loopw [10] (fun c wr => ∃ k : Nat, k ≤ xs.length ∧ c = .int .i64 k ∧ GoodTo xs k ∧ Below w.heap.size w wr) (fun c _ => xs.length - (intOf c).toNat)
    case atStart => exact ⟨0, Nat.zero_le _, rfl, fun j hj => absurd hj (by omega), Below.refl _ _⟩
    case round =>
      obtain ⟨k, hk, rfl, hgood, hnx⟩ := hrel
      have HG := Lib.hid hgood
      have HN := Lib.hid hnx
      clear hgood hd12
      by_cases hlt : k < xs.length
      · have hlt' : (k : Int) < (xs.length : Int) := by omega
        obtain ⟨g, rfl, hg, hcell⟩ := hf (by omega)
        have hxk : xs[k]? = some xs[k] := List.getElem?_eq_getElem hlt
        obtain ⟨c0, c1, c2⟩ := row_three hcell k xs[k] hxk
        rw [← hnx.cell (p := ⟨g, k * 3, none⟩) hg] at c0
        rw [← hnx.cell (p := ⟨g, k * 3 + 1, none⟩) hg] at c1
        rw [← hnx.cell (p := ⟨g, k * 3 + 2, none⟩) hg] at c2
        generalize xs[k] = x at hxk c0 c1 c2
        obtain ⟨xa, xn, xt⟩ := x
        obtain ⟨q, hq⟩ : ∃ q, Hid (q = wr.heap.size) := ⟨_, rfl⟩
        have V0 : Hid ((wr.alloc (.cells #[.int .i64 xa, .int .i64 xn, .int .i64 xt] RT3)).drew.cell? ⟨q, 0, none⟩ = some (.int .i64 xa) ∧ (wr.alloc (.cells #[.int .i64 xa, .int .i64 xn, .int .i64 xt] RT3)).drew.cell? ⟨q, 1, none⟩ = some (.int .i64 xn) ∧ (wr.alloc (.cells #[.int .i64 xa, .int .i64 xn, .int .i64 xt] RT3)).drew.cell? ⟨q, 2, none⟩ = some (.int .i64 xt) ∧ Below w.heap.size w (wr.alloc (.cells #[.int .i64 xa, .int .i64 xn, .int .i64 xt] RT3)).drew) := by
          rw [hq.out]
          exact ⟨cell_of_row _ _ 0 _ _ (0, 0) (heap_alloc_new wr _), cell_of_row _ _ 1 _ _ (0, 0) (heap_alloc_new wr _), cell_of_row _ _ 2 _ _ (0, 0) (heap_alloc_new wr _), (hnx.alloc hnx.size _).drew⟩
        have HX := Lib.hid hxk
        have HCL := Lib.hid hcell
        clear hf hnx hxk hcell
        by_cases hp : RtOk (xa, xn, xt)
        · have k1 := isRoute_any xa xn xt true (by simp [hp])
          have HOK : Hid (RtOk (xa, xn, xt)) := hp
          by_cases hk0 : k = 0
          · subst hk0
            have HG1 : Hid (GoodTo xs (0 + 1)) := HG.out.snoc (fun x hx => by
              rw [HX.out] at hx
              simp only [Option.some.injEq] at hx
              subst hx
              exact ⟨HOK.out, fun y h => absurd h (by omega)⟩)
            have hl0 : (0 : Int) < (xs.length : Int) := by omega
            have hl1 : 0 < xs.length := hlt
            clear hlt'
            have K1 : Hid (∀ X, (X.cell? ⟨q, 0, none⟩ = some (.int .i64 xa) ∧ X.cell? ⟨q, 1, none⟩ = some (.int .i64 xn) ∧ X.cell? ⟨q, 2, none⟩ = some (.int .i64 xt) ∧ Below w.heap.size w X) → Calls Try.prog 35 #[.agg #[.int .i64 xa, .int .i64 xn, .int .i64 xt]] X fun e Y => e = .returned (.bool true) ∧ (Y.cell? ⟨q, 0, none⟩ = some (.int .i64 xa) ∧ Y.cell? ⟨q, 1, none⟩ = some (.int .i64 xn) ∧ Y.cell? ⟨q, 2, none⟩ = some (.int .i64 xt) ∧ Below w.heap.size w Y)) := fun X hX => (k1 X).mono (by rintro e Y ⟨rfl, hb⟩; exact ⟨rfl, rok_next hX hb⟩)
            clear k1 hp
            go_wp2_with fail
            rw [← hq.out]
            refine wp_region_held_drew (S := (fun X => X.cell? ⟨q, 0, none⟩ = some (.int .i64 xa) ∧ X.cell? ⟨q, 1, none⟩ = some (.int .i64 xn) ∧ X.cell? ⟨q, 2, none⟩ = some (.int .i64 xt) ∧ Below w.heap.size w X)) (by kernel_rfl) V0.out (fun hHeld => ?_)
            refine wpAnyH_take (i := 0) (v := ?_) rfl (by kernel_rfl) (by kernel_rfl) (by kernel_rfl) (fun _ _ _ h => h) (Or.inl ⟨by kernel_rfl, ?_⟩) (by assumption) ?_
            rotate_left
            · intro X hX
              first | (go_simp; done) | (go_simp; with_reducible rfl)
            simp only [Act.put, List.getElem_toArray, List.getElem_cons_zero, List.setIfInBounds_toArray, List.set_cons_zero, List.set_cons_succ]
            refine wpAnyH_ready (rs := [1]) (by kernel_rfl) (by simp) ?_
            refine AllReadyH.cons rfl (fun K hK => ?_) AllReadyH.nil
            go_simp
            go_wp2_with ((go_at_call 35; refine (K1.out _ hHeld).mono ?_; rintro e v1 ⟨rfl, hS⟩))
            refine hK.out _ _ hS (fun hHeld => ?_)
            clear hK K
            refine wpAnyH_take (i := 2) (v := ?_) rfl (by kernel_rfl) (by kernel_rfl) (by kernel_rfl) (fun _ _ _ h => h) (Or.inl ⟨by kernel_rfl, ?_⟩) (by assumption) ?_
            rotate_left
            · intro X hX
              first | (go_simp; done) | (go_simp; with_reducible rfl)
            simp only [Act.put, List.getElem_toArray, List.getElem_cons_succ, List.getElem_cons_zero, List.setIfInBounds_toArray, List.set_cons_zero, List.set_cons_succ]
            refine wpAnyH_take (i := 3) (v := ?_) rfl (by kernel_rfl) (by kernel_rfl) (by kernel_rfl) (fun _ _ _ h => h) (Or.inl ⟨by kernel_rfl, ?_⟩) (by assumption) ?_
            rotate_left
            · intro X hX
              first | (go_simp; done) | (go_simp; with_reducible rfl)
            simp only [Act.put, List.getElem_toArray, List.getElem_cons_succ, List.getElem_cons_zero, List.setIfInBounds_toArray, List.set_cons_zero, List.set_cons_succ]
            refine wpAnyH_take (i := 4) (v := ?_) rfl (by kernel_rfl) (by kernel_rfl) (by kernel_rfl) (fun _ _ _ h => h) (Or.inl ⟨by kernel_rfl, ?_⟩) (by assumption) ?_
            rotate_left
            · intro X hX
              first | (go_simp; done) | (go_simp; with_reducible rfl)
            simp only [Act.put, List.getElem_toArray, List.getElem_cons_succ, List.getElem_cons_zero, List.setIfInBounds_toArray, List.set_cons_zero, List.set_cons_succ]
            refine wpAnyH_take (i := 5) (v := ?_) rfl (by kernel_rfl) (by kernel_rfl) (by kernel_rfl) (fun _ _ _ h => h) (Or.inl ⟨by kernel_rfl, ?_⟩) (by assumption) ?_
            rotate_left
            · intro X hX
              first | (go_simp; done) | (go_simp; with_reducible rfl)
            simp only [Act.put, List.getElem_toArray, List.getElem_cons_succ, List.getElem_cons_zero, List.setIfInBounds_toArray, List.set_cons_zero, List.set_cons_succ]
            refine wpAnyH_take (i := 6) (v := ?_) rfl (by kernel_rfl) (by kernel_rfl) (by kernel_rfl) (fun _ _ _ h => h) (Or.inl ⟨by kernel_rfl, ?_⟩) (by assumption) ?_
            rotate_left
            · intro X hX
              first | (go_simp; done) | (go_simp; with_reducible rfl)
            simp only [Act.put, List.getElem_toArray, List.getElem_cons_succ, List.getElem_cons_zero, List.setIfInBounds_toArray, List.set_cons_zero, List.set_cons_succ]
            refine wpAnyH_take (i := 7) (v := undef) rfl (by kernel_rfl) (by kernel_rfl) (by kernel_rfl) (fun _ _ _ h => h) (Or.inr ⟨by kernel_rfl, rfl⟩) (by assumption) ?_
            simp only [Act.put, List.getElem_toArray, List.getElem_cons_succ, List.getElem_cons_zero, List.setIfInBounds_toArray, List.set_cons_zero, List.set_cons_succ]
            refine wpAnyH_take (i := 8) (v := undef) rfl (by kernel_rfl) (by kernel_rfl) (by kernel_rfl) (fun _ _ _ h => h) (Or.inr ⟨by kernel_rfl, rfl⟩) (by assumption) ?_
            simp only [Act.put, List.getElem_toArray, List.getElem_cons_succ, List.getElem_cons_zero, List.setIfInBounds_toArray, List.set_cons_zero, List.set_cons_succ]
            refine wpAnyH_take (i := 9) (v := undef) rfl (by kernel_rfl) (by kernel_rfl) (by kernel_rfl) (fun _ _ _ h => h) (Or.inr ⟨by kernel_rfl, rfl⟩) (by assumption) ?_
            simp only [Act.put, List.getElem_toArray, List.getElem_cons_succ, List.getElem_cons_zero, List.setIfInBounds_toArray, List.set_cons_zero, List.set_cons_succ]
            refine wpAnyH_take (i := 10) (v := undef) rfl (by kernel_rfl) (by kernel_rfl) (by kernel_rfl) (fun _ _ _ h => h) (Or.inr ⟨by kernel_rfl, rfl⟩) (by assumption) ?_
            simp only [Act.put, List.getElem_toArray, List.getElem_cons_succ, List.getElem_cons_zero, List.setIfInBounds_toArray, List.set_cons_zero, List.set_cons_succ]
            refine wpAnyH_take (i := 11) (v := undef) rfl (by kernel_rfl) (by kernel_rfl) (by kernel_rfl) (fun _ _ _ h => h) (Or.inr ⟨by kernel_rfl, rfl⟩) (by assumption) ?_
            simp only [Act.put, List.getElem_toArray, List.getElem_cons_succ, List.getElem_cons_zero, List.setIfInBounds_toArray, List.set_cons_zero, List.set_cons_succ]
            refine wpAnyH_take (i := 12) (v := undef) rfl (by kernel_rfl) (by kernel_rfl) (by kernel_rfl) (fun _ _ _ h => h) (Or.inr ⟨by kernel_rfl, rfl⟩) (by assumption) ?_
            simp only [Act.put, List.getElem_toArray, List.getElem_cons_succ, List.getElem_cons_zero, List.setIfInBounds_toArray, List.set_cons_zero, List.set_cons_succ]
            refine wpAnyH_take (i := 13) (v := undef) rfl (by kernel_rfl) (by kernel_rfl) (by kernel_rfl) (fun _ _ _ h => h) (Or.inr ⟨by kernel_rfl, rfl⟩) (by assumption) ?_
            simp only [Act.put, List.getElem_toArray, List.getElem_cons_succ, List.getElem_cons_zero, List.setIfInBounds_toArray, List.set_cons_zero, List.set_cons_succ]
            refine wpAnyH_take (i := 14) (v := undef) rfl (by kernel_rfl) (by kernel_rfl) (by kernel_rfl) (fun _ _ _ h => h) (Or.inr ⟨by kernel_rfl, rfl⟩) (by assumption) ?_
            simp only [Act.put, List.getElem_toArray, List.getElem_cons_succ, List.getElem_cons_zero, List.setIfInBounds_toArray, List.set_cons_zero, List.set_cons_succ]
            refine wpAnyH_take (i := 15) (v := undef) rfl (by kernel_rfl) (by kernel_rfl) (by kernel_rfl) (fun _ _ _ h => h) (Or.inr ⟨by kernel_rfl, rfl⟩) (by assumption) ?_
            simp only [Act.put, List.getElem_toArray, List.getElem_cons_succ, List.getElem_cons_zero, List.setIfInBounds_toArray, List.set_cons_zero, List.set_cons_succ]
            refine wpAnyH_take (i := 16) (v := undef) rfl (by kernel_rfl) (by kernel_rfl) (by kernel_rfl) (fun _ _ _ h => h) (Or.inr ⟨by kernel_rfl, rfl⟩) (by assumption) ?_
            simp only [Act.put, List.getElem_toArray, List.getElem_cons_succ, List.getElem_cons_zero, List.setIfInBounds_toArray, List.set_cons_zero, List.set_cons_succ]
            refine wpAnyH_take (i := 17) (v := ?_) rfl (by kernel_rfl) (by kernel_rfl) (by kernel_rfl) (fun _ _ _ h => h) (Or.inl ⟨by kernel_rfl, ?_⟩) (by assumption) ?_
            rotate_left
            · intro X hX
              first | (go_simp; done) | (go_simp; with_reducible rfl)
            simp only [Act.put, List.getElem_toArray, List.getElem_cons_succ, List.getElem_cons_zero, List.setIfInBounds_toArray, List.set_cons_zero, List.set_cons_succ]
            refine wpAnyH_take (i := 18) (v := ?_) rfl (by kernel_rfl) (by kernel_rfl) (by kernel_rfl) (fun _ _ _ h => h) (Or.inl ⟨by kernel_rfl, ?_⟩) (by assumption) ?_
            rotate_left
            · intro X hX
              first | (go_simp; done) | (go_simp; with_reducible rfl)
            simp only [Act.put, List.getElem_toArray, List.getElem_cons_succ, List.getElem_cons_zero, List.setIfInBounds_toArray, List.set_cons_zero, List.set_cons_succ]
            refine wpAnyH_done (by kernel_rfl) ?_ _
            have HB := Lib.hid hHeld.2.2.2
            clear hHeld
            go_wp2_with fail
            go_roundw
            case rel => exact ⟨0 + 1, by omega, by go_num, HG1.out, HB.out⟩
            case measure => simp [intOf]; omega
          · obtain ⟨j, hj⟩ : ∃ j, k = j + 1 := ⟨k - 1, by omega⟩
            have hz : decide ((0 : Int) < (k : Int)) = true := decide_eq_true (by omega)
            have hz1 : (0 : Int) < (k : Int) := by omega
            have hz2 : 0 < k := by omega
            have hj1 : (j : Int) < (xs.length : Int) := by omega
            have hsub : IntKind.i64.wrap ((k : Int) - 1) = (j : Int) := by rw [IntKind.wrap_i64]; omega
            have hxj : xs[j]? = some (xs[j]'(by omega)) := List.getElem?_eq_getElem (by omega)
            obtain ⟨d0, d1, d2⟩ := row_three HCL.out j _ hxj
            clear d2
            have hba : Below w.heap.size w (wr.alloc (.cells #[.int .i64 xa, .int .i64 xn, .int .i64 xt] RT3)).drew := (HN.out.alloc HN.out.size _).drew
            rw [← hba.cell (p := ⟨g, j * 3, none⟩) hg] at d0
            rw [← hba.cell (p := ⟨g, j * 3 + 1, none⟩) hg] at d1
            generalize (xs[j]'(by omega)) = y at hxj d0 d1
            obtain ⟨ya, yn, yt⟩ := y
            have V5 : Hid ((wr.alloc (.cells #[.int .i64 xa, .int .i64 xn, .int .i64 xt] RT3)).drew.cell? ⟨q, 0, none⟩ = some (.int .i64 xa) ∧ (wr.alloc (.cells #[.int .i64 xa, .int .i64 xn, .int .i64 xt] RT3)).drew.cell? ⟨q, 1, none⟩ = some (.int .i64 xn) ∧ (wr.alloc (.cells #[.int .i64 xa, .int .i64 xn, .int .i64 xt] RT3)).drew.cell? ⟨q, 2, none⟩ = some (.int .i64 xt) ∧ (wr.alloc (.cells #[.int .i64 xa, .int .i64 xn, .int .i64 xt] RT3)).drew.cell? ⟨g, j * 3, none⟩ = some (.int .i64 ya) ∧ (wr.alloc (.cells #[.int .i64 xa, .int .i64 xn, .int .i64 xt] RT3)).drew.cell? ⟨g, j * 3 + 1, none⟩ = some (.int .i64 yn) ∧ Below w.heap.size w (wr.alloc (.cells #[.int .i64 xa, .int .i64 xn, .int .i64 xt] RT3)).drew) := ⟨V0.out.1, V0.out.2.1, V0.out.2.2.1, d0, d1, V0.out.2.2.2⟩
            obtain ⟨b, k3, hbt, hbf⟩ : ∃ b : Bool, (∀ X, Calls Try.prog 36 #[.agg #[.int .i64 ya, .int .i64 yn], .agg #[.int .i64 xa, .int .i64 xn]] X fun e w' => e = .returned (.bool b) ∧ Below X.heap.size X w') ∧ (b = true → GoodTo xs (k + 1)) ∧ (b = false → ¬ RoutesP xs) := by
              refine ⟨aheadB ya yn xa xn, isPrefixLess_any ya yn xa xn, fun ha => HG.out.snoc (fun x hx => ?_), fun ha h => ?_⟩
              · rw [HX.out] at hx
                simp only [Option.some.injEq] at hx
                subst hx
                refine ⟨HOK.out, fun y _ hy => ?_⟩
                have e : k - 1 = j := by omega
                rw [e, hxj] at hy
                simp only [Option.some.injEq] at hy
                subst hy
                exact (aheadB_iff ya yn xa xn).1 ha
              · have e : k - 1 = j := by omega
                have h2 : Ahead ya yn xa xn := (h.1 k hlt _ HX.out).2 (ya, yn, yt) (by omega) (by rw [e]; exact hxj)
                rw [(aheadB_iff ya yn xa xn).2 h2] at ha
                cases ha
            have HBT := Lib.hid hbt
            have HBF := Lib.hid hbf
            have L1 : Hid (∀ X, (X.cell? ⟨q, 0, none⟩ = some (.int .i64 xa) ∧ X.cell? ⟨q, 1, none⟩ = some (.int .i64 xn) ∧ X.cell? ⟨q, 2, none⟩ = some (.int .i64 xt) ∧ X.cell? ⟨g, j * 3, none⟩ = some (.int .i64 ya) ∧ X.cell? ⟨g, j * 3 + 1, none⟩ = some (.int .i64 yn) ∧ Below w.heap.size w X) → Calls Try.prog 35 #[.agg #[.int .i64 xa, .int .i64 xn, .int .i64 xt]] X fun e Y => e = .returned (.bool true) ∧ (Y.cell? ⟨q, 0, none⟩ = some (.int .i64 xa) ∧ Y.cell? ⟨q, 1, none⟩ = some (.int .i64 xn) ∧ Y.cell? ⟨q, 2, none⟩ = some (.int .i64 xt) ∧ Y.cell? ⟨g, j * 3, none⟩ = some (.int .i64 ya) ∧ Y.cell? ⟨g, j * 3 + 1, none⟩ = some (.int .i64 yn) ∧ Below w.heap.size w Y)) := fun X hX => (k1 X).mono (by rintro e Y ⟨rfl, hb⟩; exact ⟨rfl, rok_five hX hb⟩)
            have L2 : Hid (∀ X, (X.cell? ⟨q, 0, none⟩ = some (.int .i64 xa) ∧ X.cell? ⟨q, 1, none⟩ = some (.int .i64 xn) ∧ X.cell? ⟨q, 2, none⟩ = some (.int .i64 xt) ∧ X.cell? ⟨g, j * 3, none⟩ = some (.int .i64 ya) ∧ X.cell? ⟨g, j * 3 + 1, none⟩ = some (.int .i64 yn) ∧ Below w.heap.size w X) → Calls Try.prog 36 #[.agg #[.int .i64 ya, .int .i64 yn], .agg #[.int .i64 xa, .int .i64 xn]] X fun e Y => e = .returned (.bool b) ∧ (Y.cell? ⟨q, 0, none⟩ = some (.int .i64 xa) ∧ Y.cell? ⟨q, 1, none⟩ = some (.int .i64 xn) ∧ Y.cell? ⟨q, 2, none⟩ = some (.int .i64 xt) ∧ Y.cell? ⟨g, j * 3, none⟩ = some (.int .i64 ya) ∧ Y.cell? ⟨g, j * 3 + 1, none⟩ = some (.int .i64 yn) ∧ Below w.heap.size w Y)) := fun X hX => (k3 X).mono (by rintro e Y ⟨rfl, hb⟩; exact ⟨rfl, rok_five hX hb⟩)
            clear k1 k3 hp hk0 hbt hbf hxj d0 d1 V0 hj hba
            go_wp2_with fail
            rw [← hq.out]
            go_region_held3 (fun X => X.cell? ⟨q, 0, none⟩ = some (.int .i64 xa) ∧ X.cell? ⟨q, 1, none⟩ = some (.int .i64 xn) ∧ X.cell? ⟨q, 2, none⟩ = some (.int .i64 xt) ∧ X.cell? ⟨g, j * 3, none⟩ = some (.int .i64 ya) ∧ X.cell? ⟨g, j * 3 + 1, none⟩ = some (.int .i64 yn) ∧ Below w.heap.size w X) (first | (with_reducible assumption) | (with_reducible exact V5.out)) (first | (go_at_call 35; refine (L1.out _ (by assumption)).mono ?_; rintro e v1 ⟨rfl, hS⟩) | (go_at_call 36; refine (L2.out _ (by assumption)).mono ?_; rintro e v1 ⟨rfl, hS⟩))
            all_goals
              have HB := Lib.hid hS.2.2.2.2.2
              clear hS
              cases b
              · have hend := Lib.hid (HBF.out rfl)
                go_wp2_with fail
                go_ret
                exact ⟨.inr ⟨hend.out, rfl⟩, HB.out⟩
              · have hg1 := Lib.hid (HBT.out rfl)
                go_wp2_with fail
                go_roundw
                case rel => exact ⟨k + 1, by omega, by go_num, hg1.out, HB.out⟩
                case measure => simp [intOf]; omega
        · have k1 := isRoute_any xa xn xt false (by simp [hp])
          have hend : Hid (¬ RoutesP xs) := fun h => hp (h.1 k hlt _ HX.out).1
          have K1 : Hid (∀ X, (X.cell? ⟨q, 0, none⟩ = some (.int .i64 xa) ∧ X.cell? ⟨q, 1, none⟩ = some (.int .i64 xn) ∧ X.cell? ⟨q, 2, none⟩ = some (.int .i64 xt) ∧ Below w.heap.size w X) → Calls Try.prog 35 #[.agg #[.int .i64 xa, .int .i64 xn, .int .i64 xt]] X fun e Y => e = .returned (.bool false) ∧ (Y.cell? ⟨q, 0, none⟩ = some (.int .i64 xa) ∧ Y.cell? ⟨q, 1, none⟩ = some (.int .i64 xn) ∧ Y.cell? ⟨q, 2, none⟩ = some (.int .i64 xt) ∧ Below w.heap.size w Y)) := fun X hX => (k1 X).mono (by rintro e Y ⟨rfl, hb⟩; exact ⟨rfl, rok_next hX hb⟩)
          clear k1 hp
          go_wp2_with fail
          rw [← hq.out]
          refine wp_region_held_drew (S := (fun X => X.cell? ⟨q, 0, none⟩ = some (.int .i64 xa) ∧ X.cell? ⟨q, 1, none⟩ = some (.int .i64 xn) ∧ X.cell? ⟨q, 2, none⟩ = some (.int .i64 xt) ∧ Below w.heap.size w X)) (by kernel_rfl) V0.out (fun hHeld => ?_)
          refine wpAnyH_take (i := 0) (v := ?_) rfl (by kernel_rfl) (by kernel_rfl) (by kernel_rfl) (fun _ _ _ h => h) (Or.inl ⟨by kernel_rfl, ?_⟩) (by assumption) ?_
          rotate_left
          · intro X hX
            first | (go_simp; done) | (go_simp; with_reducible rfl)
          simp only [Act.put, List.getElem_toArray, List.getElem_cons_zero, List.setIfInBounds_toArray, List.set_cons_zero, List.set_cons_succ]
          refine wpAnyH_ready (rs := [1]) (by kernel_rfl) (by simp) ?_
          refine AllReadyH.cons rfl (fun K hK => ?_) AllReadyH.nil
          go_simp
          go_wp2_with ((go_at_call 35; refine (K1.out _ hHeld).mono ?_; rintro e v1 ⟨rfl, hS⟩))
          refine hK.out _ _ hS (fun hHeld => ?_)
          clear hK K
          refine wpAnyH_take (i := 2) (v := ?_) rfl (by kernel_rfl) (by kernel_rfl) (by kernel_rfl) (fun _ _ _ h => h) (Or.inl ⟨by kernel_rfl, ?_⟩) (by assumption) ?_
          rotate_left
          · intro X hX
            first | (go_simp; done) | (go_simp; with_reducible rfl)
          simp only [Act.put, List.getElem_toArray, List.getElem_cons_succ, List.getElem_cons_zero, List.setIfInBounds_toArray, List.set_cons_zero, List.set_cons_succ]
          refine wpAnyH_take (i := 3) (v := ?_) rfl (by kernel_rfl) (by kernel_rfl) (by kernel_rfl) (fun _ _ _ h => h) (Or.inl ⟨by kernel_rfl, ?_⟩) (by assumption) ?_
          rotate_left
          · intro X hX
            first | (go_simp; done) | (go_simp; with_reducible rfl)
          simp only [Act.put, List.getElem_toArray, List.getElem_cons_succ, List.getElem_cons_zero, List.setIfInBounds_toArray, List.set_cons_zero, List.set_cons_succ]
          refine wpAnyH_take (i := 4) (v := undef) rfl (by kernel_rfl) (by kernel_rfl) (by kernel_rfl) (fun _ _ _ h => h) (Or.inr ⟨by kernel_rfl, rfl⟩) (by assumption) ?_
          simp only [Act.put, List.getElem_toArray, List.getElem_cons_succ, List.getElem_cons_zero, List.setIfInBounds_toArray, List.set_cons_zero, List.set_cons_succ]
          refine wpAnyH_take (i := 5) (v := undef) rfl (by kernel_rfl) (by kernel_rfl) (by kernel_rfl) (fun _ _ _ h => h) (Or.inr ⟨by kernel_rfl, rfl⟩) (by assumption) ?_
          simp only [Act.put, List.getElem_toArray, List.getElem_cons_succ, List.getElem_cons_zero, List.setIfInBounds_toArray, List.set_cons_zero, List.set_cons_succ]
          refine wpAnyH_take (i := 6) (v := undef) rfl (by kernel_rfl) (by kernel_rfl) (by kernel_rfl) (fun _ _ _ h => h) (Or.inr ⟨by kernel_rfl, rfl⟩) (by assumption) ?_
          simp only [Act.put, List.getElem_toArray, List.getElem_cons_succ, List.getElem_cons_zero, List.setIfInBounds_toArray, List.set_cons_zero, List.set_cons_succ]
          refine wpAnyH_take (i := 7) (v := undef) rfl (by kernel_rfl) (by kernel_rfl) (by kernel_rfl) (fun _ _ _ h => h) (Or.inr ⟨by kernel_rfl, rfl⟩) (by assumption) ?_
          simp only [Act.put, List.getElem_toArray, List.getElem_cons_succ, List.getElem_cons_zero, List.setIfInBounds_toArray, List.set_cons_zero, List.set_cons_succ]
          refine wpAnyH_take (i := 8) (v := undef) rfl (by kernel_rfl) (by kernel_rfl) (by kernel_rfl) (fun _ _ _ h => h) (Or.inr ⟨by kernel_rfl, rfl⟩) (by assumption) ?_
          simp only [Act.put, List.getElem_toArray, List.getElem_cons_succ, List.getElem_cons_zero, List.setIfInBounds_toArray, List.set_cons_zero, List.set_cons_succ]
          refine wpAnyH_take (i := 9) (v := undef) rfl (by kernel_rfl) (by kernel_rfl) (by kernel_rfl) (fun _ _ _ h => h) (Or.inr ⟨by kernel_rfl, rfl⟩) (by assumption) ?_
          simp only [Act.put, List.getElem_toArray, List.getElem_cons_succ, List.getElem_cons_zero, List.setIfInBounds_toArray, List.set_cons_zero, List.set_cons_succ]
          refine wpAnyH_take (i := 10) (v := undef) rfl (by kernel_rfl) (by kernel_rfl) (by kernel_rfl) (fun _ _ _ h => h) (Or.inr ⟨by kernel_rfl, rfl⟩) (by assumption) ?_
          simp only [Act.put, List.getElem_toArray, List.getElem_cons_succ, List.getElem_cons_zero, List.setIfInBounds_toArray, List.set_cons_zero, List.set_cons_succ]
          refine wpAnyH_take (i := 11) (v := undef) rfl (by kernel_rfl) (by kernel_rfl) (by kernel_rfl) (fun _ _ _ h => h) (Or.inr ⟨by kernel_rfl, rfl⟩) (by assumption) ?_
          simp only [Act.put, List.getElem_toArray, List.getElem_cons_succ, List.getElem_cons_zero, List.setIfInBounds_toArray, List.set_cons_zero, List.set_cons_succ]
          refine wpAnyH_take (i := 12) (v := undef) rfl (by kernel_rfl) (by kernel_rfl) (by kernel_rfl) (fun _ _ _ h => h) (Or.inr ⟨by kernel_rfl, rfl⟩) (by assumption) ?_
          simp only [Act.put, List.getElem_toArray, List.getElem_cons_succ, List.getElem_cons_zero, List.setIfInBounds_toArray, List.set_cons_zero, List.set_cons_succ]
          refine wpAnyH_take (i := 13) (v := undef) rfl (by kernel_rfl) (by kernel_rfl) (by kernel_rfl) (fun _ _ _ h => h) (Or.inr ⟨by kernel_rfl, rfl⟩) (by assumption) ?_
          simp only [Act.put, List.getElem_toArray, List.getElem_cons_succ, List.getElem_cons_zero, List.setIfInBounds_toArray, List.set_cons_zero, List.set_cons_succ]
          refine wpAnyH_take (i := 14) (v := undef) rfl (by kernel_rfl) (by kernel_rfl) (by kernel_rfl) (fun _ _ _ h => h) (Or.inr ⟨by kernel_rfl, rfl⟩) (by assumption) ?_
          simp only [Act.put, List.getElem_toArray, List.getElem_cons_succ, List.getElem_cons_zero, List.setIfInBounds_toArray, List.set_cons_zero, List.set_cons_succ]
          refine wpAnyH_take (i := 15) (v := undef) rfl (by kernel_rfl) (by kernel_rfl) (by kernel_rfl) (fun _ _ _ h => h) (Or.inr ⟨by kernel_rfl, rfl⟩) (by assumption) ?_
          simp only [Act.put, List.getElem_toArray, List.getElem_cons_succ, List.getElem_cons_zero, List.setIfInBounds_toArray, List.set_cons_zero, List.set_cons_succ]
          refine wpAnyH_take (i := 16) (v := undef) rfl (by kernel_rfl) (by kernel_rfl) (by kernel_rfl) (fun _ _ _ h => h) (Or.inr ⟨by kernel_rfl, rfl⟩) (by assumption) ?_
          simp only [Act.put, List.getElem_toArray, List.getElem_cons_succ, List.getElem_cons_zero, List.setIfInBounds_toArray, List.set_cons_zero, List.set_cons_succ]
          refine wpAnyH_take (i := 17) (v := undef) rfl (by kernel_rfl) (by kernel_rfl) (by kernel_rfl) (fun _ _ _ h => h) (Or.inr ⟨by kernel_rfl, rfl⟩) (by assumption) ?_
          simp only [Act.put, List.getElem_toArray, List.getElem_cons_succ, List.getElem_cons_zero, List.setIfInBounds_toArray, List.set_cons_zero, List.set_cons_succ]
          refine wpAnyH_take (i := 18) (v := ?_) rfl (by kernel_rfl) (by kernel_rfl) (by kernel_rfl) (fun _ _ _ h => h) (Or.inl ⟨by kernel_rfl, ?_⟩) (by assumption) ?_
          rotate_left
          · intro X hX
            first | (go_simp; done) | (go_simp; with_reducible rfl)
          simp only [Act.put, List.getElem_toArray, List.getElem_cons_succ, List.getElem_cons_zero, List.setIfInBounds_toArray, List.set_cons_zero, List.set_cons_succ]
          refine wpAnyH_done (by kernel_rfl) ?_ _
          have HB := Lib.hid hHeld.2.2.2
          clear hHeld
          go_wp2_with fail
          go_ret
          exact ⟨.inr ⟨hend.out, rfl⟩, HB.out⟩
      · have hlt' : ¬ ((k : Int) < (xs.length : Int)) := by omega
        have hke : k = xs.length := by omega
        have HE : Hid (RoutesP xs) := ⟨hke ▸ HG.out, h12⟩
        go_wp2_with fail
        go_ret
        exact ⟨.inl ⟨HE.out, rfl⟩, HN.out⟩
  · have hd12 : (12 : Int) < (xs.length : Int) := by omega
    have HE : Hid (¬ RoutesP xs) := fun h => h12 h.2
    clear h12 hf hr
    go_enter Try.func13, Try.ntmps13
    go_wp2_with fail
    go_ret
    exact ⟨.inr ⟨HE.out, rfl⟩, Below.refl _ _⟩

end Go.Proofs.Ytkfcoldjgijpcac
