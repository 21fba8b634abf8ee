/-
  The law on routes that are put among others and dropped again: its walk, out of the program's contracts.
-/
import Derived.Test.YtpcdmfimjnhejaoRouteAll
import Derived.Test.YtpcdmfimjnhejaoLookSpec
import Derived.Test.YtpcdmfimjnhejaoDrawRoutes
import Derived.Test.YtpcdmfimjnhejaoDrawWords
import Derived.Test.YtpcdmfimjnhejaoLawLongestWalk
namespace Go.Proofs.Ytpcdmfimjnhejao
open Go.RowKit

/-- The program's functions of routes answer what the plain functions say. -/
structure RouteFns (L : World → Prop) : Prop where
  stays : ∀ X Y, L X → Below X.heap.size X Y → L Y
  ok : ∀ (v : Value) (xs : List Rt), xs.length ≤ 2000000 → ∀ X, L X → RowR rtRec X v xs → Calls Try.prog 11 #[v] X fun e X' => RoutesEnd xs e ∧ Below X.heap.size X X'
  put : ∀ (v : Value) (xs : List Rt) (ra rn rt : Int), xs.length ≤ 2000000 → (Lit.int .i64 ra).wf = true → (Lit.int .i64 rn).wf = true → ∀ X, L X → RowR rtRec X v xs → Calls Try.prog 15 #[v, .agg #[.int .i64 ra, .int .i64 rn, .int .i64 rt]] X fun e X' => PutEnd xs (ra, rn, rt) X e X' ∧ Below X.heap.size X X'
  drop : ∀ (v : Value) (xs : List Rt) (a n : Int), xs.length ≤ 2000000 → (Lit.int .i64 a).wf = true → (Lit.int .i64 n).wf = true → ∀ X, L X → RowR rtRec X v xs → Calls Try.prog 20 #[v, .agg #[.int .i64 a, .int .i64 n]] X fun e X' => DropEnd xs a n X e X' ∧ Below X.heap.size X X'
  dropTo : ∀ (v : Value) (xs : List Rt) (tt : Int), xs.length ≤ 2000000 → ∀ X, L X → RowR rtRec X v xs → Calls Try.prog 24 #[v, .int .i64 tt] X fun e X' => ∃ v', e = .returned v' ∧ OwnR rtRec X' X.heap.size RTI v' (xs.filter (fun r => r.2.2 != tt)) ∧ Below X.heap.size X X'

/-- What a region about one route holds: its cells, the prefix, both rows. -/
structure RI (w : World) (g j q : Nat) (xa xn pa pn : Int) (lv dv : Value) (xs ds : List Rt) (X : World) : Prop where
  c0 : X.cell? ⟨g, j * 3, none⟩ = some (.int .i64 xa)
  c1 : X.cell? ⟨g, j * 3 + 1, none⟩ = some (.int .i64 xn)
  p0 : X.cell? ⟨q, 0, none⟩ = some (.int .i64 pa)
  p1 : X.cell? ⟨q, 1, none⟩ = some (.int .i64 pn)
  l : RowR rtRec X lv xs
  d : RowR rtRec X dv ds
  below : Below w.heap.size w X
theorem RI.next {w : World} {g j q : Nat} {xa xn pa pn : Int} {lv dv : Value} {xs ds : List Rt} {X Y : World} (h : RI w g j q xa xn pa pn lv dv xs ds X) (hb : Below X.heap.size X Y) : RI w g j q xa xn pa pn lv dv xs ds Y := by
  have hg : g < X.heap.size := cell_size (p := ⟨g, j * 3, none⟩) h.c0
  have hq : q < X.heap.size := cell_size (p := ⟨q, 0, none⟩) h.p0
  refine ⟨?_, ?_, ?_, ?_, h.l.below hb, h.d.below hb, h.below.trans (hb.mono h.below.size)⟩
  · rw [hb.cell (p := ⟨g, j * 3, none⟩) hg]; exact h.c0
  · rw [hb.cell (p := ⟨g, j * 3 + 1, none⟩) hg]; exact h.c1
  · rw [hb.cell (p := ⟨q, 0, none⟩) hq]; exact h.p0
  · rw [hb.cell (p := ⟨q, 1, none⟩) hq]; exact h.p1
theorem RI.all {w : World} {g j q : Nat} {xa xn pa pn : Int} {lv dv : Value} {xs ds : List Rt} {X : World} (h : RI w g j q xa xn pa pn lv dv xs ds X) : X.cell? ⟨g, j * 3, none⟩ = some (.int .i64 xa) ∧ X.cell? ⟨g, j * 3 + 1, none⟩ = some (.int .i64 xn) ∧ X.cell? ⟨q, 0, none⟩ = some (.int .i64 pa) ∧ X.cell? ⟨q, 1, none⟩ = some (.int .i64 pn) ∧ RI w g j q xa xn pa pn lv dv xs ds X := ⟨h.c0, h.c1, h.p0, h.p1, h⟩
theorem dropTo_put (xs : List Rt) (pa pn : Int) (h : ∀ x ∈ xs, x.2.2 ≤ 4) : ((putP xs (pa, pn, 7)).filter (fun r => r.2.2 != 7)) = dropP (putP xs (pa, pn, 7)) pa pn := by
  have e := drop_put xs (pa, pn, 7)
  rw [e]
  unfold putP
  rw [List.filter_append, List.filter_append]
  have k : ∀ p : Rt → Bool, (xs.filter p).filter (fun r => r.2.2 != 7) = xs.filter p := fun p => List.filter_eq_self.2 fun x hx => by
    have := h x (List.mem_filter.1 hx).1
    simp
    omega
  rw [k, k]
  simp
theorem drop_again (ys : List Rt) (a n : Int) : dropP (dropP ys a n) a n = dropP ys a n := by
  unfold dropP
  exact List.filter_eq_self.2 fun x hx => (List.mem_filter.1 hx).2
theorem split_sorted (r : Rt) : ∀ xs : List Rt, xs.Pairwise AheadR → xs.filter (aheadOf r) ++ xs.filter (behind r) = xs.filter (other r.1 r.2.1)
  | [], _ => rfl
  | x :: xs, h => by
    have ih := split_sorted r xs (List.pairwise_cons.1 h).2
    have hx := (List.pairwise_cons.1 h).1
    by_cases h1 : AheadR x r
    · have e1 : aheadOf r x = true := (aheadOf_iff r x).2 h1
      have e2 : behind r x = false := Bool.eq_false_iff.2 fun e => ahead_not h1 ((behind_iff r x).1 e)
      have e3 : other r.1 r.2.1 x = true := (other_iff _ _ _).2 (by unfold AheadR Ahead at h1; omega)
      rw [List.filter_cons_of_pos e1, List.filter_cons_of_neg (by rw [e2]; decide), List.filter_cons_of_pos e3, List.cons_append, ih]
    · have e1 : aheadOf r x = false := Bool.eq_false_iff.2 fun e => h1 ((aheadOf_iff r x).1 e)
      by_cases h2 : AheadR r x
      · have e2 : behind r x = true := (behind_iff r x).2 h2
        have e3 : other r.1 r.2.1 x = true := (other_iff _ _ _).2 (by unfold AheadR Ahead at h2; omega)
        have e4 : xs.filter (aheadOf r) = [] := List.filter_eq_nil_iff.2 fun y hy e => ahead_not (ahead_trans h2 (hx y hy)) ((aheadOf_iff r y).1 e)
        rw [e4, List.nil_append] at ih
        rw [List.filter_cons_of_neg (by rw [e1]; decide), List.filter_cons_of_pos e2, List.filter_cons_of_pos e3, e4, ih]
        rfl
      · have e2 : behind r x = false := Bool.eq_false_iff.2 fun e => h2 ((behind_iff r x).1 e)
        have e3 : other r.1 r.2.1 x = false := Bool.eq_false_iff.2 fun e => by
          have := (other_iff _ _ _).1 e
          unfold AheadR Ahead at h1 h2
          omega
        rw [List.filter_cons_of_neg (by rw [e1]; decide), List.filter_cons_of_neg (by rw [e2]; decide), List.filter_cons_of_neg (by rw [e3]; decide), ih]
/-- As many are left as there were: then all are. -/
theorem drop_same (xs : List Rt) (h : RoutesP xs) (pa pn : Int) (hl : (dropP (putP xs (pa, pn, 7)) pa pn).length = xs.length) : dropP (putP xs (pa, pn, 7)) pa pn = xs := by
  rw [routesP_iff] at h
  have e := drop_put xs (pa, pn, 7)
  rw [e] at hl ⊢
  have e2 : xs.filter (aheadOf (pa, pn, 7)) ++ xs.filter (behind (pa, pn, 7)) = dropP xs pa pn := split_sorted (pa, pn, 7) xs h.2.1
  rw [e2] at hl ⊢
  exact List.filter_eq_self.2 (List.length_filter_eq_length_iff.1 hl)

end Go.Proofs.Ytpcdmfimjnhejao
