/-
  Prefixes that are drawn, right or not; words that may be an address or a prefix.
-/
import Derived.Test.YtmmippdommemmacDoorDrawAddr
import Derived.Deep.LoopGhost
import Derived.Deep.DeepCutAuto
namespace Go.Proofs.YtmmippdommemmacDoor
open Go.RowKit

def addrSteps : List Int := [1, -1, 4294967296]
theorem addrSteps_few (x : Int) (h : x ∈ addrSteps) : -1 ≤ x ∧ x ≤ 4294967296 := by
  simp only [addrSteps, List.mem_cons, List.not_mem_nil, or_false] at h
  omega
def lenOdd : List Int := [-1, 0, 32, 33]
theorem SD.drew {c : Nat} {a : Option Addr} {len cap : Nat} {w : World} {t : TypeId} {q : Nat} {x y : Value} {X : World} (h : SD c a len cap w t q x y X) : SD c a len cap w t q x y X.drew := h.next ((Below.refl _ X).drew)

set_option maxRecDepth 100000 in
set_option maxHeartbeats 1600000 in
theorem anyPrefix_any {c : Nat} {a : Option Addr} {len cap : Nat} (w : World) (H : Cur c a len cap w) :
    Calls Tryd.prog 25 #[.pointer (some ⟨c, 0, none⟩)] w fun e w' => ∃ x n : Int, e = .returned (.agg #[.int .i64 x, .int .i64 n]) ∧ Cur c a len cap w' ∧ Only c w w' := by
  have hcs : c < w.heap.size := cell_size (p := ⟨c, 0, none⟩) H.c0
  have R0 := Lib.hid (VarP.new w PT (.int .i64 0) (.int .i64 0))
  have B0 := Lib.hid ((Below.refl w.heap.size w).alloc (Nat.le_refl _) (.cells #[.int .i64 0, .int .i64 0] PT))
  have HC0 := Lib.hid (H.below B0.out)
  clear H
  go_enter Tryd.func25, Tryd.ntmps25
  go_wp2_with fail
  refine (prefix_any _ HC0.out).mono ?_
  rintro e w1 ⟨f, n, hok, rfl, hc1, ho1⟩
  have hf := hok.1
  have hn := hok.2.1
  have ha : Below w1.heap.size w1 (w1.alloc (.cells #[.int .i64 f, .int .i64 n] PT)) := (Below.refl _ _).alloc (Nat.le_refl _) _
  have hr := R0.out.only ho1 (by omega)
  have V4 := Lib.hid (show SD c a len cap w PT w1.heap.size (.int .i64 f) (.int .i64 n) (w1.alloc (.cells #[.int .i64 f, .int .i64 n] PT)) from ⟨hc1.below ha, ((Only.of_below B0.out).trans ho1).trans (.of_below ha), hr.next ha, VarP.new _ _ _ _, lt_of_block hr.row, hcs⟩)
  clear hok hc1 ho1 ha hr R0 B0 HC0
  go_wp2_with fail
  refine (below_any 12 (by omega) (by omega) _ V4.out.cur).mono ?_
  rintro e w5 ⟨x, x0, x1, rfl, hc5, ho5⟩
  have V5 := Lib.hid (V4.out.step hc5 ho5)
  generalize w1.heap.size = q at *
  clear hc5 ho5 V4
  have h3 : x = 0 ∨ x = 1 ∨ 2 ≤ x := by omega
  rcases h3 with rfl | rfl | x2
  · have g2 := V5.out.var.c0
    have hql : q < w5.heap.size := lt_of_block V5.out.var.row
    have K6 : Hid (∀ X, SD c a len cap w PT q (.int .i64 f) (.int .i64 n) X → (∀ j, j < 3 → X.cell? ⟨w5.heap.size, j, none⟩ = some (.int .i64 (addrSteps.getD j 0))) → Calls Tryd.prog 37 #[.pointer (some ⟨c, 0, none⟩), .slice (some ⟨w5.heap.size, 0, none⟩) 3 3] X fun e Y => ∃ v : Int, (-1 ≤ v ∧ v ≤ 4294967296) ∧ e = .returned (.int .i64 v) ∧ SD c a len cap w PT q (.int .i64 f) (.int .i64 n) Y) := fun X hX hcl => by
      refine (pickInt_any w5.heap.size 3 addrSteps rfl (by omega) (by omega) (by have := hX.cl; have := hX.lt; omega) X hX.cur hcl).mono ?_
      rintro e Y ⟨v, hv, rfl, hc, ho⟩
      exact ⟨v, addrSteps_few v hv, rfl, hX.step hc ho⟩
    have YA := Lib.hid (show SD c a len cap w PT q (.int .i64 f) (.int .i64 n) (w5.alloc (.cells #[.int .i64 1, .int .i64 (-1), .int .i64 4294967296] 3)).drew from (V5.out.next ((Below.refl _ _).alloc (Nat.le_refl _) _)).drew)
    have CL : Hid (∀ j, j < 3 → (w5.alloc (.cells #[.int .i64 1, .int .i64 (-1), .int .i64 4294967296] 3)).drew.cell? ⟨w5.heap.size, j, none⟩ = some (.int .i64 (addrSteps.getD j 0))) := by
      intro j hj
      have h4 : j = 0 ∨ j = 1 ∨ j = 2 := by omega
      rcases h4 with rfl | rfl | rfl <;> simp [addrSteps]
    go_wp2_with fail
    go_region_with (first | (go_at_call 37; refine (K6.out _ YA.out CL.out).mono ?_; rintro e x6 ⟨v, ⟨va, vb⟩, rfl, hX6⟩; have d2 := hX6.var.c0; have f2 := hX6.var.free 0; have qa : IntKind.i64.wrap ((f : Int) + v) = (f : Int) + v := (by rw [IntKind.wrap_i64]; omega); have HX7 := Lib.hid (hX6.set0 (.int .i64 ((f : Int) + v)))))
    all_goals
      have z0 := HX7.out.var.c0
      have z1 := HX7.out.var.c1
      have v0 := HX7.out.res.c0
      have v1 := HX7.out.res.c1
      have b0 := HX7.out.res.free 0
      have b1 := HX7.out.res.free 1
      have ST := Lib.hid (HX7.out.store (.int .i64 ((f : Int) + v)) (.int .i64 n))
      go_wp2_with fail
      have i0 := ST.out.2.c0
      have i1 := ST.out.2.c1
      exact bodyPost_ret (v := .agg #[.int .i64 ((f : Int) + v), .int .i64 n]) (by simp [results, Tryd.results25, go_sem, i0, i1]) rfl ⟨_, _, rfl, ST.out.1.1, ST.out.1.2⟩
  · go_wp2_with fail
    have hq5 : q < w5.heap.size := lt_of_block V5.out.var.row
    have hb6 : Below w5.heap.size w5 (w5.alloc (.cells #[.int .i64 (-1), .int .i64 0, .int .i64 32, .int .i64 33] 3)) := (Below.refl _ _).alloc (Nat.le_refl _) _
    have V6 := Lib.hid (V5.out.next hb6)
    have hc6 : c < w5.heap.size := by have := V5.out.cl; have := V5.out.lt; omega
    refine (pickInt_any w5.heap.size 4 lenOdd rfl (by omega) (by omega) (by omega) _ V6.out.cur ?_).mono ?_
    · intro j hj
      have h4 : j = 0 ∨ j = 1 ∨ j = 2 ∨ j = 3 := by omega
      rcases h4 with rfl | rfl | rfl | rfl <;> simp [lenOdd]
    rintro e w6 ⟨y, hy, rfl, hc7, ho7⟩
    have hV7 := V6.out.step hc7 ho7
    have c1 := hV7.var.c1
    have f1 := hV7.var.free 1
    have hV8 := hV7.set1 (.int .i64 y)
    clear hc7 ho7 hy hb6 hV7 V6
    go_upto_region 7 with fail
    generalize w6.setCell ⟨q, 1, none⟩ (.int .i64 y) = w8 at *
    have d0 := hV8.var.c0
    have d1 := hV8.var.c1
    have r0 := hV8.res.c0
    have r1 := hV8.res.c1
    have g0 := hV8.res.free 0
    have g1 := hV8.res.free 1
    have ST := Lib.hid (hV8.store (.int .i64 f) (.int .i64 y))
    clear hV8 V5 c1 f1
    go_wp2_with fail
    have i0 := ST.out.2.c0
    have i1 := ST.out.2.c1
    exact bodyPost_ret (v := .agg #[.int .i64 f, .int .i64 y]) (by simp [results, Tryd.results25, go_sem, i0, i1]) rfl ⟨_, _, rfl, ST.out.1.1, ST.out.1.2⟩
  · have n0 : ¬ (x = 0) := by omega
    have n1 : ¬ (x = 1) := by omega
    have d0 := V5.out.var.c0
    have d1 := V5.out.var.c1
    have r0 := V5.out.res.c0
    have r1 := V5.out.res.c1
    have g0 := V5.out.res.free 0
    have g1 := V5.out.res.free 1
    have ST := Lib.hid (V5.out.store (.int .i64 f) (.int .i64 n))
    go_wp2_with fail
    have i0 := ST.out.2.c0
    have i1 := ST.out.2.c1
    exact bodyPost_ret (v := .agg #[.int .i64 f, .int .i64 n]) (by simp [results, Tryd.results25, go_sem, i0, i1]) rfl ⟨_, _, rfl, ST.out.1.1, ST.out.1.2⟩

end Go.Proofs.YtmmippdommemmacDoor
