/-
  The program's products modulo the prime, and the given ones, by what they answer.
-/
import Derived.Test.YtlgleodljfgecabRows
import Derived.Test.YtlgleodljfgecabKit
import Derived.Test.YtlgleodljfgecabPlainPow
import Derived.Test.YtlgleodljfgecabPlainCur
import Derived.Deep.RegionHeld3
import Derived.BigQuiet
import Derived.Deep.QuietTactic
import Derived.Deep.LoopGhost
import Derived.Deep.DeepCutAuto
namespace Go.Proofs.Ytlgleodljfgecab
open Go.RowKit

set_option maxRecDepth 100000 in
set_option maxHeartbeats 400000 in
theorem of_any (a : Int) (w : World) :
    Calls Try.prog 23 #[.agg #[.int .i64 2147483579], .int .i64 a] w fun e w' => e = .returned (.int .i64 (modP a : Nat)) ∧ Below w.heap.size w w' := by
  obtain ⟨r, hr, h1, h2, h3, h4⟩ := tmod_cases a
  by_cases hn : r < 0
  · have H := Lib.hid (h3 hn)
    clear h3 h4
    go_enter Try.func23, Try.ntmps23
    go_wp2
    go_ret
    exact ⟨by rw [← H.out]; rfl, (Below.refl _ _).alloc (Nat.le_refl _) _⟩
  · have H := Lib.hid (h4 hn)
    clear h3 h4
    go_enter Try.func23, Try.ntmps23
    go_wp2
    go_ret
    exact ⟨by rw [← H.out]; rfl, (Below.refl _ _).alloc (Nat.le_refl _) _⟩

set_option maxRecDepth 100000 in
set_option maxHeartbeats 400000 in
theorem specMod_any (a : Int) (w : World) :
    Calls Try.prog 20 #[.int .i64 a] w fun e w' => e = .returned (.int .i64 (modP a : Nat)) ∧ w' = w := by
  obtain ⟨r, hr, h1, h2, h3, h4⟩ := tmod_cases a
  by_cases hn : r < 0
  · have H := Lib.hid (h3 hn)
    clear h3 h4
    go_enter Try.func20, Try.ntmps20
    go_wp2
    go_ret
    exact ⟨by rw [← H.out]; rfl, rfl⟩
  · have H := Lib.hid (h4 hn)
    clear h3 h4
    go_enter Try.func20, Try.ntmps20
    go_wp2
    go_ret
    exact ⟨by rw [← H.out]; rfl, rfl⟩

/-- The same with a cell that is kept, and what was there ahead of 'w' too. -/
theorem of_keep (a : Int) (w W : World) (v : Value) (h : W.cell? ⟨w.heap.size, 0, none⟩ = some v ∧ Below w.heap.size w W) :
    Calls Try.prog 23 #[.agg #[.int .i64 2147483579], .int .i64 a] W fun e w' => e = .returned (.int .i64 (modP a : Nat)) ∧ w'.cell? ⟨w.heap.size, 0, none⟩ = some v ∧ Below w.heap.size w w' := by
  refine (of_any a W).mono fun e w' ⟨he, hb⟩ => ⟨he, ?_, h.2.trans (hb.mono h.2.size)⟩
  rw [hb.cell (p := ⟨w.heap.size, 0, none⟩) (cell_size (p := ⟨w.heap.size, 0, none⟩) h.1)]
  exact h.1
theorem held_drew {w W : World} {v : Value} (h : W.cell? ⟨w.heap.size, 0, none⟩ = some v ∧ Below w.heap.size w W) : W.drew.cell? ⟨w.heap.size, 0, none⟩ = some v ∧ Below w.heap.size w W.drew := ⟨h.1, h.2.drew⟩

set_option maxRecDepth 100000 in
set_option maxHeartbeats 400000 in
theorem product_any (a b : Int) (w : World) :
    Calls Try.prog 18 #[.agg #[.int .i64 2147483579], .int .i64 a, .int .i64 b] w fun e w' => e = .returned (.int .i64 (mulP a b : Nat)) ∧ Below w.heap.size w w' := by
  have hx : modP a < 2147483579 := modP_lt a
  have hy : modP b < 2147483579 := modP_lt b
  have H1 := Lib.hid (fun a => of_keep a w)
  obtain ⟨m, hm, hm1, HM⟩ : ∃ m : Nat, (modP a : Int) * (modP b : Int) = (m : Int) ∧ m < 9223372036854775807 ∧ Hid (m = modP a * modP b) := ⟨modP a * modP b, by rw [Int.natCast_mul], prod_lt _ _ hx hy, rfl⟩
  obtain ⟨r, hr, HR⟩ : ∃ r : Nat, (m : Int).tmod 2147483579 = (r : Int) ∧ Hid (r = mulP a b) := by
    refine ⟨m % 2147483579, by rw [Int.tmod_eq_emod_of_nonneg (by omega)]; omega, ?_⟩
    show m % 2147483579 = mulP a b
    rw [HM.out]
    rfl
  have hwm : IntKind.i64.wrap (m : Int) = (m : Int) := by rw [IntKind.wrap_i64]; omega
  rw [← HR.out]
  have h0 : (w.alloc (.cells #[.int .i64 2147483579] 36)).cell? ⟨w.heap.size, 0, none⟩ = some (.int .i64 2147483579) ∧ Below w.heap.size w (w.alloc (.cells #[.int .i64 2147483579] 36)) := ⟨by simp, (Below.refl _ _).alloc (Nat.le_refl _) _⟩
  go_enter Try.func18, Try.ntmps18
  go_wp2_with fail
  generalize w.alloc (.cells #[.int .i64 2147483579] 36) = W at h0
  obtain ⟨h1, h2⟩ := h0
  go_region_held3 (fun X => X.cell? ⟨w.heap.size, 0, none⟩ = some (.int .i64 2147483579) ∧ Below w.heap.size w X) (first | assumption | exact held_drew ⟨h1, h2⟩ | (exact ⟨by assumption, by assumption⟩)) (first | (go_at_call 23; refine (H1.out _ _ (.int .i64 2147483579) (by assumption)).mono ?_; rintro e w1 ⟨rfl, hc1, hb1⟩))
  all_goals
    go_wp2
    go_ret
    exact ⟨rfl, by assumption⟩

set_option maxRecDepth 100000 in
set_option maxHeartbeats 400000 in
theorem byPrime_any (w : World) :
    Calls Try.prog 16 #[] w fun e w' => e = .returned (.agg #[.int .i64 2147483579]) ∧ Below w.heap.size w w' := by
  go_enter Try.func16, Try.ntmps16
  go_wp2
  refine bodyPost_ret (v := .agg #[.int .i64 2147483579]) (by simp [results, Try.results16, go_sem]) rfl ⟨rfl, ?_⟩
  exact (Below.refl _ _).alloc (Nat.le_refl _) _

set_option maxRecDepth 100000 in
set_option maxHeartbeats 400000 in
theorem implMulP_any (a b : Int) (w : World) :
    Calls Try.prog 7 #[.int .i64 a, .int .i64 b] w fun e w' => e = .returned (.int .i64 (mulP a b : Nat)) ∧ Below w.heap.size w w' := by
  have H1 := Lib.hid byPrime_any
  have H2 := Lib.hid (product_any a b)
  go_enter Try.func7, Try.ntmps7
  go_wp2_with fail
  refine (H1.out _).mono ?_
  rintro e w1 ⟨rfl, hb1⟩
  go_wp2_with fail
  refine (H2.out _).mono ?_
  rintro e w2 ⟨rfl, hb2⟩
  go_wp2
  go_ret
  exact ⟨rfl, hb1.trans (hb2.mono hb1.size)⟩

set_option maxRecDepth 100000 in
set_option maxHeartbeats 400000 in
theorem specMulP_any (a b : Int) (w : World) :
    Calls Try.prog 12 #[.int .i64 a, .int .i64 b] w fun e w' => e = .returned (.int .i64 (mulP a b : Nat)) ∧ w' = w := by
  have hx : modP a < 2147483579 := modP_lt a
  have hy : modP b < 2147483579 := modP_lt b
  have H1 := Lib.hid (specMod_any a)
  have H2 := Lib.hid (specMod_any b)
  obtain ⟨m, hm, hm1, HM⟩ : ∃ m : Nat, (modP a : Int) * (modP b : Int) = (m : Int) ∧ m < 9223372036854775807 ∧ Hid (m = modP a * modP b) := ⟨modP a * modP b, by rw [Int.natCast_mul], prod_lt _ _ hx hy, rfl⟩
  obtain ⟨r, hr, HR⟩ : ∃ r : Nat, (m : Int) % 2147483579 = (r : Int) ∧ Hid (r = mulP a b) := by
    refine ⟨m % 2147483579, by omega, ?_⟩
    show m % 2147483579 = mulP a b
    rw [HM.out]
    rfl
  rw [← HR.out]
  go_enter Try.func12, Try.ntmps12
  go_wp2_with fail
  refine (H1.out _).mono ?_
  rintro e w1 ⟨rfl, rfl⟩
  go_wp2_with fail
  refine (H2.out _).mono ?_
  rintro e w2 ⟨rfl, rfl⟩
  go_wp2
  go_ret
  exact ⟨by rw [← hr]; rfl, rfl⟩

end Go.Proofs.Ytlgleodljfgecab
