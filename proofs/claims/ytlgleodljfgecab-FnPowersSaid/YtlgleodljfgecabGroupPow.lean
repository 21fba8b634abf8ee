/-
  The program's powers modulo the prime, and the given ones, by what they answer.
-/
import Derived.Test.YtlgleodljfgecabGroupMul
namespace Go.Proofs.Ytlgleodljfgecab
open Go.RowKit

theorem modP_mulP (a b : Int) : modP (mulP a b : Nat) = modP a * modP b % prime := by rw [modP_nat, Nat.mod_eq_of_lt (mulP_lt a b)]; rfl

set_option maxRecDepth 100000 in
set_option maxHeartbeats 800000 in
theorem power_any (b : Int) (e : Nat) (he : e ≤ 2147483579) (w : World) :
    Calls Try.prog 17 #[.agg #[.int .i64 2147483579], .int .i64 b, .int .i64 e] w fun x w' => x = .returned (.int .i64 (powP (modP b) e : Nat)) ∧ Below w.heap.size w w' := by
  have h0 : (w.alloc (.cells #[.int .i64 2147483579] 36)).cell? ⟨w.heap.size, 0, none⟩ = some (.int .i64 2147483579) ∧ Below w.heap.size w (w.alloc (.cells #[.int .i64 2147483579] 36)) := ⟨by simp, (Below.refl _ _).alloc (Nat.le_refl _) _⟩
  go_enter Try.func17, Try.ntmps17
  go_wp2_with fail
  generalize w.alloc (.cells #[.int .i64 2147483579] 36) = W at h0
  have H0 := Lib.hid h0
  clear h0
  go_loopw [2, 7, 8] (fun ev ov sv wr => ∃ (x o : Nat) (s : Int), x ≤ e ∧ o < prime ∧ o * powP (modP s) x % prime = powP (modP b) e ∧ ev = .int .i64 x ∧ ov = .int .i64 o ∧ sv = .int .i64 s ∧ wr.cell? ⟨w.heap.size, 0, none⟩ = some (.int .i64 2147483579) ∧ Below w.heap.size w wr) (fun ev _ _ _ => (intOf ev).toNat)
  case atStart =>
    exact ⟨e, 1, b, Nat.le_refl _, by decide, by rw [Nat.one_mul, Nat.mod_eq_of_lt (powP_lt _ _)], rfl, rfl, rfl, H0.out.1, H0.out.2⟩
  case round =>
    obtain ⟨x, o, s, hxe, ho, heq, rfl, rfl, rfl, hc, hb⟩ := hrel
    have HE := Lib.hid heq
    have HB := Lib.hid hb
    have HO := Lib.hid ho
    have hg : w.heap.size < wr.heap.size := cell_size (p := ⟨w.heap.size, 0, none⟩) hc
    clear heq hb ho
    by_cases hx : x = 0
    · subst hx
      have E0 : Hid (o = powP (modP b) e) := by
        show o = _
        have := HE.out
        rw [powP_zero, Nat.mul_one, Nat.mod_eq_of_lt HO.out] at this
        exact this
      go_wp2
      go_ret
      exact ⟨by rw [← E0.out]; rfl, HB.out⟩
    · have hx0 : 0 < (x : Int) := by omega
      have H2 := Lib.hid (product_any s s)
      by_cases hodd : x % 2 = 1
      · have hr : (x : Int).tmod 2 = 1 := by rw [Int.tmod_eq_emod_of_nonneg (by omega)]; omega
        have H1 := Lib.hid (product_any o s)
        go_wp2_with fail
        refine (H1.out _).mono ?_
        rintro e1 w1 ⟨rfl, hb1⟩
        have hc1 : w1.cell? ⟨w.heap.size, 0, none⟩ = some (.int .i64 2147483579) := by rw [hb1.cell (p := ⟨w.heap.size, 0, none⟩) hg]; exact hc
        have HB1 := Lib.hid (HB.out.trans (hb1.mono HB.out.size))
        have hg1 : w.heap.size < w1.heap.size := Nat.lt_of_lt_of_le hg hb1.size
        clear hb1
        go_wp2_with fail
        refine (H2.out _).mono ?_
        rintro e2 w2 ⟨rfl, hb2⟩
        have hc2 : w2.cell? ⟨w.heap.size, 0, none⟩ = some (.int .i64 2147483579) := by rw [hb2.cell (p := ⟨w.heap.size, 0, none⟩) hg1]; exact hc1
        have HB2 := Lib.hid (HB1.out.trans (hb2.mono HB1.out.size))
        clear hb2
        go_wp2
        go_roundw
        case rel =>
          refine ⟨x / 2, mulP o s, (mulP s s : Nat), by omega, mulP_lt _ _, ?_, by go_num, rfl, rfl, hc2, HB2.out⟩
          rw [modP_mulP, ← HE.out, ← pow_step_odd o (modP s) x hodd]
          unfold mulP
          rw [modP_nat, Nat.mod_eq_of_lt HO.out]
        case measure => simp [intOf]; omega
      · have hr : ¬ (x : Int).tmod 2 = 1 := by rw [Int.tmod_eq_emod_of_nonneg (by omega)]; omega
        go_wp2_with fail
        refine (H2.out _).mono ?_
        rintro e2 w2 ⟨rfl, hb2⟩
        have hc2 : w2.cell? ⟨w.heap.size, 0, none⟩ = some (.int .i64 2147483579) := by rw [hb2.cell (p := ⟨w.heap.size, 0, none⟩) hg]; exact hc
        have HB2 := Lib.hid (HB.out.trans (hb2.mono HB.out.size))
        clear hb2
        go_wp2
        go_roundw
        case rel =>
          refine ⟨x / 2, o, (mulP s s : Nat), by omega, HO.out, ?_, by go_num, rfl, rfl, hc2, HB2.out⟩
          rw [modP_mulP, ← HE.out, ← pow_step_even o (modP s) x (by omega)]
        case measure => simp [intOf]; omega

/-- b to the e modulo the prime; 0 when e is not in 0 .. Prime. -/
def powI (b e : Int) : Nat := if 0 ≤ e ∧ e ≤ 2147483579 then powP (modP b) e.toNat else 0

set_option maxRecDepth 100000 in
set_option maxHeartbeats 400000 in
theorem implPowP_any (b e : Int) (w : World) :
    Calls Try.prog 6 #[.int .i64 b, .int .i64 e] w fun x w' => x = .returned (.int .i64 (powI b e : Nat)) ∧ Below w.heap.size w w' := by
  by_cases h : 0 ≤ e ∧ e ≤ 2147483579
  · obtain ⟨n, rfl⟩ := Int.eq_ofNat_of_zero_le h.1
    have E : Hid (powI b n = powP (modP b) n) := by show powI b n = _; unfold powI; rw [if_pos h]; rfl
    have h1 : ¬ ((n : Int) < 0) := by omega
    have h2 : ¬ (2147483579 < (n : Int)) := by omega
    have H1 := Lib.hid byPrime_any
    have H2 := Lib.hid (power_any b n (by omega))
    rw [E.out]
    clear h
    go_enter Try.func6, Try.ntmps6
    go_wp2_with fail
    refine (H1.out _).mono ?_
    rintro e1 w1 ⟨rfl, hb1⟩
    go_wp2_with fail
    refine (H2.out _).mono ?_
    rintro e2 w2 ⟨rfl, hb2⟩
    go_wp2
    go_ret
    exact ⟨rfl, hb1.trans (hb2.mono hb1.size)⟩
  · have E : Hid (powI b e = 0) := by show powI b e = _; unfold powI; rw [if_neg h]
    rw [E.out]
    by_cases h1 : e < 0
    · clear h
      go_enter Try.func6, Try.ntmps6
      go_wp2
      go_ret
      exact ⟨rfl, Below.refl _ _⟩
    · have h2 : 2147483579 < e := by omega
      clear h
      go_enter Try.func6, Try.ntmps6
      go_wp2
      go_ret
      exact ⟨rfl, Below.refl _ _⟩

end Go.Proofs.Ytlgleodljfgecab
