/-
  The program's products modulo the prime, and the given ones, by what they answer.
  The program's powers modulo the prime, and the given ones, by what they answer.
  The given powers modulo the prime, by what they answer.
  Who is in the group, by the program: what it answers.
  Who is in the group, by the given one: what it answers.
-/
import Derived.Test.YtogmmilfdolpnamDoorRows
import Derived.Test.YtogmmilfdolpnamDoorKit
import Derived.Test.YtogmmilfdolpnamDoorPlainAll
import Derived.Test.YtogmmilfdolpnamDoorPlainCur
import Derived.Deep.RegionHeld3
import Derived.BigQuiet
import Derived.Deep.QuietTactic
import Derived.Deep.LoopGhost
import Derived.Deep.DeepCutAuto
import Derived.Test.YtogmmilfdolpnamDoorInRange
namespace Go.Proofs.YtogmmilfdolpnamDoor
open Go.RowKit

set_option maxRecDepth 100000 in
set_option maxHeartbeats 400000 in
theorem of_any (a : Int) (w : World) :
    Calls Tryd.prog 24 #[.agg #[.int .i64 2147483579], .int .i64 a] w fun e w' => e = .returned (.int .i64 (modP a : Nat)) ∧ Below w.heap.size w w' := by
  obtain ⟨r, hr, h1, h2, h3, h4⟩ := tmod_cases a
  by_cases hn : r < 0
  · have H := Lib.hid (h3 hn)
    clear h3 h4
    go_enter Tryd.func24, Tryd.ntmps24
    go_wp2
    go_ret
    exact ⟨by rw [← H.out]; rfl, (Below.refl _ _).alloc (Nat.le_refl _) _⟩
  · have H := Lib.hid (h4 hn)
    clear h3 h4
    go_enter Tryd.func24, Tryd.ntmps24
    go_wp2
    go_ret
    exact ⟨by rw [← H.out]; rfl, (Below.refl _ _).alloc (Nat.le_refl _) _⟩

set_option maxRecDepth 100000 in
set_option maxHeartbeats 400000 in
theorem specMod_any (a : Int) (w : World) :
    Calls Tryd.prog 33 #[.int .i64 a] w fun e w' => e = .returned (.int .i64 (modP a : Nat)) ∧ w' = w := by
  obtain ⟨r, hr, h1, h2, h3, h4⟩ := tmod_cases a
  by_cases hn : r < 0
  · have H := Lib.hid (h3 hn)
    clear h3 h4
    go_enter Tryd.func33, Tryd.ntmps33
    go_wp2
    go_ret
    exact ⟨by rw [← H.out]; rfl, rfl⟩
  · have H := Lib.hid (h4 hn)
    clear h3 h4
    go_enter Tryd.func33, Tryd.ntmps33
    go_wp2
    go_ret
    exact ⟨by rw [← H.out]; rfl, rfl⟩

/-- The same with a cell that is kept, and what was there ahead of 'w' too. -/
theorem of_keep (a : Int) (w W : World) (v : Value) (h : W.cell? ⟨w.heap.size, 0, none⟩ = some v ∧ Below w.heap.size w W) :
    Calls Tryd.prog 24 #[.agg #[.int .i64 2147483579], .int .i64 a] W fun e w' => e = .returned (.int .i64 (modP a : Nat)) ∧ w'.cell? ⟨w.heap.size, 0, none⟩ = some v ∧ Below w.heap.size w w' := by
  refine (of_any a W).mono fun e w' ⟨he, hb⟩ => ⟨he, ?_, h.2.trans (hb.mono h.2.size)⟩
  rw [hb.cell (p := ⟨w.heap.size, 0, none⟩) (cell_size (p := ⟨w.heap.size, 0, none⟩) h.1)]
  exact h.1
theorem held_drew {w W : World} {v : Value} (h : W.cell? ⟨w.heap.size, 0, none⟩ = some v ∧ Below w.heap.size w W) : W.drew.cell? ⟨w.heap.size, 0, none⟩ = some v ∧ Below w.heap.size w W.drew := ⟨h.1, h.2.drew⟩

set_option maxRecDepth 100000 in
set_option maxHeartbeats 400000 in
theorem product_any (a b : Int) (w : World) :
    Calls Tryd.prog 25 #[.agg #[.int .i64 2147483579], .int .i64 a, .int .i64 b] w fun e w' => e = .returned (.int .i64 (mulP a b : Nat)) ∧ Below w.heap.size w w' := by
  have hx : modP a < 2147483579 := modP_lt a
  have hy : modP b < 2147483579 := modP_lt b
  have H1 := Lib.hid (fun a => of_keep a w)
  obtain ⟨m, hm, hm1, HM⟩ : ∃ m : Nat, (modP a : Int) * (modP b : Int) = (m : Int) ∧ m < 9223372036854775807 ∧ Hid (m = modP a * modP b) := ⟨modP a * modP b, by rw [Int.natCast_mul], prod_lt _ _ hx hy, rfl⟩
  obtain ⟨r, hr, HR⟩ : ∃ r : Nat, (m : Int).tmod 2147483579 = (r : Int) ∧ Hid (r = mulP a b) := by
    refine ⟨m % 2147483579, by rw [Int.tmod_eq_emod_of_nonneg (by omega)]; omega, ?_⟩
    show m % 2147483579 = mulP a b
    rw [HM.out]
    rfl
  have hwm : IntKind.i64.wrap (m : Int) = (m : Int) := by rw [IntKind.wrap_i64]; omega
  rw [← HR.out]
  have h0 : (w.alloc (.cells #[.int .i64 2147483579] 40)).cell? ⟨w.heap.size, 0, none⟩ = some (.int .i64 2147483579) ∧ Below w.heap.size w (w.alloc (.cells #[.int .i64 2147483579] 40)) := ⟨by simp, (Below.refl _ _).alloc (Nat.le_refl _) _⟩
  go_enter Tryd.func25, Tryd.ntmps25
  go_wp2_with fail
  generalize w.alloc (.cells #[.int .i64 2147483579] 40) = W at h0
  obtain ⟨h1, h2⟩ := h0
  go_region_held3 (fun X => X.cell? ⟨w.heap.size, 0, none⟩ = some (.int .i64 2147483579) ∧ Below w.heap.size w X) (first | assumption | exact held_drew ⟨h1, h2⟩ | (exact ⟨by assumption, by assumption⟩)) (first | (go_at_call 24; refine (H1.out _ _ (.int .i64 2147483579) (by assumption)).mono ?_; rintro e w1 ⟨rfl, hc1, hb1⟩))
  all_goals
    go_wp2
    go_ret
    exact ⟨rfl, by assumption⟩

set_option maxRecDepth 100000 in
set_option maxHeartbeats 400000 in
theorem byPrime_any (w : World) :
    Calls Tryd.prog 36 #[] w fun e w' => e = .returned (.agg #[.int .i64 2147483579]) ∧ Below w.heap.size w w' := by
  go_enter Tryd.func36, Tryd.ntmps36
  go_wp2
  refine bodyPost_ret (v := .agg #[.int .i64 2147483579]) (by simp [results, Tryd.results36, go_sem]) rfl ⟨rfl, ?_⟩
  exact (Below.refl _ _).alloc (Nat.le_refl _) _

set_option maxRecDepth 100000 in
set_option maxHeartbeats 400000 in
theorem implMulP_any (a b : Int) (w : World) :
    Calls Tryd.prog 30 #[.int .i64 a, .int .i64 b] w fun e w' => e = .returned (.int .i64 (mulP a b : Nat)) ∧ Below w.heap.size w w' := by
  have H1 := Lib.hid byPrime_any
  have H2 := Lib.hid (product_any a b)
  go_enter Tryd.func30, Tryd.ntmps30
  go_wp2_with fail
  refine (H1.out _).mono ?_
  rintro e w1 ⟨rfl, hb1⟩
  go_wp2_with fail
  refine (H2.out _).mono ?_
  rintro e w2 ⟨rfl, hb2⟩
  go_wp2
  go_ret
  exact ⟨rfl, hb1.trans (hb2.mono hb1.size)⟩

set_option maxRecDepth 100000 in
set_option maxHeartbeats 400000 in
theorem specMulP_any (a b : Int) (w : World) :
    Calls Tryd.prog 27 #[.int .i64 a, .int .i64 b] w fun e w' => e = .returned (.int .i64 (mulP a b : Nat)) ∧ w' = w := by
  have hx : modP a < 2147483579 := modP_lt a
  have hy : modP b < 2147483579 := modP_lt b
  have H1 := Lib.hid (specMod_any a)
  have H2 := Lib.hid (specMod_any b)
  obtain ⟨m, hm, hm1, HM⟩ : ∃ m : Nat, (modP a : Int) * (modP b : Int) = (m : Int) ∧ m < 9223372036854775807 ∧ Hid (m = modP a * modP b) := ⟨modP a * modP b, by rw [Int.natCast_mul], prod_lt _ _ hx hy, rfl⟩
  obtain ⟨r, hr, HR⟩ : ∃ r : Nat, (m : Int) % 2147483579 = (r : Int) ∧ Hid (r = mulP a b) := by
    refine ⟨m % 2147483579, by omega, ?_⟩
    show m % 2147483579 = mulP a b
    rw [HM.out]
    rfl
  rw [← HR.out]
  go_enter Tryd.func27, Tryd.ntmps27
  go_wp2_with fail
  refine (H1.out _).mono ?_
  rintro e w1 ⟨rfl, rfl⟩
  go_wp2_with fail
  refine (H2.out _).mono ?_
  rintro e w2 ⟨rfl, rfl⟩
  go_wp2
  go_ret
  exact ⟨by rw [← hr]; rfl, rfl⟩

end Go.Proofs.YtogmmilfdolpnamDoor
namespace Go.Proofs.YtogmmilfdolpnamDoor
open Go.RowKit

theorem modP_mulP (a b : Int) : modP (mulP a b : Nat) = modP a * modP b % prime := by rw [modP_nat, Nat.mod_eq_of_lt (mulP_lt a b)]; rfl

set_option maxRecDepth 100000 in
set_option maxHeartbeats 800000 in
theorem power_any (b : Int) (e : Nat) (he : e ≤ 2147483579) (w : World) :
    Calls Tryd.prog 37 #[.agg #[.int .i64 2147483579], .int .i64 b, .int .i64 e] w fun x w' => x = .returned (.int .i64 (powP (modP b) e : Nat)) ∧ Below w.heap.size w w' := by
  have h0 : (w.alloc (.cells #[.int .i64 2147483579] 40)).cell? ⟨w.heap.size, 0, none⟩ = some (.int .i64 2147483579) ∧ Below w.heap.size w (w.alloc (.cells #[.int .i64 2147483579] 40)) := ⟨by simp, (Below.refl _ _).alloc (Nat.le_refl _) _⟩
  go_enter Tryd.func37, Tryd.ntmps37
  go_wp2_with fail
  generalize w.alloc (.cells #[.int .i64 2147483579] 40) = W at h0
  have H0 := Lib.hid h0
  clear h0
  go_loopw [2, 7, 8] (fun ev ov sv wr => ∃ (x o : Nat) (s : Int), x ≤ e ∧ o < prime ∧ o * powP (modP s) x % prime = powP (modP b) e ∧ ev = .int .i64 x ∧ ov = .int .i64 o ∧ sv = .int .i64 s ∧ wr.cell? ⟨w.heap.size, 0, none⟩ = some (.int .i64 2147483579) ∧ Below w.heap.size w wr) (fun ev _ _ _ => (intOf ev).toNat)
  case atStart =>
    exact ⟨e, 1, b, Nat.le_refl _, by decide, by rw [Nat.one_mul, Nat.mod_eq_of_lt (powP_lt _ _)], rfl, rfl, rfl, H0.out.1, H0.out.2⟩
  case round =>
    obtain ⟨x, o, s, hxe, ho, heq, rfl, rfl, rfl, hc, hb⟩ := hrel
    have HE := Lib.hid heq
    have HB := Lib.hid hb
    have HO := Lib.hid ho
    have hg : w.heap.size < wr.heap.size := cell_size (p := ⟨w.heap.size, 0, none⟩) hc
    clear heq hb ho
    by_cases hx : x = 0
    · subst hx
      have E0 : Hid (o = powP (modP b) e) := by
        show o = _
        have := HE.out
        rw [powP_zero, Nat.mul_one, Nat.mod_eq_of_lt HO.out] at this
        exact this
      go_wp2
      go_ret
      exact ⟨by rw [← E0.out]; rfl, HB.out⟩
    · have hx0 : 0 < (x : Int) := by omega
      have H2 := Lib.hid (product_any s s)
      by_cases hodd : x % 2 = 1
      · have hr : (x : Int).tmod 2 = 1 := by rw [Int.tmod_eq_emod_of_nonneg (by omega)]; omega
        have H1 := Lib.hid (product_any o s)
        go_wp2_with fail
        refine (H1.out _).mono ?_
        rintro e1 w1 ⟨rfl, hb1⟩
        have hc1 : w1.cell? ⟨w.heap.size, 0, none⟩ = some (.int .i64 2147483579) := by rw [hb1.cell (p := ⟨w.heap.size, 0, none⟩) hg]; exact hc
        have HB1 := Lib.hid (HB.out.trans (hb1.mono HB.out.size))
        have hg1 : w.heap.size < w1.heap.size := Nat.lt_of_lt_of_le hg hb1.size
        clear hb1
        go_wp2_with fail
        refine (H2.out _).mono ?_
        rintro e2 w2 ⟨rfl, hb2⟩
        have hc2 : w2.cell? ⟨w.heap.size, 0, none⟩ = some (.int .i64 2147483579) := by rw [hb2.cell (p := ⟨w.heap.size, 0, none⟩) hg1]; exact hc1
        have HB2 := Lib.hid (HB1.out.trans (hb2.mono HB1.out.size))
        clear hb2
        go_wp2
        go_roundw
        case rel =>
          refine ⟨x / 2, mulP o s, (mulP s s : Nat), by omega, mulP_lt _ _, ?_, by go_num, rfl, rfl, hc2, HB2.out⟩
          rw [modP_mulP, ← HE.out, ← pow_step_odd o (modP s) x hodd]
          unfold mulP
          rw [modP_nat, Nat.mod_eq_of_lt HO.out]
        case measure => simp [intOf]; omega
      · have hr : ¬ (x : Int).tmod 2 = 1 := by rw [Int.tmod_eq_emod_of_nonneg (by omega)]; omega
        go_wp2_with fail
        refine (H2.out _).mono ?_
        rintro e2 w2 ⟨rfl, hb2⟩
        have hc2 : w2.cell? ⟨w.heap.size, 0, none⟩ = some (.int .i64 2147483579) := by rw [hb2.cell (p := ⟨w.heap.size, 0, none⟩) hg]; exact hc
        have HB2 := Lib.hid (HB.out.trans (hb2.mono HB.out.size))
        clear hb2
        go_wp2
        go_roundw
        case rel =>
          refine ⟨x / 2, o, (mulP s s : Nat), by omega, HO.out, ?_, by go_num, rfl, rfl, hc2, HB2.out⟩
          rw [modP_mulP, ← HE.out, ← pow_step_even o (modP s) x (by omega)]
        case measure => simp [intOf]; omega

/-- b to the e modulo the prime; 0 when e is not in 0 .. Prime. -/
def powI (b e : Int) : Nat := if 0 ≤ e ∧ e ≤ 2147483579 then powP (modP b) e.toNat else 0

set_option maxRecDepth 100000 in
set_option maxHeartbeats 400000 in
theorem implPowP_any (b e : Int) (w : World) :
    Calls Tryd.prog 21 #[.int .i64 b, .int .i64 e] w fun x w' => x = .returned (.int .i64 (powI b e : Nat)) ∧ Below w.heap.size w w' := by
  by_cases h : 0 ≤ e ∧ e ≤ 2147483579
  · obtain ⟨n, rfl⟩ := Int.eq_ofNat_of_zero_le h.1
    have E : Hid (powI b n = powP (modP b) n) := by show powI b n = _; unfold powI; rw [if_pos h]; rfl
    have h1 : ¬ ((n : Int) < 0) := by omega
    have h2 : ¬ (2147483579 < (n : Int)) := by omega
    have H1 := Lib.hid byPrime_any
    have H2 := Lib.hid (power_any b n (by omega))
    rw [E.out]
    clear h
    go_enter Tryd.func21, Tryd.ntmps21
    go_wp2_with fail
    refine (H1.out _).mono ?_
    rintro e1 w1 ⟨rfl, hb1⟩
    go_wp2_with fail
    refine (H2.out _).mono ?_
    rintro e2 w2 ⟨rfl, hb2⟩
    go_wp2
    go_ret
    exact ⟨rfl, hb1.trans (hb2.mono hb1.size)⟩
  · have E : Hid (powI b e = 0) := by show powI b e = _; unfold powI; rw [if_neg h]
    rw [E.out]
    by_cases h1 : e < 0
    · clear h
      go_enter Tryd.func21, Tryd.ntmps21
      go_wp2
      go_ret
      exact ⟨rfl, Below.refl _ _⟩
    · have h2 : 2147483579 < e := by omega
      clear h
      go_enter Tryd.func21, Tryd.ntmps21
      go_wp2
      go_ret
      exact ⟨rfl, Below.refl _ _⟩

end Go.Proofs.YtogmmilfdolpnamDoor
namespace Go.Proofs.YtogmmilfdolpnamDoor
open Go.RowKit

/-- A product of two remainders, as the walk spells it. -/
theorem mul_mod (x y : Nat) (hx : x < prime) (hy : y < prime) : ∃ m : Nat, (x : Int) * (y : Int) = (m : Int) ∧ m < 9223372036854775807 ∧ Hid (m % 2147483579 = x * y % prime) :=
  ⟨x * y, by rw [Int.natCast_mul], prod_lt _ _ hx hy, rfl⟩

set_option maxRecDepth 100000 in
set_option maxHeartbeats 800000 in
theorem specPow_in (b : Int) (e : Nat) (he : e ≤ 2147483579) (w : World) :
    Calls Tryd.prog 14 #[.int .i64 b, .int .i64 e] w fun x w' => x = .returned (.int .i64 (powP (modP b) e : Nat)) ∧ w' = w := by
  have H1 := Lib.hid (inRange_yes (e : Int) 0 2147483579 (by omega) (by omega))
  have H2 := Lib.hid (specMod_any b)
  go_enter Tryd.func14, Tryd.ntmps14
  go_wp2_with fail
  refine (H1.out _).mono ?_
  rintro e1 w1 ⟨rfl, rfl⟩
  go_wp2_with fail
  refine (H2.out _).mono ?_
  rintro e2 w2 ⟨rfl, rfl⟩
  go_wp2_with fail
  go_loopw [0, 1, 5] (fun sv ev ov wr => ∃ (x o s : Nat), x ≤ e ∧ o < prime ∧ s < prime ∧ o * powP s x % prime = powP (modP b) e ∧ ev = .int .i64 x ∧ ov = .int .i64 o ∧ sv = .int .i64 s ∧ wr = w2) (fun _ ev _ _ => (intOf ev).toNat)
  case atStart =>
    exact ⟨e, 1, modP b, Nat.le_refl _, by decide, modP_lt _, by rw [Nat.one_mul, Nat.mod_eq_of_lt (powP_lt _ _)], rfl, rfl, rfl, rfl⟩
  case round =>
    obtain ⟨x, o, s, hxe, ho, hs, heq, rfl, rfl, rfl, rfl⟩ := hrel
    have HE := Lib.hid heq
    clear heq
    by_cases hx : x = 0
    · subst hx
      have E0 : Hid (o = powP (modP b) e) := by
        show o = _
        have := HE.out
        rw [powP_zero, Nat.mul_one, Nat.mod_eq_of_lt ho] at this
        exact this
      go_wp2
      go_ret
      exact ⟨by rw [← E0.out]; rfl, rfl⟩
    · have hx0 : 0 < (x : Int) := by omega
      obtain ⟨m2, hm2, hl2, HM2⟩ := mul_mod s s hs hs
      by_cases hodd : x % 2 = 1
      · have hr : (x : Int) % 2 = 1 := by omega
        have hr2 : (x : Int).tmod 2 = 1 := by rw [Int.tmod_eq_emod_of_nonneg (by omega)]; omega
        obtain ⟨m1, hm1, hl1, HM1⟩ := mul_mod o s ho hs
        have HS := Lib.hid hs
        have HO := Lib.hid ho
        clear hs ho
        go_wp2
        go_roundw
        case rel =>
          refine ⟨x / 2, m1 % 2147483579, m2 % 2147483579, by omega, Nat.mod_lt _ (by decide), Nat.mod_lt _ (by decide), ?_, by go_num, by go_num, by go_num, trivial⟩
          rw [HM1.out, HM2.out, ← HE.out, ← pow_step_odd o s x hodd]
        case measure => simp [intOf]; omega
      · have hr : ¬ (x : Int) % 2 = 1 := by omega
        have hr2 : ¬ (x : Int).tmod 2 = 1 := by rw [Int.tmod_eq_emod_of_nonneg (by omega)]; omega
        have HS := Lib.hid hs
        have HO := Lib.hid ho
        clear hs ho
        go_wp2
        go_roundw
        case rel =>
          refine ⟨x / 2, o, m2 % 2147483579, by omega, HO.out, Nat.mod_lt _ (by decide), ?_, by go_num, rfl, by go_num, trivial⟩
          rw [HM2.out, ← HE.out, ← pow_step_even o s x (by omega)]
        case measure => simp [intOf]; omega

set_option maxHeartbeats 400000 in
theorem specPowP_any (b e : Int) (w : World) :
    Calls Tryd.prog 14 #[.int .i64 b, .int .i64 e] w fun x w' => x = .returned (.int .i64 (powI b e : Nat)) ∧ w' = w := by
  by_cases h : 0 ≤ e ∧ e ≤ 2147483579
  · obtain ⟨n, rfl⟩ := Int.eq_ofNat_of_zero_le h.1
    have E : Hid (powI b n = powP (modP b) n) := by show powI b n = _; unfold powI; rw [if_pos h]; rfl
    rw [E.out]
    exact specPow_in b n (by omega) w
  · have E : Hid (powI b e = 0) := by show powI b e = _; unfold powI; rw [if_neg h]
    rw [E.out]
    have H1 := Lib.hid (inRange_no e 0 2147483579 (by omega))
    clear h
    go_enter Tryd.func14, Tryd.ntmps14
    go_wp2_with fail
    refine (H1.out _).mono ?_
    rintro e1 w1 ⟨rfl, rfl⟩
    go_wp2
    go_ret
    exact ⟨rfl, rfl⟩

end Go.Proofs.YtogmmilfdolpnamDoor
namespace Go.Proofs.YtogmmilfdolpnamDoor
open Go.RowKit

/-- y in 2 .. Prime - 1, and its power by Order is 1. -/
def inGroupOf (y : Int) (p : Nat) : Bool := decide (2 ≤ y) && (decide (y < 2147483579) && ((p : Int) == 1))
def inGroup (y : Int) : Bool := inGroupOf y (powI y 1073741789)

theorem inGroup_low (y : Int) (p : Nat) (h : ¬ 2 ≤ y) : inGroupOf y p = false := by unfold inGroupOf; rw [decide_eq_false h]; rfl
theorem inGroup_high (y : Int) (p : Nat) (h : ¬ y < 2147483579) : inGroupOf y p = false := by unfold inGroupOf; rw [decide_eq_false h, Bool.false_and, Bool.and_false]
theorem inGroup_mid (y : Int) (p : Nat) (h1 : 2 ≤ y) (h2 : y < 2147483579) : inGroupOf y p = ((p : Int) == 1) := by unfold inGroupOf; rw [decide_eq_true h1, decide_eq_true h2, Bool.true_and, Bool.true_and]

set_option maxRecDepth 100000 in
set_option maxHeartbeats 400000 in
theorem implInGroup_any (y : Int) (w : World) :
    Calls Tryd.prog 28 #[.int .i64 y] w fun x w' => x = .returned (.bool (inGroup y)) ∧ Below w.heap.size w w' := by
  have H1 := Lib.hid (implPowP_any y 1073741789)
  unfold inGroup
  generalize powI y 1073741789 = n at H1 ⊢
  by_cases h1 : 2 ≤ y
  · by_cases h2 : y < 2147483579
    · have E := Lib.hid (inGroup_mid y n h1 h2)
      rw [E.out]
      clear E
      go_enter Tryd.func28, Tryd.ntmps28
      go_wp2_with fail
      refine (H1.out _).mono ?_
      rintro e1 w1 ⟨rfl, hb1⟩
      go_wp2
      go_ret
      exact ⟨rfl, hb1⟩
    · rw [inGroup_high y n h2]
      have h3 : decide (y < 2147483579) = false := decide_eq_false h2
      clear h2
      go_enter Tryd.func28, Tryd.ntmps28
      go_wp2
      go_ret
      exact ⟨rfl, Below.refl _ _⟩
  · rw [inGroup_low y n h1]
    go_enter Tryd.func28, Tryd.ntmps28
    go_wp2
    go_ret
    exact ⟨rfl, Below.refl _ _⟩

end Go.Proofs.YtogmmilfdolpnamDoor
namespace Go.Proofs.YtogmmilfdolpnamDoor
open Go.RowKit

set_option maxRecDepth 100000 in
set_option maxHeartbeats 400000 in
theorem specInGroup_any (y : Int) (w : World) :
    Calls Tryd.prog 26 #[.int .i64 y] w fun x w' => x = .returned (.bool (inGroup y)) ∧ w' = w := by
  have H1 := Lib.hid (specPowP_any y 1073741789)
  unfold inGroup
  generalize powI y 1073741789 = n at H1 ⊢
  by_cases h : 2 ≤ y ∧ y ≤ 2147483578
  · have E := Lib.hid (inGroup_mid y n h.1 (by omega))
    rw [E.out]
    have H0 := Lib.hid (inRange_yes y 2 2147483578 h.1 h.2)
    clear E h
    go_enter Tryd.func26, Tryd.ntmps26
    go_wp2_with fail
    refine (H0.out _).mono ?_
    rintro e0 w0 ⟨rfl, rfl⟩
    go_wp2_with fail
    refine (H1.out _).mono ?_
    rintro e1 w1 ⟨rfl, rfl⟩
    go_wp2
    go_ret
    exact ⟨rfl, rfl⟩
  · have E : Hid (inGroupOf y n = false) := by
      show inGroupOf y n = false
      by_cases h1 : 2 ≤ y
      · exact inGroup_high y n (by omega)
      · exact inGroup_low y n h1
    rw [E.out]
    have H0 := Lib.hid (inRange_no y 2 2147483578 (by omega))
    clear E h
    go_enter Tryd.func26, Tryd.ntmps26
    go_wp2_with fail
    refine (H0.out _).mono ?_
    rintro e0 w0 ⟨rfl, rfl⟩
    go_wp2
    go_ret
    exact ⟨rfl, rfl⟩

end Go.Proofs.YtogmmilfdolpnamDoor
