/-
  The given powers modulo the prime, by what they answer.
-/
import Derived.Test.YtlgleodljfgecabGroupPow
import Derived.Test.YtlgleodljfgecabInRange
namespace Go.Proofs.Ytlgleodljfgecab
open Go.RowKit

/-- A product of two remainders, as the walk spells it. -/
theorem mul_mod (x y : Nat) (hx : x < prime) (hy : y < prime) : ∃ m : Nat, (x : Int) * (y : Int) = (m : Int) ∧ m < 9223372036854775807 ∧ Hid (m % 2147483579 = x * y % prime) :=
  ⟨x * y, by rw [Int.natCast_mul], prod_lt _ _ hx hy, rfl⟩

set_option maxRecDepth 100000 in
set_option maxHeartbeats 800000 in
theorem specPow_in (b : Int) (e : Nat) (he : e ≤ 2147483579) (w : World) :
    Calls Try.prog 8 #[.int .i64 b, .int .i64 e] w fun x w' => x = .returned (.int .i64 (powP (modP b) e : Nat)) ∧ w' = w := by
  have H1 := Lib.hid (inRange_yes (e : Int) 0 2147483579 (by omega) (by omega))
  have H2 := Lib.hid (specMod_any b)
  go_enter Try.func8, Try.ntmps8
  go_wp2_with fail
  refine (H1.out _).mono ?_
  rintro e1 w1 ⟨rfl, rfl⟩
  go_wp2_with fail
  refine (H2.out _).mono ?_
  rintro e2 w2 ⟨rfl, rfl⟩
  go_wp2_with fail
  go_loopw [0, 1, 5] (fun sv ev ov wr => ∃ (x o s : Nat), x ≤ e ∧ o < prime ∧ s < prime ∧ o * powP s x % prime = powP (modP b) e ∧ ev = .int .i64 x ∧ ov = .int .i64 o ∧ sv = .int .i64 s ∧ wr = w2) (fun _ ev _ _ => (intOf ev).toNat)
  case atStart =>
    exact ⟨e, 1, modP b, Nat.le_refl _, by decide, modP_lt _, by rw [Nat.one_mul, Nat.mod_eq_of_lt (powP_lt _ _)], rfl, rfl, rfl, rfl⟩
  case round =>
    obtain ⟨x, o, s, hxe, ho, hs, heq, rfl, rfl, rfl, rfl⟩ := hrel
    have HE := Lib.hid heq
    clear heq
    by_cases hx : x = 0
    · subst hx
      have E0 : Hid (o = powP (modP b) e) := by
        show o = _
        have := HE.out
        rw [powP_zero, Nat.mul_one, Nat.mod_eq_of_lt ho] at this
        exact this
      go_wp2
      go_ret
      exact ⟨by rw [← E0.out]; rfl, rfl⟩
    · have hx0 : 0 < (x : Int) := by omega
      obtain ⟨m2, hm2, hl2, HM2⟩ := mul_mod s s hs hs
      by_cases hodd : x % 2 = 1
      · have hr : (x : Int) % 2 = 1 := by omega
        have hr2 : (x : Int).tmod 2 = 1 := by rw [Int.tmod_eq_emod_of_nonneg (by omega)]; omega
        obtain ⟨m1, hm1, hl1, HM1⟩ := mul_mod o s ho hs
        have HS := Lib.hid hs
        have HO := Lib.hid ho
        clear hs ho
        go_wp2
        go_roundw
        case rel =>
          refine ⟨x / 2, m1 % 2147483579, m2 % 2147483579, by omega, Nat.mod_lt _ (by decide), Nat.mod_lt _ (by decide), ?_, by go_num, by go_num, by go_num, trivial⟩
          rw [HM1.out, HM2.out, ← HE.out, ← pow_step_odd o s x hodd]
        case measure => simp [intOf]; omega
      · have hr : ¬ (x : Int) % 2 = 1 := by omega
        have hr2 : ¬ (x : Int).tmod 2 = 1 := by rw [Int.tmod_eq_emod_of_nonneg (by omega)]; omega
        have HS := Lib.hid hs
        have HO := Lib.hid ho
        clear hs ho
        go_wp2
        go_roundw
        case rel =>
          refine ⟨x / 2, o, m2 % 2147483579, by omega, HO.out, Nat.mod_lt _ (by decide), ?_, by go_num, rfl, by go_num, trivial⟩
          rw [HM2.out, ← HE.out, ← pow_step_even o s x (by omega)]
        case measure => simp [intOf]; omega

set_option maxHeartbeats 400000 in
theorem specPowP_any (b e : Int) (w : World) :
    Calls Try.prog 8 #[.int .i64 b, .int .i64 e] w fun x w' => x = .returned (.int .i64 (powI b e : Nat)) ∧ w' = w := by
  by_cases h : 0 ≤ e ∧ e ≤ 2147483579
  · obtain ⟨n, rfl⟩ := Int.eq_ofNat_of_zero_le h.1
    have E : Hid (powI b n = powP (modP b) n) := by show powI b n = _; unfold powI; rw [if_pos h]; rfl
    rw [E.out]
    exact specPow_in b n (by omega) w
  · have E : Hid (powI b e = 0) := by show powI b e = _; unfold powI; rw [if_neg h]
    rw [E.out]
    have H1 := Lib.hid (inRange_no e 0 2147483579 (by omega))
    clear h
    go_enter Try.func8, Try.ntmps8
    go_wp2_with fail
    refine (H1.out _).mono ?_
    rintro e1 w1 ⟨rfl, rfl⟩
    go_wp2
    go_ret
    exact ⟨rfl, rfl⟩

end Go.Proofs.Ytlgleodljfgecab
