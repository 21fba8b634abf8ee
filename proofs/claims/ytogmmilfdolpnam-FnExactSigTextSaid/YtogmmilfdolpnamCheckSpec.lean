/-
  The given CheckText and SharedOf.
-/
import Derived.Test.YtogmmilfdolpnamSignTextSpec
namespace Go.Proofs.Ytogmmilfdolpnam
open Go.RowKit

theorem inGroup_range (y : Int) (h : inGroup y = true) : 2 ≤ y ∧ y < 2147483579 := by
  unfold inGroup inGroupOf at h
  simp only [Bool.and_eq_true, decide_eq_true_eq] at h
  exact ⟨h.1, h.2.1⟩
theorem mulP_nat (x y : Nat) (hx : x < prime) (hy : y < prime) : mulP (x : Nat) (y : Nat) = x * y % prime := by
  unfold mulP
  rw [modP_nat, modP_nat, Nat.mod_eq_of_lt hx, Nat.mod_eq_of_lt hy]
theorem powI_of (b n : Nat) (hb : b < prime) (h : n ≤ 2147483579) : powI (b : Nat) (n : Nat) = powP b n := by
  rw [powI_nat _ n h, modP_nat, Nat.mod_eq_of_lt hb]
theorem backP_lt (p E S : Nat) : backP p E S < 2147483579 := Nat.mod_lt _ (by decide)

set_option maxRecDepth 100000 in
set_option maxHeartbeats 400000 in
theorem specShared_yes (s p : Nat) (h1 : 1 ≤ s) (h2 : s ≤ 1073741788) (hp : inGroup (p : Nat) = true) (w : World) :
    Calls Try.prog 6 #[.int .i64 s, .int .i64 p] w fun e w' => e = .returned (.tuple #[.int .i64 (powP p s : Nat), .bool true]) ∧ w' = w := by
  have k0 := specInGroup_any p
  rw [hp] at k0
  have H0 := Lib.hid k0
  have hpr := inGroup_range p hp
  have H1 := Lib.hid (inRange_yes (s : Int) 1 1073741788 (by omega) (by omega))
  have k2 := specPowP_any p s
  rw [powI_of p s (by rw [primeV]; omega) (by omega)] at k2
  have H2 := Lib.hid k2
  generalize powP p s = x at H2
  clear k0 k2 hp
  go_enter Try.func6, Try.ntmps6
  go_wp2_with fail
  refine (H0.out _).mono ?_
  rintro e w1 ⟨rfl, rfl⟩
  go_wp2_with fail
  refine (H1.out _).mono ?_
  rintro e w2 ⟨rfl, rfl⟩
  go_wp2_with fail
  refine (H2.out _).mono ?_
  rintro e w3 ⟨rfl, rfl⟩
  go_wp2_with fail
  go_ret2
  exact ⟨rfl, rfl⟩

set_option maxRecDepth 100000 in
set_option maxHeartbeats 400000 in
theorem specShared_no (s p : Int) (h : inGroup p = false ∨ (s < 1 ∨ 1073741788 < s)) (w : World) :
    Calls Try.prog 6 #[.int .i64 s, .int .i64 p] w fun e w' => e = .returned (.tuple #[.int .i64 0, .bool false]) ∧ w' = w := by
  have k0 := specInGroup_any p
  cases hg : inGroup p
  · rw [hg] at k0
    have H0 := Lib.hid k0
    clear k0 h hg
    go_enter Try.func6, Try.ntmps6
    go_wp2_with fail
    refine (H0.out _).mono ?_
    rintro e w1 ⟨rfl, rfl⟩
    go_wp2_with fail
    go_ret2
    exact ⟨rfl, rfl⟩
  · rw [hg] at k0 h
    have H0 := Lib.hid k0
    have H1 := Lib.hid (inRange_no s 1 1073741788 (by rcases h with h | h; · cases h
                                                      · exact h))
    clear k0 h hg
    go_enter Try.func6, Try.ntmps6
    go_wp2_with fail
    refine (H0.out _).mono ?_
    rintro e w1 ⟨rfl, rfl⟩
    go_wp2_with fail
    refine (H1.out _).mono ?_
    rintro e w2 ⟨rfl, rfl⟩
    go_wp2_with fail
    go_ret2
    exact ⟨rfl, rfl⟩

end Go.Proofs.Ytogmmilfdolpnam
