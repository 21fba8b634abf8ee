/-
  The program's PublicOf and SharedOf: what they answer.
-/
import Derived.Test.YtogmmilfdolpnamCheckSpec
namespace Go.Proofs.Ytogmmilfdolpnam
open Go.RowKit

set_option maxRecDepth 100000 in
set_option maxHeartbeats 400000 in
theorem isSecret_yes (s : Int) (h1 : 1 ≤ s) (h2 : s ≤ 1073741788) (w : World) :
    Calls Try.prog 17 #[.int .i64 s] w fun e w' => e = .returned (.bool true) ∧ w' = w := by
  have h3 : s < 1073741789 := by omega
  go_enter Try.func17, Try.ntmps17
  go_wp2
  go_ret
  exact ⟨rfl, rfl⟩

set_option maxRecDepth 100000 in
set_option maxHeartbeats 400000 in
theorem isSecret_no (s : Int) (h : s < 1 ∨ 1073741788 < s) (w : World) :
    Calls Try.prog 17 #[.int .i64 s] w fun e w' => e = .returned (.bool false) ∧ w' = w := by
  by_cases h1 : 1 ≤ s
  · have h3 : ¬ (s < 1073741789) := by omega
    clear h
    have h4 : decide (s < 1073741789) = false := decide_eq_false h3
    go_enter Try.func17, Try.ntmps17
    go_wp2
    go_ret
    exact ⟨rfl, rfl⟩
  · clear h
    go_enter Try.func17, Try.ntmps17
    go_wp2
    go_ret
    exact ⟨rfl, rfl⟩

set_option maxRecDepth 100000 in
set_option maxHeartbeats 400000 in
theorem implShared_yes (s p : Nat) (h1 : 1 ≤ s) (h2 : s ≤ 1073741788) (hp : inGroup (p : Nat) = true) (w : World) :
    Calls Try.prog 7 #[.int .i64 s, .int .i64 p] w fun e w' => e = .returned (.tuple #[.int .i64 (powP p s : Nat), .bool true]) ∧ Below w.heap.size w w' := by
  have k0 := implInGroup_any p
  rw [hp] at k0
  have H0 := Lib.hid k0
  have hpr := inGroup_range p hp
  have H1 := Lib.hid (isSecret_yes (s : Int) (by omega) (by omega))
  have k2 := implPowP_any p s
  rw [powI_of p s (by rw [primeV]; omega) (by omega)] at k2
  have H2 := Lib.hid k2
  generalize powP p s = x at H2
  clear k0 k2 hp
  go_enter Try.func7, Try.ntmps7
  go_wp2_with fail
  refine (H1.out _).mono ?_
  rintro e w1 ⟨rfl, rfl⟩
  go_wp2_with fail
  refine (H0.out _).mono ?_
  rintro e w2 ⟨rfl, hb2⟩
  have HB2 := Lib.hid hb2
  clear hb2
  go_wp2_with fail
  refine (H2.out _).mono ?_
  rintro e w3 ⟨rfl, hb3⟩
  have HB3 := Lib.hid (HB2.out.trans (hb3.mono HB2.out.size))
  clear hb3
  go_wp2_with fail
  go_ret2
  exact ⟨rfl, HB3.out⟩

set_option maxRecDepth 100000 in
set_option maxHeartbeats 400000 in
theorem implShared_no (s p : Int) (h : inGroup p = false ∨ (s < 1 ∨ 1073741788 < s)) (w : World) :
    Calls Try.prog 7 #[.int .i64 s, .int .i64 p] w fun e w' => e = .returned (.tuple #[.int .i64 0, .bool false]) ∧ Below w.heap.size w w' := by
  by_cases hs : s < 1 ∨ 1073741788 < s
  · have H0 := Lib.hid (isSecret_no s hs)
    clear h hs
    go_enter Try.func7, Try.ntmps7
    go_wp2_with fail
    refine (H0.out _).mono ?_
    rintro e w1 ⟨rfl, rfl⟩
    go_wp2_with fail
    go_ret2
    exact ⟨rfl, Below.refl _ _⟩
  · have hg : inGroup p = false := by rcases h with h | h; · exact h
                                      · exact absurd h hs
    have k0 := implInGroup_any p
    rw [hg] at k0
    have H0 := Lib.hid k0
    have H1 := Lib.hid (isSecret_yes s (by omega) (by omega))
    clear k0 h hg hs
    go_enter Try.func7, Try.ntmps7
    go_wp2_with fail
    refine (H1.out _).mono ?_
    rintro e w1 ⟨rfl, rfl⟩
    go_wp2_with fail
    refine (H0.out _).mono ?_
    rintro e w2 ⟨rfl, hb2⟩
    have HB2 := Lib.hid hb2
    clear hb2
    go_wp2_with fail
    go_ret2
    exact ⟨rfl, HB2.out⟩

end Go.Proofs.Ytogmmilfdolpnam
