/-
  The given CheckText and SharedOf.
-/
import Derived.Test.YtogmmilfdolpnamDoorSignTextSpec
namespace Go.Proofs.YtogmmilfdolpnamDoor
open Go.RowKit

theorem inGroup_range (y : Int) (h : inGroup y = true) : 2 ≤ y ∧ y < 2147483579 := by
  unfold inGroup inGroupOf at h
  simp only [Bool.and_eq_true, decide_eq_true_eq] at h
  exact ⟨h.1, h.2.1⟩
theorem mulP_nat (x y : Nat) (hx : x < prime) (hy : y < prime) : mulP (x : Nat) (y : Nat) = x * y % prime := by
  unfold mulP
  rw [modP_nat, modP_nat, Nat.mod_eq_of_lt hx, Nat.mod_eq_of_lt hy]
theorem powI_of (b n : Nat) (hb : b < prime) (h : n ≤ 2147483579) : powI (b : Nat) (n : Nat) = powP b n := by
  rw [powI_nat _ n h, modP_nat, Nat.mod_eq_of_lt hb]
theorem backP_lt (p E S : Nat) : backP p E S < 2147483579 := Nat.mod_lt _ (by decide)

set_option maxRecDepth 100000 in
set_option maxHeartbeats 400000 in
theorem specCheck_group (p : Int) (m : ByteArray) (E S : Int) (h : inGroup p = false) (w : World) :
    Calls Tryd.prog 8 #[.int .i64 p, .string m, .agg #[.int .i64 E, .int .i64 S]] w fun e w' => e = .returned (.bool false) ∧ Below w.heap.size w w' := by
  have k0 := specInGroup_any p
  rw [h] at k0
  have H0 := Lib.hid k0
  have P0 := Lib.hid (PV.new w 23 (.int .i64 E) (.int .i64 S))
  clear k0 h
  go_enter Tryd.func8, Tryd.ntmps8
  go_wp2_with fail
  refine (H0.out _).mono ?_
  rintro e w1 ⟨rfl, rfl⟩
  go_wp2_with fail
  go_ret
  exact ⟨rfl, P0.out.below⟩

set_option maxRecDepth 100000 in
set_option maxHeartbeats 400000 in
theorem specCheck_sig (p : Int) (m : ByteArray) (E S : Int) (hp : inGroup p = true) (h : (E < 0 ∨ 1073741788 < E) ∨ (S < 0 ∨ 1073741788 < S)) (w : World) :
    Calls Tryd.prog 8 #[.int .i64 p, .string m, .agg #[.int .i64 E, .int .i64 S]] w fun e w' => e = .returned (.bool false) ∧ Below w.heap.size w w' := by
  have k0 := specInGroup_any p
  rw [hp] at k0
  have H0 := Lib.hid k0
  have P0 := Lib.hid (PV.new w 23 (.int .i64 E) (.int .i64 S))
  clear k0 hp
  by_cases h1 : E < 0 ∨ 1073741788 < E
  · have H1 := Lib.hid (inRange_no E 0 1073741788 h1)
    clear h h1
    go_enter Tryd.func8, Tryd.ntmps8
    go_wp2_with fail
    refine (H0.out _).mono ?_
    rintro e w1 ⟨rfl, rfl⟩
    go_wp2_with fail
    refine (H1.out _).mono ?_
    rintro e w2 ⟨rfl, rfl⟩
    go_wp2_with fail
    go_ret
    exact ⟨rfl, P0.out.below⟩
  · have H1 := Lib.hid (inRange_yes E 0 1073741788 (by omega) (by omega))
    have H2 := Lib.hid (inRange_no S 0 1073741788 (by omega))
    clear h h1
    go_enter Tryd.func8, Tryd.ntmps8
    go_wp2_with fail
    refine (H0.out _).mono ?_
    rintro e w1 ⟨rfl, rfl⟩
    go_wp2_with fail
    refine (H1.out _).mono ?_
    rintro e w2 ⟨rfl, rfl⟩
    go_wp2_with fail
    refine (H2.out _).mono ?_
    rintro e w3 ⟨rfl, rfl⟩
    go_wp2_with fail
    go_ret
    exact ⟨rfl, P0.out.below⟩

set_option maxRecDepth 100000 in
set_option maxHeartbeats 1600000 in
theorem specCheck_in (p : Nat) (m : ByteArray) (E S : Nat) (hp : inGroup (p : Nat) = true) (hE : E < 1073741789) (hS : S < 1073741789) (hm : m.size ≤ 300000000) (w : World) :
    Calls Tryd.prog 8 #[.int .i64 p, .string m, .agg #[.int .i64 E, .int .i64 S]] w fun e w' => e = .returned (.bool ((E : Int) == (chalP (backP p E S) p m : Nat))) ∧ Below w.heap.size w w' := by
  have k0 := specInGroup_any p
  rw [hp] at k0
  have H0 := Lib.hid k0
  have hpr := inGroup_range p hp
  have H1 := Lib.hid (inRange_yes (E : Int) 0 1073741788 (by omega) (by omega))
  have H2 := Lib.hid (inRange_yes (S : Int) 0 1073741788 (by omega) (by omega))
  have P0 := Lib.hid (PV.new w 23 (.int .i64 E) (.int .i64 S))
  have k3 := specPowP_any 4 (S : Nat)
  rw [powI_pow S (by omega)] at k3
  have hsub : (1073741789 : Int) - (E : Int) = ((1073741789 - E : Nat) : Int) := by omega
  have k4 := specPowP_any p ((1073741789 : Int) - (E : Int))
  rw [hsub, powI_of p (1073741789 - E) (by rw [primeV]; omega) (by omega), ← hsub] at k4
  have hx := powP_few 4 S
  have hy := powP_few p (1073741789 - E)
  have k5 := specMulP_any (powP 4 S : Nat) (powP p (1073741789 - E) : Nat)
  rw [mulP_nat _ _ hx hy] at k5
  have hB : powP 4 S * powP p (1073741789 - E) % prime = backP p E S := rfl
  rw [hB] at k5
  have hb := backP_lt p E S
  have k6 := specChallenge_yes (backP p E S) p m (by omega) (by omega) (by omega)
  obtain ⟨x, X1⟩ : ∃ n, Hid (n = powP 4 S) := ⟨_, rfl⟩
  obtain ⟨y, Y1⟩ : ∃ n, Hid (n = powP p (1073741789 - E)) := ⟨_, rfl⟩
  obtain ⟨r, R1⟩ : ∃ n, Hid (n = backP p E S) := ⟨_, rfl⟩
  rw [← X1.out] at k3 k5
  rw [← Y1.out] at k4 k5
  rw [← R1.out] at k5 k6 ⊢
  obtain ⟨c, C1⟩ : ∃ n, Hid (n = chalP r p m) := ⟨_, rfl⟩
  rw [← C1.out] at k6 ⊢
  have hw : IntKind.i64.wrap ((1073741789 : Int) - (E : Int)) = (1073741789 : Int) - (E : Int) := by rw [IntKind.wrap_i64]; omega
  have K3 : Hid (∀ X, (X.cell? ⟨w.heap.size, 0, none⟩ = some (.int .i64 E) ∧ X.cell? ⟨w.heap.size, 1, none⟩ = some (.int .i64 S) ∧ PV w 23 (.int .i64 E) (.int .i64 S) X) → Calls Tryd.prog 14 #[.int .i64 4, .int .i64 S] X fun e Y => e = .returned (.int .i64 x) ∧ (Y.cell? ⟨w.heap.size, 0, none⟩ = some (.int .i64 E) ∧ Y.cell? ⟨w.heap.size, 1, none⟩ = some (.int .i64 S) ∧ PV w 23 (.int .i64 E) (.int .i64 S) Y)) := fun X hX => by
    refine (k3 X).mono ?_
    rintro e Y ⟨rfl, rfl⟩
    exact ⟨rfl, hX⟩
  have K4 : Hid (∀ X, (X.cell? ⟨w.heap.size, 0, none⟩ = some (.int .i64 E) ∧ X.cell? ⟨w.heap.size, 1, none⟩ = some (.int .i64 S) ∧ PV w 23 (.int .i64 E) (.int .i64 S) X) → Calls Tryd.prog 14 #[.int .i64 p, .int .i64 ((1073741789 : Int) - (E : Int))] X fun e Y => e = .returned (.int .i64 y) ∧ (Y.cell? ⟨w.heap.size, 0, none⟩ = some (.int .i64 E) ∧ Y.cell? ⟨w.heap.size, 1, none⟩ = some (.int .i64 S) ∧ PV w 23 (.int .i64 E) (.int .i64 S) Y)) := fun X hX => by
    refine (k4 X).mono ?_
    rintro e Y ⟨rfl, rfl⟩
    exact ⟨rfl, hX⟩
  have K5 : Hid (∀ X, (X.cell? ⟨w.heap.size, 0, none⟩ = some (.int .i64 E) ∧ X.cell? ⟨w.heap.size, 1, none⟩ = some (.int .i64 S) ∧ PV w 23 (.int .i64 E) (.int .i64 S) X) → Calls Tryd.prog 27 #[.int .i64 x, .int .i64 y] X fun e Y => e = .returned (.int .i64 r) ∧ (Y.cell? ⟨w.heap.size, 0, none⟩ = some (.int .i64 E) ∧ Y.cell? ⟨w.heap.size, 1, none⟩ = some (.int .i64 S) ∧ PV w 23 (.int .i64 E) (.int .i64 S) Y)) := fun X hX => by
    refine (k5 X).mono ?_
    rintro e Y ⟨rfl, rfl⟩
    exact ⟨rfl, hX⟩
  have K6 : Hid (∀ X, (X.cell? ⟨w.heap.size, 0, none⟩ = some (.int .i64 E) ∧ X.cell? ⟨w.heap.size, 1, none⟩ = some (.int .i64 S) ∧ PV w 23 (.int .i64 E) (.int .i64 S) X) → Calls Tryd.prog 15 #[.int .i64 r, .int .i64 p, .string m] X fun e Y => e = .returned (.int .i64 c) ∧ (Y.cell? ⟨w.heap.size, 0, none⟩ = some (.int .i64 E) ∧ Y.cell? ⟨w.heap.size, 1, none⟩ = some (.int .i64 S) ∧ PV w 23 (.int .i64 E) (.int .i64 S) Y)) := fun X hX => by
    refine (k6 X).mono ?_
    rintro e Y ⟨rfl, hb⟩
    exact ⟨rfl, (hX.2.2.next hb).two⟩
  clear k0 k3 k4 k5 k6 hsub hx hy hB hb X1 Y1 R1 C1 hp
  go_enter Tryd.func8, Tryd.ntmps8
  go_wp2_with fail
  refine (H0.out _).mono ?_
  rintro e w1 ⟨rfl, rfl⟩
  go_wp2_with fail
  refine (H1.out _).mono ?_
  rintro e w2 ⟨rfl, rfl⟩
  go_wp2_with fail
  refine (H2.out _).mono ?_
  rintro e w3 ⟨rfl, rfl⟩
  go_wp2_with fail
  go_region_held3 (fun X => X.cell? ⟨w.heap.size, 0, none⟩ = some (.int .i64 E) ∧ X.cell? ⟨w.heap.size, 1, none⟩ = some (.int .i64 S) ∧ PV w 23 (.int .i64 E) (.int .i64 S) X) (first | (with_reducible assumption) | (with_reducible exact (PV.drew P0.out).two)) (first | (go_at_call_of 14 (Value.int IntKind.i64 4); refine (K3.out _ (by assumption)).mono ?_; rintro e v1 ⟨rfl, hS1⟩) | (go_at_call_of 14 (Value.int IntKind.i64 (p : Int)); refine (K4.out _ (by assumption)).mono ?_; rintro e v1 ⟨rfl, hS1⟩) | (go_at_call 27; refine (K5.out _ (by assumption)).mono ?_; rintro e v1 ⟨rfl, hS1⟩))
  all_goals
    have P1 := Lib.hid hS1.2.2
    clear hS1
    go_wp2_with fail
    go_region_held3 (fun X => X.cell? ⟨w.heap.size, 0, none⟩ = some (.int .i64 E) ∧ X.cell? ⟨w.heap.size, 1, none⟩ = some (.int .i64 S) ∧ PV w 23 (.int .i64 E) (.int .i64 S) X) (first | (with_reducible assumption) | (with_reducible exact (PV.drew P1.out).two)) (first | (go_at_call 15; refine (K6.out _ (by assumption)).mono ?_; rintro e v1 ⟨rfl, hS2⟩))
    all_goals
      go_wp2_with fail
      go_ret
      exact ⟨rfl, hS2.2.2.below⟩

end Go.Proofs.YtogmmilfdolpnamDoor
