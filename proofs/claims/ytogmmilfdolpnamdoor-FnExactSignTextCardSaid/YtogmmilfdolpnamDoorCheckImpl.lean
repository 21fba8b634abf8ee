/-
  The program's CheckText: what it answers.
-/
import Derived.Test.YtogmmilfdolpnamDoorSignImpl
namespace Go.Proofs.YtogmmilfdolpnamDoor
open Go.RowKit

set_option maxRecDepth 100000 in
set_option maxHeartbeats 400000 in
theorem implCheck_group (p : Int) (m : ByteArray) (E S : Int) (h : inGroup p = false) (w : World) :
    Calls Tryd.prog 10 #[.int .i64 p, .string m, .agg #[.int .i64 E, .int .i64 S]] w fun e w' => e = .returned (.bool false) ∧ Below w.heap.size w w' := by
  have k0 := implInGroup_any p
  rw [h] at k0
  have H0 := Lib.hid k0
  have P0 := Lib.hid (PV.new w 23 (.int .i64 E) (.int .i64 S))
  clear k0 h
  go_enter Tryd.func10, Tryd.ntmps10
  go_wp2_with fail
  refine (H0.out _).mono ?_
  rintro e w1 ⟨rfl, hb1⟩
  have P1 := Lib.hid (P0.out.next hb1)
  clear hb1
  go_wp2_with fail
  go_ret
  exact ⟨rfl, P1.out.below⟩

set_option maxRecDepth 100000 in
set_option maxHeartbeats 400000 in
theorem implCheck_sig (p : Int) (m : ByteArray) (E S : Int) (hp : inGroup p = true) (h : (E < 0 ∨ 1073741788 < E) ∨ (S < 0 ∨ 1073741788 < S)) (w : World) :
    Calls Tryd.prog 10 #[.int .i64 p, .string m, .agg #[.int .i64 E, .int .i64 S]] w fun e w' => e = .returned (.bool false) ∧ Below w.heap.size w w' := by
  have k0 := implInGroup_any p
  rw [hp] at k0
  have H0 := Lib.hid k0
  have H1 := Lib.hid (isRight_no E S h)
  have P0 := Lib.hid (PV.new w 23 (.int .i64 E) (.int .i64 S))
  clear k0 hp h
  go_enter Tryd.func10, Tryd.ntmps10
  go_wp2_with fail
  refine (H0.out _).mono ?_
  rintro e w1 ⟨rfl, hb1⟩
  have P1 := Lib.hid (P0.out.next hb1)
  have c0 := P1.out.v.c0
  have c1 := P1.out.v.c1
  clear hb1
  go_wp2_with fail
  refine (H1.out _).mono ?_
  rintro e w2 ⟨rfl, hb2⟩
  have P2 := Lib.hid (P1.out.next hb2)
  clear hb2
  go_wp2_with fail
  go_ret
  exact ⟨rfl, P2.out.below⟩

set_option maxRecDepth 100000 in
set_option maxHeartbeats 1600000 in
theorem implCheck_in (p : Nat) (m : ByteArray) (E S : Nat) (hp : inGroup (p : Nat) = true) (hE : E < 1073741789) (hS : S < 1073741789) (hm : m.size ≤ 300000000) (w : World) (hK : LaidK w) :
    Calls Tryd.prog 10 #[.int .i64 p, .string m, .agg #[.int .i64 E, .int .i64 S]] w fun e w' => e = .returned (.bool ((E : Int) == (chalP (backP p E S) p m : Nat))) ∧ Below w.heap.size w w' := by
  have HK := Lib.hid hK
  have k0 := implInGroup_any p
  rw [hp] at k0
  have H0 := Lib.hid k0
  have hpr := inGroup_range p hp
  have H1 := Lib.hid (isRight_yes E S hE hS)
  have P0 := Lib.hid (PV.new w 23 (.int .i64 E) (.int .i64 S))
  have k3 := implPowP_any 4 (S : Nat)
  rw [powI_pow S (by omega)] at k3
  have hsub : (1073741789 : Int) - (E : Int) = ((1073741789 - E : Nat) : Int) := by omega
  have k4 := implPowP_any p ((1073741789 : Int) - (E : Int))
  rw [hsub, powI_of p (1073741789 - E) (by rw [primeV]; omega) (by omega), ← hsub] at k4
  have hx := powP_few 4 S
  have hy := powP_few p (1073741789 - E)
  have k5 := implMulP_any (powP 4 S : Nat) (powP p (1073741789 - E) : Nat)
  rw [mulP_nat _ _ hx hy] at k5
  have hB : powP 4 S * powP p (1073741789 - E) % prime = backP p E S := rfl
  rw [hB] at k5
  have hb := backP_lt p E S
  have k6 := implChallenge_yes (backP p E S) p m (by omega) (by omega) (by omega)
  obtain ⟨x, X1⟩ : ∃ n, Hid (n = powP 4 S) := ⟨_, rfl⟩
  obtain ⟨y, Y1⟩ : ∃ n, Hid (n = powP p (1073741789 - E)) := ⟨_, rfl⟩
  obtain ⟨r, R1⟩ : ∃ n, Hid (n = backP p E S) := ⟨_, rfl⟩
  rw [← X1.out] at k3 k5
  rw [← Y1.out] at k4 k5
  rw [← R1.out] at k5 k6 ⊢
  obtain ⟨c, C1⟩ : ∃ n, Hid (n = chalP r p m) := ⟨_, rfl⟩
  rw [← C1.out] at k6 ⊢
  have hw : IntKind.i64.wrap ((1073741789 : Int) - (E : Int)) = (1073741789 : Int) - (E : Int) := by rw [IntKind.wrap_i64]; omega
  have K3 : Hid (∀ X, (X.cell? ⟨w.heap.size, 0, none⟩ = some (.int .i64 E) ∧ X.cell? ⟨w.heap.size, 1, none⟩ = some (.int .i64 S) ∧ PV w 23 (.int .i64 E) (.int .i64 S) X) → Calls Tryd.prog 21 #[.int .i64 4, .int .i64 S] X fun e Y => e = .returned (.int .i64 x) ∧ (Y.cell? ⟨w.heap.size, 0, none⟩ = some (.int .i64 E) ∧ Y.cell? ⟨w.heap.size, 1, none⟩ = some (.int .i64 S) ∧ PV w 23 (.int .i64 E) (.int .i64 S) Y)) := fun X hX => by
    refine (k3 X).mono ?_
    rintro e Y ⟨rfl, hb⟩
    exact ⟨rfl, (hX.2.2.next hb).two⟩
  have K4 : Hid (∀ X, (X.cell? ⟨w.heap.size, 0, none⟩ = some (.int .i64 E) ∧ X.cell? ⟨w.heap.size, 1, none⟩ = some (.int .i64 S) ∧ PV w 23 (.int .i64 E) (.int .i64 S) X) → Calls Tryd.prog 21 #[.int .i64 p, .int .i64 ((1073741789 : Int) - (E : Int))] X fun e Y => e = .returned (.int .i64 y) ∧ (Y.cell? ⟨w.heap.size, 0, none⟩ = some (.int .i64 E) ∧ Y.cell? ⟨w.heap.size, 1, none⟩ = some (.int .i64 S) ∧ PV w 23 (.int .i64 E) (.int .i64 S) Y)) := fun X hX => by
    refine (k4 X).mono ?_
    rintro e Y ⟨rfl, hb⟩
    exact ⟨rfl, (hX.2.2.next hb).two⟩
  have K5 : Hid (∀ X, (X.cell? ⟨w.heap.size, 0, none⟩ = some (.int .i64 E) ∧ X.cell? ⟨w.heap.size, 1, none⟩ = some (.int .i64 S) ∧ PV w 23 (.int .i64 E) (.int .i64 S) X) → Calls Tryd.prog 30 #[.int .i64 x, .int .i64 y] X fun e Y => e = .returned (.int .i64 r) ∧ (Y.cell? ⟨w.heap.size, 0, none⟩ = some (.int .i64 E) ∧ Y.cell? ⟨w.heap.size, 1, none⟩ = some (.int .i64 S) ∧ PV w 23 (.int .i64 E) (.int .i64 S) Y)) := fun X hX => by
    refine (k5 X).mono ?_
    rintro e Y ⟨rfl, hb⟩
    exact ⟨rfl, (hX.2.2.next hb).two⟩
  have K6 : Hid (∀ X, (X.cell? ⟨w.heap.size, 0, none⟩ = some (.int .i64 E) ∧ X.cell? ⟨w.heap.size, 1, none⟩ = some (.int .i64 S) ∧ PV w 23 (.int .i64 E) (.int .i64 S) X) → Calls Tryd.prog 20 #[.int .i64 r, .int .i64 p, .string m] X fun e Y => e = .returned (.int .i64 c) ∧ (Y.cell? ⟨w.heap.size, 0, none⟩ = some (.int .i64 E) ∧ Y.cell? ⟨w.heap.size, 1, none⟩ = some (.int .i64 S) ∧ PV w 23 (.int .i64 E) (.int .i64 S) Y)) := fun X hX => by
    refine (k6 X (HK.out.stays hX.2.2.below (Nat.le_refl _))).mono ?_
    rintro e Y ⟨rfl, hb⟩
    exact ⟨rfl, (hX.2.2.next hb).two⟩
  clear k0 k3 k4 k5 k6 hsub hx hy hB hb X1 Y1 R1 C1 hp hK
  go_enter Tryd.func10, Tryd.ntmps10
  go_wp2_with fail
  refine (H0.out _).mono ?_
  rintro e w1 ⟨rfl, hb1⟩
  have Q1 := Lib.hid (P0.out.next hb1)
  have c0 := Q1.out.v.c0
  have c1 := Q1.out.v.c1
  clear hb1
  go_wp2_with fail
  refine (H1.out _).mono ?_
  rintro e w2 ⟨rfl, hb2⟩
  have Q2 := Lib.hid (Q1.out.next hb2)
  clear hb2 c0 c1
  go_wp2_with fail
  go_region_held3 (fun X => X.cell? ⟨w.heap.size, 0, none⟩ = some (.int .i64 E) ∧ X.cell? ⟨w.heap.size, 1, none⟩ = some (.int .i64 S) ∧ PV w 23 (.int .i64 E) (.int .i64 S) X) (first | (with_reducible assumption) | (with_reducible exact (PV.drew Q2.out).two)) (first | (go_at_call_of 21 (Value.int IntKind.i64 4); refine (K3.out _ (by assumption)).mono ?_; rintro e v1 ⟨rfl, hS1⟩) | (go_at_call_of 21 (Value.int IntKind.i64 (p : Int)); refine (K4.out _ (by assumption)).mono ?_; rintro e v1 ⟨rfl, hS1⟩) | (go_at_call 30; refine (K5.out _ (by assumption)).mono ?_; rintro e v1 ⟨rfl, hS1⟩))
  all_goals
    have P1 := Lib.hid hS1.2.2
    clear hS1
    go_wp2_with fail
    go_region_held3 (fun X => X.cell? ⟨w.heap.size, 0, none⟩ = some (.int .i64 E) ∧ X.cell? ⟨w.heap.size, 1, none⟩ = some (.int .i64 S) ∧ PV w 23 (.int .i64 E) (.int .i64 S) X) (first | (with_reducible assumption) | (with_reducible exact (PV.drew P1.out).two)) (first | (go_at_call 20; refine (K6.out _ (by assumption)).mono ?_; rintro e v1 ⟨rfl, hS2⟩))
    all_goals
      go_wp2_with fail
      go_ret
      exact ⟨rfl, hS2.2.2.below⟩

end Go.Proofs.YtogmmilfdolpnamDoor
