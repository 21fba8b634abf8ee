/-
  The program's PublicOf and SharedOf: what they answer.
  Signatures compared as values.
-/
import Derived.Test.YtkjjdoadjhjmbaeGreatDoorJ20
import Derived.Test.YtkjjdoadjhjmbaeGreatDoorRows
import Derived.Test.YtkjjdoadjhjmbaeGreatDoorJ03
import Derived.Laws.StructEq
namespace Go.Proofs.YtkjjdoadjhjmbaeGreatDoor
open Go.RowKit

set_option maxRecDepth 100000 in
set_option maxHeartbeats 400000 in
theorem isSecret_yes (s : Int) (h1 : 1 ≤ s) (h2 : s ≤ 1073741788) (w : World) :
    Calls Tryz.prog 58 #[.int .i64 s] w fun e w' => e = .returned (.bool true) ∧ w' = w := by
  have h3 : s < 1073741789 := by omega
  go_enter Tryz.func58, Tryz.ntmps58
  go_wp2
  go_ret
  exact ⟨rfl, rfl⟩

set_option maxRecDepth 100000 in
set_option maxHeartbeats 400000 in
theorem isSecret_no (s : Int) (h : s < 1 ∨ 1073741788 < s) (w : World) :
    Calls Tryz.prog 58 #[.int .i64 s] w fun e w' => e = .returned (.bool false) ∧ w' = w := by
  by_cases h1 : 1 ≤ s
  · have h3 : ¬ (s < 1073741789) := by omega
    clear h
    have h4 : decide (s < 1073741789) = false := decide_eq_false h3
    go_enter Tryz.func58, Tryz.ntmps58
    go_wp2
    go_ret
    exact ⟨rfl, rfl⟩
  · clear h
    go_enter Tryz.func58, Tryz.ntmps58
    go_wp2
    go_ret
    exact ⟨rfl, rfl⟩

set_option maxRecDepth 100000 in
set_option maxHeartbeats 400000 in
theorem implPublicOf_yes (s : Nat) (h1 : 1 ≤ s) (h2 : s ≤ 1073741788) (w : World) :
    Calls Tryz.prog 41 #[.int .i64 s] w fun e w' => e = .returned (.int .i64 (publicP s : Nat)) ∧ Below w.heap.size w w' := by
  have H0 := Lib.hid (isSecret_yes (s : Int) (by omega) (by omega))
  have hp := implPowP_any 4 (s : Int)
  have e1 : powI 4 (s : Nat) = publicP s := powI_pow s (by omega)
  rw [e1] at hp
  have HP := Lib.hid hp
  generalize publicP s = p at HP
  clear hp e1
  go_enter Tryz.func41, Tryz.ntmps41
  go_wp2_with fail
  refine (H0.out _).mono ?_
  rintro e w1 ⟨rfl, rfl⟩
  go_wp2_with fail
  refine (HP.out _).mono ?_
  rintro e w2 ⟨rfl, hb2⟩
  have HB2 := Lib.hid hb2
  clear hb2
  go_wp2_with fail
  go_ret
  exact ⟨rfl, HB2.out⟩

set_option maxRecDepth 100000 in
set_option maxHeartbeats 400000 in
theorem implPublicOf_no (s : Int) (h : s < 1 ∨ 1073741788 < s) (w : World) :
    Calls Tryz.prog 41 #[.int .i64 s] w fun e w' => e = .returned (.int .i64 0) ∧ Below w.heap.size w w' := by
  have H0 := Lib.hid (isSecret_no s h)
  clear h
  go_enter Tryz.func41, Tryz.ntmps41
  go_wp2_with fail
  refine (H0.out _).mono ?_
  rintro e w1 ⟨rfl, rfl⟩
  go_wp2_with fail
  go_ret
  exact ⟨rfl, Below.refl _ _⟩

set_option maxRecDepth 100000 in
set_option maxHeartbeats 400000 in
theorem implShared_yes (s p : Nat) (h1 : 1 ≤ s) (h2 : s ≤ 1073741788) (hp : inGroup (p : Nat) = true) (w : World) :
    Calls Tryz.prog 30 #[.int .i64 s, .int .i64 p] w fun e w' => e = .returned (.tuple #[.int .i64 (powP p s : Nat), .bool true]) ∧ Below w.heap.size w w' := by
  have k0 := implInGroup_any p
  rw [hp] at k0
  have H0 := Lib.hid k0
  have hpr := inGroup_range p hp
  have H1 := Lib.hid (isSecret_yes (s : Int) (by omega) (by omega))
  have k2 := implPowP_any p s
  rw [powI_of p s (by rw [primeV]; omega) (by omega)] at k2
  have H2 := Lib.hid k2
  generalize powP p s = x at H2
  clear k0 k2 hp
  go_enter Tryz.func30, Tryz.ntmps30
  go_wp2_with fail
  refine (H1.out _).mono ?_
  rintro e w1 ⟨rfl, rfl⟩
  go_wp2_with fail
  refine (H0.out _).mono ?_
  rintro e w2 ⟨rfl, hb2⟩
  have HB2 := Lib.hid hb2
  clear hb2
  go_wp2_with fail
  refine (H2.out _).mono ?_
  rintro e w3 ⟨rfl, hb3⟩
  have HB3 := Lib.hid (HB2.out.trans (hb3.mono HB2.out.size))
  clear hb3
  go_wp2_with fail
  go_ret2
  exact ⟨rfl, HB3.out⟩

set_option maxRecDepth 100000 in
set_option maxHeartbeats 400000 in
theorem implShared_no (s p : Int) (h : inGroup p = false ∨ (s < 1 ∨ 1073741788 < s)) (w : World) :
    Calls Tryz.prog 30 #[.int .i64 s, .int .i64 p] w fun e w' => e = .returned (.tuple #[.int .i64 0, .bool false]) ∧ Below w.heap.size w w' := by
  by_cases hs : s < 1 ∨ 1073741788 < s
  · have H0 := Lib.hid (isSecret_no s hs)
    clear h hs
    go_enter Tryz.func30, Tryz.ntmps30
    go_wp2_with fail
    refine (H0.out _).mono ?_
    rintro e w1 ⟨rfl, rfl⟩
    go_wp2_with fail
    go_ret2
    exact ⟨rfl, Below.refl _ _⟩
  · have hg : inGroup p = false := by rcases h with h | h; · exact h
                                      · exact absurd h hs
    have k0 := implInGroup_any p
    rw [hg] at k0
    have H0 := Lib.hid k0
    have H1 := Lib.hid (isSecret_yes s (by omega) (by omega))
    clear k0 h hg hs
    go_enter Tryz.func30, Tryz.ntmps30
    go_wp2_with fail
    refine (H1.out _).mono ?_
    rintro e w1 ⟨rfl, rfl⟩
    go_wp2_with fail
    refine (H0.out _).mono ?_
    rintro e w2 ⟨rfl, hb2⟩
    have HB2 := Lib.hid hb2
    clear hb2
    go_wp2_with fail
    go_ret2
    exact ⟨rfl, HB2.out⟩

end Go.Proofs.YtkjjdoadjhjmbaeGreatDoor
namespace Go.Proofs.YtkjjdoadjhjmbaeGreatDoor
open Go.RowKit

theorem sigFields : Tryz.prog.underlying 85 = some (.struct (Tryz.prog.fieldsOf 85)) := by kernel_rfl
theorem sigStood : Tryz.prog.stoodInHeld 85 = false := by kernel_rfl
theorem sigGuard : Tryz.prog.eqGuardType Tryz.prog.depth 85 = false := by kernel_rfl
theorem sig_eq (a b c d : Int) (w : World) : (Op.equalIn 10000 85 (.agg #[.int .i64 a, .int .i64 b]) (.agg #[.int .i64 c, .int .i64 d])).run Tryz.prog w = .ok (a == c && b == d) w := by
  have u3 := Tryz.underlying3
  have a3 := Tryz.isAgg3
  have z3 := Tryz.sizeOf3
  rw [show (10000 : Nat) = 9999 + 1 from rfl, run_equalIn_agg w 9999 85 _ _ sigFields sigStood]
  simp only [Program.fieldsOf, Tryz.underlying85]
  go_simp
  by_cases h1 : a = c <;> by_cases h2 : b = d <;> simp [h1, h2]
theorem sig_same (a b : Int) (w : World) : (Op.equalIn 10000 85 (.agg #[.int .i64 a, .int .i64 b]) (.agg #[.int .i64 a, .int .i64 b])).run Tryz.prog w = .ok true w := by
  rw [sig_eq]
  simp

end Go.Proofs.YtkjjdoadjhjmbaeGreatDoor
