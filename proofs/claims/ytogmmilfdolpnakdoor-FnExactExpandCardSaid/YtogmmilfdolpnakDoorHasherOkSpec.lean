/-
  The given hashers: whether one is right.
-/
import Derived.Test.YtogmmilfdolpnakDoorRows
import Derived.Test.YtogmmilfdolpnakDoorKit
import Derived.Test.YtogmmilfdolpnakDoorPlainHasher
import Derived.Test.YtogmmilfdolpnakDoorInRange
import Derived.Deep.RegionHeld3
import Derived.BigQuiet
import Derived.Deep.QuietTactic
import Derived.Deep.LoopGhost
import Derived.Deep.DeepCutAuto
namespace Go.Proofs.YtogmmilfdolpnakDoor
open Go.RowKit

set_option maxRecDepth 100000 in
set_option maxHeartbeats 400000 in
theorem specHasherOk_yes (st rest : ByteArray) (n : Int) (h : HOk st rest n) (w : World) :
    Calls Tryd.prog 18 #[.agg #[.string st, .string rest, .int .i64 n]] w fun e w' => e = .returned (.bool true) ∧ Below w.heap.size w w' := by
  obtain ⟨h1, h2, h3, h4, h5⟩ := h
  have a1 : ((st.size : Int) == 32) = true := by rw [h1]; rfl
  have a2 : (rest.size : Int) < 64 := by omega
  have a5 : n.tmod 64 = (rest.size : Int) := by rw [Int.tmod_eq_emod_of_nonneg h3]; exact h5
  have H1 := Lib.hid (inRange_yes n 0 1000000000 h3 h4)
  clear h1 h2 h5
  go_enter Tryd.func18, Tryd.ntmps18
  go_wp2_with fail
  refine (H1.out _).mono ?_
  rintro e w1 ⟨rfl, rfl⟩
  go_wp2_with fail
  go_ret
  exact ⟨rfl, (Below.refl _ _).alloc (Nat.le_refl _) _⟩

set_option maxRecDepth 100000 in
set_option maxHeartbeats 400000 in
theorem specHasherOk_no (st rest : ByteArray) (n : Int) (h : ¬ HOk st rest n) (w : World) :
    Calls Tryd.prog 18 #[.agg #[.string st, .string rest, .int .i64 n]] w fun e w' => e = .returned (.bool false) ∧ Below w.heap.size w w' := by
  by_cases h1 : st.size = 32
  · have a1 : ((st.size : Int) == 32) = true := by rw [h1]; rfl
    by_cases h2 : rest.size < 64
    · have a2 : (rest.size : Int) < 64 := by omega
      by_cases h3 : 0 ≤ n ∧ n ≤ 1000000000
      · have h5 : n % 64 ≠ (rest.size : Int) := fun e => h ⟨h1, h2, h3.1, h3.2, e⟩
        have a5 : (n.tmod 64 == (rest.size : Int)) = false := beq_eq_false_iff_ne.2 (by rw [Int.tmod_eq_emod_of_nonneg h3.1]; exact h5)
        have a6 : (n % 64 == (rest.size : Int)) = false := beq_eq_false_iff_ne.2 h5
        have H1 := Lib.hid (inRange_yes n 0 1000000000 h3.1 h3.2)
        have h30 := h3.1
        clear h h1 h2 h5 h3
        go_enter Tryd.func18, Tryd.ntmps18
        go_wp2_with fail
        refine (H1.out _).mono ?_
        rintro e w1 ⟨rfl, rfl⟩
        go_wp2_with fail
        go_ret
        exact ⟨rfl, (Below.refl _ _).alloc (Nat.le_refl _) _⟩
      · have H1 := Lib.hid (inRange_no n 0 1000000000 (by omega))
        clear h h1 h2 h3
        go_enter Tryd.func18, Tryd.ntmps18
        go_wp2_with fail
        refine (H1.out _).mono ?_
        rintro e w1 ⟨rfl, rfl⟩
        go_wp2_with fail
        go_ret
        exact ⟨rfl, (Below.refl _ _).alloc (Nat.le_refl _) _⟩
    · have a2 : decide ((rest.size : Int) < 64) = false := decide_eq_false (by omega)
      clear h h1 h2
      go_enter Tryd.func18, Tryd.ntmps18
      go_wp2_with fail
      go_ret
      exact ⟨rfl, (Below.refl _ _).alloc (Nat.le_refl _) _⟩
  · have a1 : ((st.size : Int) == 32) = false := beq_eq_false_iff_ne.2 (by omega)
    clear h h1
    go_enter Tryd.func18, Tryd.ntmps18
    go_wp2_with fail
    go_ret
    exact ⟨rfl, (Below.refl _ _).alloc (Nat.le_refl _) _⟩

end Go.Proofs.YtogmmilfdolpnakDoor
