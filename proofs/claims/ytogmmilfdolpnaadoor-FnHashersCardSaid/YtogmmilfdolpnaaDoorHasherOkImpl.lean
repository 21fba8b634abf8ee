/-
  The program's hashers: whether one is right.
-/
import Derived.Test.YtogmmilfdolpnaaDoorRows
import Derived.Test.YtogmmilfdolpnaaDoorKit
import Derived.Test.YtogmmilfdolpnaaDoorPlainHasher
import Derived.Deep.RegionHeld3
import Derived.BigQuiet
import Derived.Deep.QuietTactic
import Derived.Deep.LoopGhost
import Derived.Deep.DeepCutAuto
namespace Go.Proofs.YtogmmilfdolpnaaDoor
open Go.RowKit

set_option maxRecDepth 100000 in
set_option maxHeartbeats 400000 in
theorem implHasherOk_yes (st rest : ByteArray) (n : Int) (h : HOk st rest n) (w : World) :
    Calls Tryd.prog 29 #[.agg #[.string st, .string rest, .int .i64 n]] w fun e w' => e = .returned (.bool true) ∧ Below w.heap.size w w' := by
  obtain ⟨h1, h2, h3, h4, h5⟩ := h
  have a1 : ((st.size : Int) == 32) = true := by rw [h1]; rfl
  have a2 : (rest.size : Int) < 64 := by omega
  have a5 : n.tmod 64 = (rest.size : Int) := by rw [Int.tmod_eq_emod_of_nonneg h3]; exact h5
  clear h1 h2 h5
  go_enter Tryd.func29, Tryd.ntmps29
  go_wp2_with fail
  go_ret
  exact ⟨rfl, (Below.refl _ _).alloc (Nat.le_refl _) _⟩

set_option maxRecDepth 100000 in
set_option maxHeartbeats 400000 in
theorem implHasherOk_no (st rest : ByteArray) (n : Int) (h : ¬ HOk st rest n) (w : World) :
    Calls Tryd.prog 29 #[.agg #[.string st, .string rest, .int .i64 n]] w fun e w' => e = .returned (.bool false) ∧ Below w.heap.size w w' := by
  by_cases h1 : st.size = 32
  · have a1 : ((st.size : Int) == 32) = true := by rw [h1]; rfl
    by_cases h2 : rest.size < 64
    · have a2 : (rest.size : Int) < 64 := by omega
      by_cases h3 : 0 ≤ n
      · by_cases h4 : n ≤ 1000000000
        · have h5 : n % 64 ≠ (rest.size : Int) := fun e => h ⟨h1, h2, h3, h4, e⟩
          have a5 : ((rest.size : Int) == n.tmod 64) = false := beq_eq_false_iff_ne.2 (by rw [Int.tmod_eq_emod_of_nonneg h3]; exact fun e => h5 e.symm)
          have a6 : ((rest.size : Int) == n % 64) = false := beq_eq_false_iff_ne.2 (fun e => h5 e.symm)
          clear h h1 h2 h5
          go_enter Tryd.func29, Tryd.ntmps29
          go_wp2_with fail
          go_ret
          exact ⟨rfl, (Below.refl _ _).alloc (Nat.le_refl _) _⟩
        · have a4 : decide (n ≤ 1000000000) = false := decide_eq_false h4
          clear h h1 h2 h4
          go_enter Tryd.func29, Tryd.ntmps29
          go_wp2_with fail
          go_ret
          exact ⟨rfl, (Below.refl _ _).alloc (Nat.le_refl _) _⟩
      · have a3 : decide (0 ≤ n) = false := decide_eq_false h3
        clear h h1 h2 h3
        go_enter Tryd.func29, Tryd.ntmps29
        go_wp2_with fail
        go_ret
        exact ⟨rfl, (Below.refl _ _).alloc (Nat.le_refl _) _⟩
    · have a2 : decide ((rest.size : Int) < 64) = false := decide_eq_false (by omega)
      clear h h1 h2
      go_enter Tryd.func29, Tryd.ntmps29
      go_wp2_with fail
      go_ret
      exact ⟨rfl, (Below.refl _ _).alloc (Nat.le_refl _) _⟩
  · have a1 : ((st.size : Int) == 32) = false := beq_eq_false_iff_ne.2 (by omega)
    clear h h1
    go_enter Tryd.func29, Tryd.ntmps29
    go_wp2_with fail
    go_ret
    exact ⟨rfl, (Below.refl _ _).alloc (Nat.le_refl _) _⟩

end Go.Proofs.YtogmmilfdolpnaaDoor
