/-
  A cursor laid over bytes.
-/
import Derived.Test.YtogmmilfdolpnaaDoorDrawBelow
namespace Go.Proofs.YtogmmilfdolpnaaDoor
open Go.RowKit

/-- How a cursor's making ends. -/
def DrewCur (a : Option Addr) (len cap : Nat) (w : World) (e : Ending) (w' : World) : Prop :=
  ∃ c : Nat, e = .returned (.pointer (some ⟨c, 0, none⟩)) ∧ w.heap.size ≤ c ∧ Cur c a len cap w' ∧ Below w.heap.size w w'

theorem drewCur_alloc (a : Option Addr) (len cap : Nat) (z : Int) (t : TypeId) (w : World) (H : Src a len w) :
    DrewCur a len cap w (.returned (.pointer (some ⟨w.heap.size, 0, none⟩))) (w.alloc (.cells #[.slice a len cap, .int .i64 0, .int .i64 z] t)) := by
  refine ⟨w.heap.size, rfl, Nat.le_refl _, ⟨H.few, by simp, ⟨0, Nat.zero_le _, by simp⟩, ⟨z, by simp⟩, by simp, by simp, fun j hj => ?_⟩, (Below.refl _ _).alloc (Nat.le_refl _) _⟩
  obtain ⟨b, off, x, ha, hs, hx, x0, x1⟩ := H.bytes j hj
  have hb := (Below.refl w.heap.size w).alloc (Nat.le_refl _) (.cells #[.slice a len cap, .int .i64 0, .int .i64 z] t)
  exact ⟨b, off, x, ha, hs, by rw [hb.cell (p := ⟨b, off + j, none⟩) hs]; exact hx, x0, x1⟩

set_option maxRecDepth 100000 in
set_option maxHeartbeats 800000 in
theorem new_any (a : Option Addr) (len cap : Nat) (w : World) (H : Src a len w) :
    Calls Tryd.prog 43 #[.slice a len cap] w (DrewCur a len cap w) := by
  have hlen := H.few
  have HS := Lib.hid H
  clear H
  go_enter Tryd.func43, Tryd.ntmps43
  go_wp2
  go_loopw [3, 4] (fun h i wr => ∃ k : Nat, ∃ z : Int, k ≤ len ∧ i = .int .i64 k ∧ h = .int .i64 z ∧ wr = w) (fun _ i _ => len - (intOf i).toNat)
  case atStart => exact ⟨0, _, Nat.zero_le _, rfl, rfl, rfl⟩
  case round =>
    obtain ⟨k, z, hk, rfl, rfl, rfl⟩ := hrel
    by_cases hlt : k < len
    · obtain ⟨b, off, x, rfl, hb, hx, x0, x1⟩ := HS.out.bytes k hlt
      have hlt2 : (k : Int) < (len : Int) := by omega
      by_cases h4 : (k : Int) < 4000
      · go_wp2
        go_roundw
        case rel => exact ⟨k + 1, _, by omega, by go_num, rfl, trivial⟩
        case measure => simp [intOf]; omega
      · go_wp2
        go_ret
        exact drewCur_alloc _ _ _ _ _ _ HS.out
    · go_wp2
      go_ret
      exact drewCur_alloc _ _ _ _ _ _ HS.out

end Go.Proofs.YtogmmilfdolpnaaDoor
