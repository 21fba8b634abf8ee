/-
  A byte that is drawn: it lies in 0 .. 255, the cursor stays one, and no other block is written.
-/
import Derived.Test.YtogmmilfdolpnaaDoorRows
import Derived.Test.YtogmmilfdolpnaaDoorKit
import Derived.Test.YtogmmilfdolpnaaDoorPlainCur
import Derived.Deep.QuietTactic
namespace Go.Proofs.YtogmmilfdolpnaaDoor
open Go.RowKit

set_option maxRecDepth 100000 in
theorem byte_out (c len cap i : Nat) (a : Option Addr) (h : Int) (w : World) (hi : ¬ i < len)
    (c0 : w.cell? ⟨c, 0, none⟩ = some (.slice a len cap)) (c1 : w.cell? ⟨c, 1, none⟩ = some (.int .i64 i)) (c2 : w.cell? ⟨c, 2, none⟩ = some (.int .i64 h))
    (f2 : w.frozen? ⟨c, 2, none⟩ = false) :
    Calls Tryd.prog 52 #[.pointer (some ⟨c, 0, none⟩)] w fun e w' => ∃ x h' : Int, ∃ n m : Nat, 0 ≤ x ∧ x ≤ 255 ∧ e = .returned (.int .i64 x) ∧ w' = ((w.setCell ⟨c, 2, none⟩ (.int .i64 h')).drewN n).drewN m := by
  go_enter Tryd.func52, Tryd.ntmps52
  go_wp2
  go_quiet (fail)
  go_wp2
  go_quiet (fail)
  go_wp2
  go_ret
  exact ⟨_, _, _, _, (and_mask _ 255 (by decide)).1, (and_mask _ 255 (by decide)).2, rfl, rfl⟩

set_option maxRecDepth 100000 in
theorem byte_in (c len cap i b off : Nat) (h z : Int) (w : World) (hi : i < len) (hlen : len ≤ 1048576) (hbc : b < c) (_ : 0 ≤ z) (_ : z ≤ 255)
    (c0 : w.cell? ⟨c, 0, none⟩ = some (.slice (some ⟨b, off, none⟩) len cap)) (c1 : w.cell? ⟨c, 1, none⟩ = some (.int .i64 i)) (c2 : w.cell? ⟨c, 2, none⟩ = some (.int .i64 h))
    (hz : w.cell? ⟨b, off + i, none⟩ = some (.int .u8 z)) (f1 : w.frozen? ⟨c, 1, none⟩ = false) (f2 : w.frozen? ⟨c, 2, none⟩ = false) :
    Calls Tryd.prog 52 #[.pointer (some ⟨c, 0, none⟩)] w fun e w' => ∃ x h' : Int, ∃ n : Nat, 0 ≤ x ∧ x ≤ 255 ∧ e = .returned (.int .i64 x) ∧ w' = ((w.setCell ⟨c, 2, none⟩ (.int .i64 h')).drewN n).setCell ⟨c, 1, none⟩ (.int .i64 ((i : Int) + 1)) := by
  have hne : b ≠ c := by omega
  go_enter Tryd.func52, Tryd.ntmps52
  go_wp2
  go_quiet (fail)
  go_wp2
  go_quiet (fail)
  go_wp2
  go_quiet (fail)
  go_wp2
  go_ret
  exact ⟨_, _, _, (and_mask _ 255 (by decide)).1, (and_mask _ 255 (by decide)).2, rfl, rfl⟩

theorem byte_any {c : Nat} {a : Option Addr} {len cap : Nat} (w : World) (H : Cur c a len cap w) :
    Calls Tryd.prog 52 #[.pointer (some ⟨c, 0, none⟩)] w (DrewInt 255 c a len cap w) := by
  obtain ⟨i, hi, c1⟩ := H.c1
  obtain ⟨h, c2⟩ := H.c2
  have c0 := H.c0
  have f1 := H.f1
  have f2 := H.f2
  rcases Nat.lt_or_ge i len with hlt | hge
  · obtain ⟨b, off, z, rfl, hbc, hz, hz0, hz1⟩ := H.bytes i hlt
    refine (byte_in c len cap i b off h z w hlt H.few hbc hz0 hz1 c0 c1 c2 hz f1 f2).mono ?_
    rintro e w' ⟨x, h', n, x0, x1, rfl, rfl⟩
    have ho : Only c w (((w.setCell ⟨c, 2, none⟩ (.int .i64 h')).drewN n).setCell ⟨c, 1, none⟩ (.int .i64 ((i : Int) + 1))) := ((Only.setCell 2 _).drewN n).trans (.setCell 1 _)
    refine ⟨x, x0, x1, rfl, H.turn ho ?_ ⟨i + 1, hlt, ?_⟩ ⟨h', ?_⟩ ?_ ?_, ho⟩
    · rw [set_off _ _ _ _ _ (by decide), World.cell?_drewN, set_off _ _ _ _ _ (by decide)]
      exact c0
    · exact set_on _ _ _ (.int .i64 i) _ (by rw [World.cell?_drewN, set_off _ _ _ _ _ (by decide)]; exact c1)
    · rw [set_off _ _ _ _ _ (by decide), World.cell?_drewN, set_on _ _ _ _ _ c2]
    · simp [f1]
    · simp [f2]
  · refine (byte_out c len cap i a h w (by omega) c0 c1 c2 f2).mono ?_
    rintro e w' ⟨x, h', n, m, x0, x1, rfl, rfl⟩
    have ho : Only c w (((w.setCell ⟨c, 2, none⟩ (.int .i64 h')).drewN n).drewN m) := ((Only.setCell 2 _).drewN n).drewN m
    refine ⟨x, x0, x1, rfl, H.turn ho ?_ ⟨i, hi, ?_⟩ ⟨h', ?_⟩ ?_ ?_, ho⟩
    · rw [World.cell?_drewN, World.cell?_drewN, set_off _ _ _ _ _ (by decide)]
      exact c0
    · rw [World.cell?_drewN, World.cell?_drewN, set_off _ _ _ _ _ (by decide)]
      exact c1
    · rw [World.cell?_drewN, World.cell?_drewN, set_on _ _ _ _ _ c2]
    · simp [f1]
    · simp [f2]

end Go.Proofs.YtogmmilfdolpnaaDoor
