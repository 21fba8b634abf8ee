/-
  An element of a row taken out, where only new blocks are made; marks that are texts; measured rows.
-/
import Derived.Test.YtmgdhlodifkematJ05
namespace Go.Proofs.Ytmgdhlodifkemat
open Go.RowKit

theorem Zip.next {α : Type} {e : TypeId} {A : Lay α} {w w' : World} {b g cap : Nat} {f1 f2 f3 : List Nat} {u1 c u3 : List Value} {X : List α} {x : α} {Y : List α} (h : Zip e A w b g cap f1 f2 f3 u1 c u3 X x Y) (hb : Below w.heap.size w w') : Zip e A w' b g cap f1 f2 f3 u1 c u3 X x Y :=
  ⟨ownsRow_keep h.row (hb.block g h.lt.2), ownAll_keep A h.left (fun i hi => hb.block i (ownAll_blocks A h.left i hi).2), A.next h.mid hb, ownAll_keep A h.right (fun i hi => hb.block i (ownAll_blocks A h.right i hi).2), h.dup⟩
theorem markText_int (z : Int) (h1 : 1 ≤ z) (h2 : z ≤ 1000000000) (w : World) :
    Calls Try.prog 34 #[.int .i64 z] w fun e w' => e = .returned (.string (markTxt z)) ∧ Below w.heap.size w w' := by
  obtain ⟨n, rfl⟩ := Int.eq_ofNat_of_zero_le (show 0 ≤ z by omega)
  have h := markText_any n (by omega) (by omega) w
  unfold mark at h
  rw [digs_pos n (by omega)] at h
  exact h
/-- What is left, or -1. -/
def SzEnd (P : Prop) (left : Int) (e : Ending) : Prop := ∃ r : Int, e = .returned (.int .i64 r) ∧ (r = -1 ∨ (0 ≤ r ∧ r ≤ left ∧ P))

end Go.Proofs.Ytmgdhlodifkemat
