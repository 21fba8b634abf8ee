/-
  The given new hasher.
-/
import Derived.Test.YtogmmilfdolpnakDoorShaRoundSpec
import Derived.Test.YtogmmilfdolpnakDoorPlainHasher
import Derived.Test.YtogmmilfdolpnakDoorHasherOkSpec
namespace Go.Proofs.YtogmmilfdolpnakDoor
open Go.RowKit

/-- A variable of three cells in a block of its own. -/
structure Var3 (r : Nat) (t : TypeId) (a b c : Value) (X : World) : Prop where
  row : X.heap[r]? = some (.cells #[a, b, c] t (0, 0))
theorem Var3.next {r : Nat} {t : TypeId} {a b c : Value} {X Y : World} (h : Var3 r t a b c X) (hb : Below X.heap.size X Y) : Var3 r t a b c Y := ⟨by rw [hb.block r (lt_of_block h.row)]; exact h.row⟩
theorem Var3.c0 {r : Nat} {t : TypeId} {a b c : Value} {X : World} (h : Var3 r t a b c X) : X.cell? ⟨r, 0, none⟩ = some a := by rw [cell_of_row X r 0 _ t (0, 0) h.row]; rfl
theorem Var3.c1 {r : Nat} {t : TypeId} {a b c : Value} {X : World} (h : Var3 r t a b c X) : X.cell? ⟨r, 1, none⟩ = some b := by rw [cell_of_row X r 1 _ t (0, 0) h.row]; rfl
theorem Var3.c2 {r : Nat} {t : TypeId} {a b c : Value} {X : World} (h : Var3 r t a b c X) : X.cell? ⟨r, 2, none⟩ = some c := by rw [cell_of_row X r 2 _ t (0, 0) h.row]; rfl
theorem Var3.free {r : Nat} {t : TypeId} {a b c : Value} {X : World} (h : Var3 r t a b c X) (j : Nat) : X.frozen? ⟨r, j, none⟩ = false := frozen_of_row X r j _ t h.row
theorem Var3.set3 {r : Nat} {t : TypeId} {a b c : Value} {X : World} (h : Var3 r t a b c X) (a' b' c' : Value) : Var3 r t a' b' c' (((X.setCell ⟨r, 0, none⟩ a').setCell ⟨r, 1, none⟩ b').setCell ⟨r, 2, none⟩ c') :=
  ⟨heap_setCell_same _ r 2 _ t c' (heap_setCell_same _ r 1 _ t b' (heap_setCell_same X r 0 _ t a' h.row))⟩
theorem Below.set3 {B r : Nat} {w X : World} (h : Below B w X) (hr : B ≤ r) (a b c : Value) : Below B w (((X.setCell ⟨r, 0, none⟩ a).setCell ⟨r, 1, none⟩ b).setCell ⟨r, 2, none⟩ c) :=
  ((h.setCell (p := ⟨r, 0, none⟩) hr a).setCell (p := ⟨r, 1, none⟩) hr b).setCell (p := ⟨r, 2, none⟩) hr c
theorem Var3.new (w : World) (t : TypeId) (a b c : Value) : Var3 w.heap.size t a b c (w.alloc (.cells #[a, b, c] t)) := ⟨heap_alloc_new w _⟩

end Go.Proofs.YtogmmilfdolpnakDoor
