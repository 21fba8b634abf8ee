/-
  The given signatures: signed, checked, as bytes.
-/
import Derived.Test.YtogmmilfdolpnalDoorSignSpec
import Derived.Test.YtogmmilfdolpnalDoorVarTwo
import Derived.Deep.RegionHeld3
import Derived.BigQuiet
import Derived.Deep.QuietTactic
namespace Go.Proofs.YtogmmilfdolpnalDoor
open Go.RowKit

theorem powP_few (b e : Nat) : powP b e < 2147483579 := powP_lt b e
/-- A signature as one value. -/
def sigV (e s : Int) : Value := .agg #[.int .i64 e, .int .i64 s]

/-- Whether a signature is right in its bounds. -/
def SigIn (E S : Int) : Prop := (0 ≤ E ∧ E ≤ 1073741788) ∧ (0 ≤ S ∧ S ≤ 1073741788)

/-- Two variables of two cells: the result, and another. -/
structure PQ (w : World) (t : TypeId) (a b : Value) (x y : Value) (X : World) : Prop where
  one : PV w t a b X
  two : VarP (w.heap.size + 1) t x y X
theorem PQ.next {w : World} {t : TypeId} {a b x y : Value} {X Y : World} (h : PQ w t a b x y X) (hb : Below X.heap.size X Y) : PQ w t a b x y Y := ⟨h.one.next hb, h.two.next hb⟩

theorem PQ.set0 {w : World} {t : TypeId} {a b x y : Value} {X : World} (h : PQ w t a b x y X) (x' : Value) : PQ w t a b x' y (X.setCell ⟨w.heap.size + 1, 0, none⟩ x') :=
  ⟨⟨h.one.v.only (Only.setCell 0 x') (by omega), h.one.below.trans ((Only.setCell (c := w.heap.size + 1) 0 x').below (by omega) h.one.below.size)⟩, h.two.set0 x'⟩
theorem PQ.set1 {w : World} {t : TypeId} {a b x y : Value} {X : World} (h : PQ w t a b x y X) (y' : Value) : PQ w t a b x y' (X.setCell ⟨w.heap.size + 1, 1, none⟩ y') :=
  ⟨⟨h.one.v.only (Only.setCell 1 y') (by omega), h.one.below.trans ((Only.setCell (c := w.heap.size + 1) 1 y').below (by omega) h.one.below.size)⟩, h.two.set1 y'⟩
theorem PQ.new (w : World) (t : TypeId) (a b x y : Value) : PQ w t a b x y ((w.alloc (.cells #[a, b] t)).alloc (.cells #[x, y] t)) := by
  refine ⟨(PV.new w t a b).next ((Below.refl _ _).alloc (Nat.le_refl _) _), ?_⟩
  have h := VarP.new (w.alloc (.cells #[a, b] t)) t x y
  have e : (w.alloc (.cells #[a, b] t)).heap.size = w.heap.size + 1 := by simp
  rw [e] at h
  exact h

end Go.Proofs.YtogmmilfdolpnalDoor
