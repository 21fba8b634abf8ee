/-
  The given DropRoute.
-/
import Derived.Test.YtkfcoldjgijpcacPutSpec
import Derived.Test.YtkfcoldjgijpcacPrefEq
namespace Go.Proofs.Ytkfcoldjgijpcac
open Go.RowKit

/-- Whether a route has another prefix. -/
def other (a n : Int) (x : Rt) : Bool := !(x.1 == a && x.2.1 == n)
def dropP (xs : List Rt) (a n : Int) : List Rt := xs.filter (other a n)
/-- A boxed prefix in block w.heap.size, a row of routes of the call's own, what lies below as it was. -/
structure DH (w : World) (a n : Int) (v : Value) (os : List Rt) (X : World) : Prop where
  p : VarP w.heap.size PT (.int .i64 a) (.int .i64 n) X
  own : OwnR rtRec X (w.heap.size + 1) RT3 v os
  below : Below w.heap.size w X
theorem DH.next {w : World} {a n : Int} {v : Value} {os : List Rt} {X Y : World} (h : DH w a n v os X) (hb : Below X.heap.size X Y) : DH w a n v os Y := ⟨h.p.next hb, h.own.below hb, h.below.trans (hb.mono h.below.size)⟩
theorem DH.size {w : World} {a n : Int} {v : Value} {os : List Rt} {X : World} (h : DH w a n v os X) : w.heap.size + 1 ≤ X.heap.size := lt_of_block h.p.row
theorem DH.drewN {w : World} {a n : Int} {v : Value} {os : List Rt} {X : World} (h : DH w a n v os X) (m : Nat) : DH w a n v os (X.drewN m) := h.next (below_drewN (Below.refl _ X) m)
theorem DH.grow {w : World} {a n : Int} {v v' : Value} {os os' : List Rt} {X Y : World} (h : DH w a n v os X) (ho : OwnR rtRec Y (w.heap.size + 1) RT3 v' os') (hb : Below (w.heap.size + 1) X Y) : DH w a n v' os' Y :=
  ⟨⟨by rw [hb.block _ (by omega)]; exact h.p.row⟩, ho, h.below.trans (hb.mono (by omega))⟩
/-- How DropRoute ends. -/
def DropEnd (xs : List Rt) (a n : Int) (w : World) (e : Ending) (w' : World) : Prop :=
  ((RoutesP xs ∧ (dropP xs a n).length ≠ xs.length) ∧ ∃ v', e = .returned (.tuple #[v', .bool true]) ∧ OwnR rtRec w' w.heap.size RT3 v' (dropP xs a n)) ∨ (¬ (RoutesP xs ∧ (dropP xs a n).length ≠ xs.length) ∧ ∃ v', e = .returned (.tuple #[v', .bool false]) ∧ OwnR rtRec w' w.heap.size RT3 v' xs)

end Go.Proofs.Ytkfcoldjgijpcac
