/-
  The given TrieNew and TriePut.
-/
import Derived.Test.YtkfcoldjgijpcacTrieFindSpec
import Derived.Test.YtkfcoldjgijpcacPrefixSpec
namespace Go.Proofs.Ytkfcoldjgijpcac
open Go.RowKit

/-- What is put into a tree: the tree with it, or that as it is. -/
def PutTold (t : List Tw) (a n p : Int) (r : List Tw) (b : Bool) : Prop :=
  (b = true ∧ (TrieOkP t ∧ PrefOk a n ∧ (0 ≤ p ∧ p ≤ 99)) ∧ (putT t (bitsP a.toNat n.toNat) p).length ≤ 400 ∧ r = putT t (bitsP a.toNat n.toNat) p) ∨
  (b = false ∧ r = t ∧ ¬ ((TrieOkP t ∧ PrefOk a n ∧ (0 ≤ p ∧ p ≤ 99)) ∧ (putT t (bitsP a.toNat n.toNat) p).length ≤ 400))
def PutGives (t : List Tw) (a n p : Int) (w : World) (e : Ending) (w' : World) : Prop :=
  ∃ v fp r b, e = .returned (.tuple #[.agg #[v], .bool b]) ∧ PutTold t a n p r b ∧ fp.Nodup ∧ layTwigS.own w' w.heap.size fp [v] r ∧ Below w.heap.size w w'
/-- The variables of the call, and what lies below. -/
structure TP (w : World) (v : Value) (a n : Int) (X : World) : Prop where
  bt : VarA w.heap.size 44 #[v] X
  bp : VarA (w.heap.size + 1) 29 #[.int .i64 a, .int .i64 n] X
  br : VarA (w.heap.size + 1 + 1) 44 #[.slice none 0 0] X
  below : Below w.heap.size w X
theorem TP.next {w : World} {v : Value} {a n : Int} {X Y : World} (h : TP w v a n X) (hb : Below X.heap.size X Y) : TP w v a n Y := ⟨h.bt.next hb, h.bp.next hb, h.br.next hb, h.below.trans (hb.mono h.below.size)⟩
/-- And the tree as it is, in a row of its own behind a variable. -/
structure TS (w : World) (v : Value) (a n : Int) (g gs cp : Nat) (t : List Tw) (X : World) : Prop extends TP w v a n X where
  same : VarA gs 44 #[.slice (some ⟨g, 0, none⟩) t.length cp] X
  row : layTwigS.own X (w.heap.size + 1 + 1 + 1) [g] [.slice (some ⟨g, 0, none⟩) t.length cp] t
theorem TS.next {w : World} {v : Value} {a n : Int} {g gs cp : Nat} {t : List Tw} {X Y : World} (h : TS w v a n g gs cp t X) (hb : Below X.heap.size X Y) : TS w v a n g gs cp t Y := ⟨h.toTP.next hb, h.same.next hb, layTwigS.next h.row hb⟩

end Go.Proofs.Ytkfcoldjgijpcac
