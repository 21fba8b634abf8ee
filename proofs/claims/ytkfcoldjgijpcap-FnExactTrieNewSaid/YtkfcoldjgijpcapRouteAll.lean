/-
  Rows of routes as arguments; the laws' own small functions over them.
  The laws' own functions that write marks into rows of routes, find them again, and hold rows against each other.
-/
import Derived.Test.YtkfcoldjgijpcapRouteRows
import Derived.Test.YtkfcoldjgijpcapKitArg
import Derived.Test.YtkfcoldjgijpcapVarTwo
import Derived.Deep.RegionHeld3
import Derived.BigQuiet
import Derived.Deep.QuietTactic
import Derived.Deep.LoopGhost
import Derived.Deep.DeepCutAuto
import Derived.ProofKit
import Derived.OpenShut
import Derived.ShutString
import Derived.ChangeOld
import Derived.ChangeSame
import Derived.Below
namespace Go.Proofs.Ytkfcoldjgijpcap
open Go.ChangeShapes Go.WideShapes Go.ChangeAt Go.RowKit

theorem lawPrefCells : Try.prog.cellsOf 37 = 2 := by kernel_rfl
theorem lawIntCells : Try.prog.cellsOf 3 = 1 := by kernel_rfl
theorem info_zero {P : Program} {t : TypeId} {n b : Nat} {z : Value} (h : (P.info? t).map (fun i => (i.zero, i.size, i.bytes)) = some (some z, n, b)) : ∃ i : TypeInfo, P.info? t = some i ∧ i.zero = some z ∧ i.size = n ∧ i.bytes = b := by
  cases hi : P.info? t with
  | none => simp [hi] at h
  | some i =>
    simp [hi] at h
    exact ⟨i, rfl, h.1, h.2.1, h.2.2⟩

theorem src_three {w : World} {b off : Nat} {xs : List Rt} (h : ∀ j t x, xs[j]? = some x → t < rtRec.k → w.cell? ⟨b, off + (rtRec.k * j + t), none⟩ = (rtRec.enc x)[t]?) (j : Nat) (x : Rt) (hx : xs[j]? = some x) :
    w.cell? ⟨b, off + j * 3, none⟩ = some (.int .i64 x.1) ∧ w.cell? ⟨b, off + j * 3 + 1, none⟩ = some (.int .i64 x.2.1) ∧ w.cell? ⟨b, off + j * 3 + 2, none⟩ = some (.int .i64 x.2.2) := by
  have h0 := h j 0 x hx (by decide)
  have h1 := h j 1 x hx (by decide)
  have h2 := h j 2 x hx (by decide)
  have e : rtRec.k * j = j * 3 := Nat.mul_comm _ _
  rw [e, ← Nat.add_assoc] at h0 h1 h2
  exact ⟨h0, h1, h2⟩
theorem set_mid {α : Type} (A B : List α) (j : Nat) (x : α) (hA : A.length = j) (hj : j < B.length) : (A ++ B.drop j).set j x = (A ++ [x]) ++ B.drop (j + 1) := by
  subst hA
  rw [List.set_append_right _ _ (Nat.le_refl _), Nat.sub_self, List.drop_eq_getElem_cons hj, List.set_cons_zero, List.append_assoc]
  rfl

set_option maxRecDepth 100000 in
set_option maxHeartbeats 400000 in
theorem toPrefR_any (a n : Int) (w : World) :
    Calls Try.prog 18 #[.agg #[.int .i64 a, .int .i64 n]] w fun e w' => e = .returned (.agg #[.int .i64 a, .int .i64 n]) ∧ Below w.heap.size w w' := by
  go_enter Try.func18, Try.ntmps18
  go_wp2_with fail
  refine bodyPost_ret (v := .agg #[.int .i64 a, .int .i64 n]) (by simp [results, Try.results18, go_sem]) rfl ⟨rfl, ?_⟩
  exact (((Below.refl w.heap.size w).alloc (Nat.le_refl _) _).alloc (by simp) _).alloc (by simp; omega) _

end Go.Proofs.Ytkfcoldjgijpcap
namespace Go.Proofs.Ytkfcoldjgijpcap
open Go.RowKit

/-- The marks of a row, from a number on. -/
def marks (k : Int) (n : Nat) : List Rt := (List.range n).map fun (j : Nat) => (k + 3 * (j : Int), k + 3 * (j : Int) + 1, k + 3 * (j : Int) + 1 + 1)
theorem marks_length (k : Int) (n : Nat) : (marks k n).length = n := by simp [marks]
theorem marks_succ (k : Int) (n : Nat) : marks k (n + 1) = marks k n ++ [(k + 3 * (n : Int), k + 3 * (n : Int) + 1, k + 3 * (n : Int) + 1 + 1)] := by simp [marks, List.range_succ]
theorem marks_get (k : Int) (n j : Nat) (h : j < n) : (marks k n)[j]? = some (k + 3 * (j : Int), k + 3 * (j : Int) + 1, k + 3 * (j : Int) + 1 + 1) := by
  unfold marks
  rw [List.getElem?_map, List.getElem?_range h]
  rfl

set_option maxRecDepth 100000 in
set_option maxHeartbeats 400000 in
theorem eqPrefR_same (a n : Int) (w : World) :
    Calls Try.prog 50 #[.agg #[.int .i64 a, .int .i64 n], .agg #[.int .i64 a, .int .i64 n]] w fun e w' => e = .returned (.bool true) ∧ Below w.heap.size w w' := by
  go_enter Try.func50, Try.ntmps50
  go_wp2_with fail
  go_ret
  exact ⟨rfl, ((Below.refl _ _).alloc (Nat.le_refl _) _).alloc (by simp) _⟩

/-- Two rows' records in hand. -/
structure EqH (w : World) (g h : Nat) (j : Nat) (x : Rt) (X : World) : Prop where
  c0 : X.cell? ⟨g, j * 3, none⟩ = some (.int .i64 x.1)
  c1 : X.cell? ⟨g, j * 3 + 1, none⟩ = some (.int .i64 x.2.1)
  c2 : X.cell? ⟨g, j * 3 + 2, none⟩ = some (.int .i64 x.2.2)
  d0 : X.cell? ⟨h, j * 3, none⟩ = some (.int .i64 x.1)
  d1 : X.cell? ⟨h, j * 3 + 1, none⟩ = some (.int .i64 x.2.1)
  d2 : X.cell? ⟨h, j * 3 + 2, none⟩ = some (.int .i64 x.2.2)
  below : Below w.heap.size w X
theorem EqH.next {w : World} {g h j : Nat} {x : Rt} {X Y : World} (H : EqH w g h j x X) (hb : Below X.heap.size X Y) : EqH w g h j x Y := by
  have hg : g < X.heap.size := cell_size (p := ⟨g, j * 3, none⟩) H.c0
  have hh : h < X.heap.size := cell_size (p := ⟨h, j * 3, none⟩) H.d0
  refine ⟨?_, ?_, ?_, ?_, ?_, ?_, H.below.trans (hb.mono H.below.size)⟩
  · rw [hb.cell (p := ⟨g, j * 3, none⟩) hg]; exact H.c0
  · rw [hb.cell (p := ⟨g, j * 3 + 1, none⟩) hg]; exact H.c1
  · rw [hb.cell (p := ⟨g, j * 3 + 2, none⟩) hg]; exact H.c2
  · rw [hb.cell (p := ⟨h, j * 3, none⟩) hh]; exact H.d0
  · rw [hb.cell (p := ⟨h, j * 3 + 1, none⟩) hh]; exact H.d1
  · rw [hb.cell (p := ⟨h, j * 3 + 2, none⟩) hh]; exact H.d2
theorem EqH.all {w : World} {g h j : Nat} {x : Rt} {X : World} (H : EqH w g h j x X) : X.cell? ⟨g, j * 3, none⟩ = some (.int .i64 x.1) ∧ X.cell? ⟨g, j * 3 + 1, none⟩ = some (.int .i64 x.2.1) ∧ X.cell? ⟨g, j * 3 + 2, none⟩ = some (.int .i64 x.2.2) ∧ X.cell? ⟨h, j * 3, none⟩ = some (.int .i64 x.1) ∧ X.cell? ⟨h, j * 3 + 1, none⟩ = some (.int .i64 x.2.1) ∧ X.cell? ⟨h, j * 3 + 2, none⟩ = some (.int .i64 x.2.2) ∧ EqH w g h j x X := ⟨H.c0, H.c1, H.c2, H.d0, H.d1, H.d2, H⟩

end Go.Proofs.Ytkfcoldjgijpcap
