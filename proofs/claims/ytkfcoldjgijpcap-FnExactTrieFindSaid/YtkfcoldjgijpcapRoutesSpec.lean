/-
  The given order of prefixes and RoutesOk.
-/
import Derived.Test.YtkfcoldjgijpcapRouteRows
import Derived.Test.YtkfcoldjgijpcapPrefixSpec
namespace Go.Proofs.Ytkfcoldjgijpcap
open Go.RowKit

/-- Which prefix comes ahead. -/
def Ahead (a n b m : Int) : Prop := a < b ∨ (a = b ∧ n < m)
/-- Whether a route is right by itself. -/
def RtOk (r : Rt) : Prop := PrefOk r.1 r.2.1 ∧ 1 ≤ r.2.2 ∧ r.2.2 ≤ 99
def GoodAt (xs : List Rt) (j : Nat) : Prop := ∀ x, xs[j]? = some x → RtOk x ∧ ∀ y, 0 < j → xs[j - 1]? = some y → Ahead y.1 y.2.1 x.1 x.2.1
def GoodTo (xs : List Rt) (k : Nat) : Prop := ∀ j, j < k → GoodAt xs j
/-- Routes that are right. -/
def RoutesP (xs : List Rt) : Prop := GoodTo xs xs.length ∧ xs.length ≤ 12
theorem GoodTo.snoc {xs : List Rt} {k : Nat} (h : GoodTo xs k) (hk : GoodAt xs k) : GoodTo xs (k + 1) := fun j hj => by
  rcases Nat.lt_or_ge j k with h1 | h1
  · exact h j h1
  · have : j = k := by omega
    subst this
    exact hk
/-- How RoutesOk ends. -/
def RoutesEnd (xs : List Rt) (e : Ending) : Prop := (RoutesP xs ∧ e = .returned (.bool true)) ∨ (¬ RoutesP xs ∧ e = .returned (.bool false))

theorem held_next {w X Y : World} {g k : Nat} {xa xn xt : Int} (h : X.cell? ⟨g, k * 3, none⟩ = some (.int .i64 xa) ∧ X.cell? ⟨g, k * 3 + 1, none⟩ = some (.int .i64 xn) ∧ X.cell? ⟨g, k * 3 + 2, none⟩ = some (.int .i64 xt) ∧ Below w.heap.size w X) (hb : Below X.heap.size X Y) :
    Y.cell? ⟨g, k * 3, none⟩ = some (.int .i64 xa) ∧ Y.cell? ⟨g, k * 3 + 1, none⟩ = some (.int .i64 xn) ∧ Y.cell? ⟨g, k * 3 + 2, none⟩ = some (.int .i64 xt) ∧ Below w.heap.size w Y := by
  have hg : g < X.heap.size := cell_size (p := ⟨g, k * 3, none⟩) h.1
  exact ⟨by rw [hb.cell (p := ⟨g, k * 3, none⟩) hg]; exact h.1, by rw [hb.cell (p := ⟨g, k * 3 + 1, none⟩) hg]; exact h.2.1, by rw [hb.cell (p := ⟨g, k * 3 + 2, none⟩) hg]; exact h.2.2.1, h.2.2.2.trans (hb.mono h.2.2.2.size)⟩
theorem held_five {w X Y : World} {g k j : Nat} {xa xn xt ya yn : Int} (h : X.cell? ⟨g, k * 3, none⟩ = some (.int .i64 xa) ∧ X.cell? ⟨g, k * 3 + 1, none⟩ = some (.int .i64 xn) ∧ X.cell? ⟨g, k * 3 + 2, none⟩ = some (.int .i64 xt) ∧ X.cell? ⟨g, j * 3, none⟩ = some (.int .i64 ya) ∧ X.cell? ⟨g, j * 3 + 1, none⟩ = some (.int .i64 yn) ∧ Below w.heap.size w X) (hb : Below X.heap.size X Y) : Y.cell? ⟨g, k * 3, none⟩ = some (.int .i64 xa) ∧ Y.cell? ⟨g, k * 3 + 1, none⟩ = some (.int .i64 xn) ∧ Y.cell? ⟨g, k * 3 + 2, none⟩ = some (.int .i64 xt) ∧ Y.cell? ⟨g, j * 3, none⟩ = some (.int .i64 ya) ∧ Y.cell? ⟨g, j * 3 + 1, none⟩ = some (.int .i64 yn) ∧ Below w.heap.size w Y := by
  have hg : g < X.heap.size := cell_size (p := ⟨g, k * 3, none⟩) h.1
  exact ⟨by rw [hb.cell (p := ⟨g, k * 3, none⟩) hg]; exact h.1, by rw [hb.cell (p := ⟨g, k * 3 + 1, none⟩) hg]; exact h.2.1, by rw [hb.cell (p := ⟨g, k * 3 + 2, none⟩) hg]; exact h.2.2.1, by rw [hb.cell (p := ⟨g, j * 3, none⟩) hg]; exact h.2.2.2.1, by rw [hb.cell (p := ⟨g, j * 3 + 1, none⟩) hg]; exact h.2.2.2.2.1, h.2.2.2.2.2.trans (hb.mono h.2.2.2.2.2.size)⟩

end Go.Proofs.Ytkfcoldjgijpcap
