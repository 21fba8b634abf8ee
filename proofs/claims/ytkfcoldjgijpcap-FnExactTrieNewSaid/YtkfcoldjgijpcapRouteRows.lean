/-
  Routes as records of three numbers.
  The given DropTo.
-/
import Derived.Test.YtkfcoldjgijpcapKitR
import Derived.Test.YtkfcoldjgijpcapRows
import Derived.Deep.RegionHeld3
import Derived.BigQuiet
import Derived.Deep.QuietTactic
namespace Go.Proofs.Ytkfcoldjgijpcap
open Go.RowKit

/-- A route: address, length, whom it leads to. -/
abbrev Rt := Int × Int × Int
def rtRec : Rec Rt where
  k := 3
  enc := fun r => [.int .i64 r.1, .int .i64 r.2.1, .int .i64 r.2.2]
  len := fun _ => rfl
  one := fun r u hu => by
    simp only [List.mem_cons, List.not_mem_nil, or_false] at hu
    rcases hu with rfl | rfl | rfl <;> rfl
  pos := by decide
end Go.Proofs.Ytkfcoldjgijpcap
namespace Go.Proofs.Ytkfcoldjgijpcap
open Go.RowKit

theorem row_three {w : World} {g : Nat} {xs : List Rt} (h : ∀ j t x, xs[j]? = some x → t < rtRec.k → w.cell? ⟨g, rtRec.k * j + t, none⟩ = (rtRec.enc x)[t]?) (j : Nat) (x : Rt) (hx : xs[j]? = some x) :
    w.cell? ⟨g, j * 3, none⟩ = some (.int .i64 x.1) ∧ w.cell? ⟨g, j * 3 + 1, none⟩ = some (.int .i64 x.2.1) ∧ w.cell? ⟨g, j * 3 + 2, none⟩ = some (.int .i64 x.2.2) := by
  have h0 := h j 0 x hx (by decide)
  have h1 := h j 1 x hx (by decide)
  have h2 := h j 2 x hx (by decide)
  have e : rtRec.k * j = j * 3 := Nat.mul_comm _ _
  rw [e] at h0 h1 h2
  exact ⟨h0, h1, h2⟩

end Go.Proofs.Ytkfcoldjgijpcap
