/-
  The exact law on TrieOf, out of one answer that both give.
-/
import Derived.Test.YtkfcoldjgijpcapExactTrieNew
import Derived.Test.YtkfcoldjgijpcapRouteAll
namespace Go.Proofs.Ytkfcoldjgijpcap
open Go.RowKit

abbrev TrT : TypeId := 24

theorem chg_of_grown {w w' : World} {r : Option Nat} (h : w.grownBy w' r) : Chg r.toList w w' :=
  ⟨h.os, h.tape, h.output, h.size, fun g hg hn => h.block g hg (fun e => hn (by rw [← e]; simp))⟩

/-- A row lies apart from two answers. -/
def Off (v : Value) (gu gg base : Nat) (fu fg : List Nat) : Prop := ∀ k, v.ownBlock = some k → k ∉ fu ∧ k ∉ fg ∧ k ≠ gu ∧ k ≠ gg ∧ base ≤ k
theorem EG.off {w : World} {gu gg : Nat} {vu vg v : Value} {fu fg : List Nat} {r s : List TwigD} {X Y : World} (h : EG w gu gg vu vg fu fg r s X) (ho : Off v gu gg w.heap.size fu fg) (hg : X.grownBy Y v.ownBlock) : EG w gu gg vu vg fu fg r s Y := by
  have hk : ∀ g, g ∈ v.ownBlock.toList → v.ownBlock = some g := fun g hg => by
    cases hv : v.ownBlock with
    | none => rw [hv] at hg; cases hg
    | some k =>
      rw [hv] at hg
      simp at hg
      rw [hg]
  exact h.chg (chg_of_grown hg) (fun g h1 h2 => (ho g (hk g h2)).1 h1) (fun g h1 h2 => (ho g (hk g h2)).2.1 h1) (fun h2 => (ho _ (hk _ h2)).2.2.1 rfl) (fun h2 => (ho _ (hk _ h2)).2.2.2.1 rfl) (fun g h2 => (ho g (hk g h2)).2.2.2.2)

end Go.Proofs.Ytkfcoldjgijpcap
