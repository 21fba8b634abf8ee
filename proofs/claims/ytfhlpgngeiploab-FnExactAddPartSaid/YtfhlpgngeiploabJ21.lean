/-
  A shelf as an argument, opened.
-/
import Derived.Test.YtfhlpgngeiploabJ20
import Derived.Test.YtfhlpgngeiploabJ14
import Derived.OpenShut
namespace Go.Proofs.Ytfhlpgngeiploab
open Go.ChangeShapes Go.WideShapes Go.RowKit

/-- What is held in an argument. -/
structure HdG (x : HeldD) : Prop where
  i0 : IntZ x.1
  i1 : IntZ x.2.1
  i2 : IntZ x.2.2.1
  i5 : IntZ x.2.2.2.2.2
def wfH (x : Int) : Prop := (Lit.int .i64 x).wf = true
def HdW (x : HeldD) : Prop := wfH x.1 ∧ wfH x.2.1 ∧ wfH x.2.2.1 ∧ (x.2.2.2.1.length ≤ maxLen ∧ ∀ s ∈ x.2.2.2.1, s.size ≤ maxLen) ∧ (x.2.2.2.2.1.length ≤ maxLen ∧ ∀ b ∈ x.2.2.2.2.1, True) ∧ wfH x.2.2.2.2.2
set_option maxRecDepth 100000 in
theorem opensHdA {H : Type} (enc : TypeId × Value → H) (W : World) : Opens enc Try.prog W layHeld LHdT HdW := by
  refine Opens.struct (A := layHeld) Try.underlying63 (by kernel_rfl) ?_
  refine OpensF.cons (A := Lay.int) (B := .pair .int (.pair .int (.pair layStringS (.pair layBoolS .int)))) (G := wfH) (K := fun x => wfH x.1 ∧ wfH x.2.1 ∧ (x.2.2.1.length ≤ maxLen ∧ ∀ s ∈ x.2.2.1, s.size ≤ maxLen) ∧ (x.2.2.2.1.length ≤ maxLen ∧ ∀ b ∈ x.2.2.2.1, True) ∧ wfH x.2.2.2.2) rfl (by kernel_rfl) (Opens.int Try.underlying3) ?_
  refine OpensF.cons (A := Lay.int) (B := .pair .int (.pair layStringS (.pair layBoolS .int))) (G := wfH) (K := fun x => wfH x.1 ∧ (x.2.1.length ≤ maxLen ∧ ∀ s ∈ x.2.1, s.size ≤ maxLen) ∧ (x.2.2.1.length ≤ maxLen ∧ ∀ b ∈ x.2.2.1, True) ∧ wfH x.2.2.2) rfl (by kernel_rfl) (Opens.int Try.underlying3) ?_
  refine OpensF.cons (A := Lay.int) (B := .pair layStringS (.pair layBoolS .int)) (G := wfH) (K := fun x => (x.1.length ≤ maxLen ∧ ∀ s ∈ x.1, s.size ≤ maxLen) ∧ (x.2.1.length ≤ maxLen ∧ ∀ b ∈ x.2.1, True) ∧ wfH x.2.2) rfl (by kernel_rfl) (Opens.int Try.underlying3) ?_
  refine OpensF.cons (A := layStringS) (B := .pair layBoolS .int) (G := fun y => y.length ≤ maxLen ∧ ∀ s ∈ y, s.size ≤ maxLen) (K := fun x => (x.1.length ≤ maxLen ∧ ∀ b ∈ x.1, True) ∧ wfH x.2) rfl (by kernel_rfl) (Opens.rows 9 Try.underlying41 (by kernel_rfl) (Opens.str Try.underlying9)) ?_
  refine OpensF.cons (A := layBoolS) (B := Lay.int) (G := fun y => y.length ≤ maxLen ∧ ∀ b ∈ y, True) (K := wfH) rfl (by kernel_rfl) (Opens.rows 4 Try.underlying42 (by kernel_rfl) (Opens.bool Try.underlying4)) ?_
  exact OpensF.last (A := Lay.int) rfl (by kernel_rfl) (Opens.int Try.underlying3)
set_option maxRecDepth 100000 in
theorem opensShA {H : Type} (enc : TypeId × Value → H) (W : World) : Opens enc Try.prog W layHeldS LShT (fun xs => xs.length ≤ maxLen ∧ ∀ x ∈ xs, HdW x) := by
  refine Opens.struct (A := layHeldS) Try.underlying24 (by kernel_rfl) ?_
  exact OpensF.last (A := layHeldS) rfl (by kernel_rfl) (Opens.rows HeldT Try.underlying22 (by kernel_rfl) (opensHdA enc W))
set_option maxRecDepth 100000 in
theorem open_shelf {H : Type} {enc : TypeId × Value → H} {W : World} {r : Reach} {base : Nat} {v : Value} {d : DataW H} {p : List MemPlace} (hok : Value.okWide Try.prog W r base LShT v) (h : DataW.Trod enc Try.prog W 0 (fun _ => true) true LShT v d p) :
    ∃ (u : Value) (xs : List HeldD), v = .agg #[u] ∧ layHeldS.rd W [u] xs ∧ RoomHeldS xs ∧ (∀ x ∈ xs, HdG x) := by
  obtain ⟨cs, x, rfl, hx, hg⟩ := Opens.agg (opensShA enc W) Try.underlying24 hok h
  have hx' := hx
  obtain ⟨u, rfl, -⟩ := hx'
  have hm : maxLen ≤ 9223372036854775807 := by unfold maxLen; omega
  exact ⟨u, x, rfl, hx, ⟨Nat.le_trans hg.1 hm, fun y hy => ⟨⟨Nat.le_trans (hg.2 y hy).2.2.2.1.1 hm, fun s hs => Nat.le_trans ((hg.2 y hy).2.2.2.1.2 s hs) hm⟩, Nat.le_trans (hg.2 y hy).2.2.2.2.1.1 hm⟩⟩, fun y hy => ⟨bounds_i64 (hg.2 y hy).1, bounds_i64 (hg.2 y hy).2.1, bounds_i64 (hg.2 y hy).2.2.1, bounds_i64 (hg.2 y hy).2.2.2.2.2⟩⟩

end Go.Proofs.Ytfhlpgngeiploab
