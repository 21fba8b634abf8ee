/-
  A tree as an argument, opened.
-/
import Derived.Test.YtkfcoldjgijpcapKitO
import Derived.Test.YtkfcoldjgijpcapTwigAll
namespace Go.Proofs.Ytkfcoldjgijpcap
open Go.ChangeShapes Go.WideShapes Go.RowKit

abbrev LTwig : TypeId := 89
abbrev LTrie : TypeId := 31
def wfI (x : Int) : Prop := (Lit.int .i64 x).wf = true
set_option maxRecDepth 100000 in
theorem opensTwig {H : Type} (enc : TypeId × Value → H) (W : World) : Opens enc Try.prog W layTwig LTwig (fun x => wfI x.1 ∧ wfI x.2.1 ∧ wfI x.2.2) := by
  refine Opens.struct (A := layTwig) Try.underlying89 (by kernel_rfl) ?_
  refine OpensF.cons (A := Lay.int) (B := Lay.pair Lay.int Lay.int) (G := wfI) (K := fun x => wfI x.1 ∧ wfI x.2) rfl (by kernel_rfl) (Opens.int Try.underlying3) ?_
  refine OpensF.cons (A := Lay.int) (B := Lay.int) (G := wfI) (K := wfI) rfl (by kernel_rfl) (Opens.int Try.underlying3) ?_
  exact OpensF.last (A := Lay.int) (G := wfI) rfl (by kernel_rfl) (Opens.int Try.underlying3)
set_option maxRecDepth 100000 in
theorem opensTrie {H : Type} (enc : TypeId × Value → H) (W : World) : Opens enc Try.prog W layTwigS LTrie (fun xs => xs.length ≤ maxLen ∧ ∀ x ∈ xs, wfI x.1 ∧ wfI x.2.1 ∧ wfI x.2.2) := by
  refine Opens.struct (A := layTwigS) Try.underlying31 (by kernel_rfl) ?_
  refine OpensF.last (A := layTwigS) rfl (by kernel_rfl) ?_
  exact Opens.rows TwigT Try.underlying29 (by kernel_rfl) (opensTwig enc W)
set_option maxRecDepth 100000 in
theorem open_trie {H : Type} {enc : TypeId × Value → H} {W : World} {r : Reach} {base : Nat} {v : Value} {d : DataW H} {p : List MemPlace} (hok : Value.okWide Try.prog W r base LTrie v) (h : DataW.Trod enc Try.prog W 0 (fun _ => true) true LTrie v d p) :
    ∃ (u : Value) (xs : List TwigD), v = .agg #[u] ∧ layTwigS.rd W [u] xs ∧ xs.length ≤ maxLen := by
  obtain ⟨cs, x, rfl, hx, hg⟩ := Opens.agg (opensTrie enc W) Try.underlying31 hok h
  obtain ⟨u, rfl⟩ : ∃ u, cs = [u] := List.length_eq_one_iff.1 (layTwigS.len hx)
  exact ⟨u, x, rfl, hx, hg.1⟩

abbrev LPref : TypeId := 37
set_option maxRecDepth 100000 in
theorem opensPref {H : Type} (enc : TypeId × Value → H) (W : World) : Opens enc Try.prog W (Lay.pair Lay.int Lay.int) LPref (fun x => wfI x.1 ∧ wfI x.2) := by
  refine Opens.struct (A := Lay.pair Lay.int Lay.int) Try.underlying37 (by kernel_rfl) ?_
  refine OpensF.cons (A := Lay.int) (B := Lay.int) (G := wfI) (K := wfI) rfl (by kernel_rfl) (Opens.int Try.underlying3) ?_
  exact OpensF.last (A := Lay.int) (G := wfI) rfl (by kernel_rfl) (Opens.int Try.underlying3)
set_option maxRecDepth 100000 in
theorem open_pref {H : Type} {enc : TypeId × Value → H} {W : World} {r : Reach} {base : Nat} {v : Value} {d : DataW H} {p : List MemPlace} (hok : Value.okWide Try.prog W r base LPref v) (h : DataW.Trod enc Try.prog W 0 (fun _ => true) true LPref v d p) :
    ∃ a n : Int, v = .agg #[.int .i64 a, .int .i64 n] ∧ (Lit.int .i64 a).wf = true ∧ (Lit.int .i64 n).wf = true := by
  obtain ⟨cs, x, rfl, hx, hg⟩ := Opens.agg (opensPref enc W) Try.underlying37 hok h
  obtain ⟨c0, d0, rfl, rfl, rfl⟩ := hx
  exact ⟨x.1, x.2, rfl, hg.1, hg.2⟩

end Go.Proofs.Ytkfcoldjgijpcap
