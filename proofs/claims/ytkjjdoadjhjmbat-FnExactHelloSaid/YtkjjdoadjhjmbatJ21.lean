/-
  A greeter as an argument, opened.
  The exact law on Hello, at every argument.
-/
import Derived.Test.YtkjjdoadjhjmbatJ20
import Derived.Test.YtkjjdoadjhjmbatJ10
import Derived.OpenShut
import Derived.Test.YtkjjdoadjhjmbatJ11
import Derived.Test.YtkjjdoadjhjmbatJ17
import Derived.Test.YtkjjdoadjhjmbatJ19
namespace Go.Proofs.Ytkjjdoadjhjmbat
open Go.ChangeShapes Go.WideShapes Go.RowKit

set_option maxRecDepth 100000 in
theorem opensGrA {H : Type} (enc : TypeId × Value → H) (W : World) : Opens enc Try.prog W layGreeter LGrT (fun x => (Lit.int .i64 x.1).wf = true ∧ (Lit.int .i64 x.2.1).wf = true ∧ (Lit.int .i64 x.2.2.1).wf = true ∧ (Lit.int .i64 x.2.2.2.1).wf = true ∧ (Lit.int .i64 x.2.2.2.2.1).wf = true ∧ x.2.2.2.2.2.1.size ≤ maxLen ∧ x.2.2.2.2.2.2.size ≤ maxLen) := by
  refine Opens.struct (A := layGreeter) Try.underlying34 (by kernel_rfl) ?_
  refine OpensF.cons (A := Lay.int) (B := .pair .int (.pair .int (.pair .int (.pair .int (.pair .str .str))))) (G := fun x => (Lit.int .i64 x).wf = true) (K := fun x => (Lit.int .i64 x.1).wf = true ∧ (Lit.int .i64 x.2.1).wf = true ∧ (Lit.int .i64 x.2.2.1).wf = true ∧ (Lit.int .i64 x.2.2.2.1).wf = true ∧ x.2.2.2.2.1.size ≤ maxLen ∧ x.2.2.2.2.2.size ≤ maxLen) rfl (by kernel_rfl) (Opens.int Try.underlying3) ?_
  refine OpensF.cons (A := Lay.int) (B := .pair .int (.pair .int (.pair .int (.pair .str .str)))) (G := fun x => (Lit.int .i64 x).wf = true) (K := fun x => (Lit.int .i64 x.1).wf = true ∧ (Lit.int .i64 x.2.1).wf = true ∧ (Lit.int .i64 x.2.2.1).wf = true ∧ x.2.2.2.1.size ≤ maxLen ∧ x.2.2.2.2.size ≤ maxLen) rfl (by kernel_rfl) (Opens.int Try.underlying3) ?_
  refine OpensF.cons (A := Lay.int) (B := .pair .int (.pair .int (.pair .str .str))) (G := fun x => (Lit.int .i64 x).wf = true) (K := fun x => (Lit.int .i64 x.1).wf = true ∧ (Lit.int .i64 x.2.1).wf = true ∧ x.2.2.1.size ≤ maxLen ∧ x.2.2.2.size ≤ maxLen) rfl (by kernel_rfl) (Opens.int Try.underlying3) ?_
  refine OpensF.cons (A := Lay.int) (B := .pair .int (.pair .str .str)) (G := fun x => (Lit.int .i64 x).wf = true) (K := fun x => (Lit.int .i64 x.1).wf = true ∧ x.2.1.size ≤ maxLen ∧ x.2.2.size ≤ maxLen) rfl (by kernel_rfl) (Opens.int Try.underlying3) ?_
  refine OpensF.cons (A := Lay.int) (B := .pair .str .str) (G := fun x => (Lit.int .i64 x).wf = true) (K := fun x => x.1.size ≤ maxLen ∧ x.2.size ≤ maxLen) rfl (by kernel_rfl) (Opens.int Try.underlying3) ?_
  refine OpensF.cons (A := Lay.str) (B := .str) (G := fun x => x.size ≤ maxLen) (K := fun x => x.size ≤ maxLen) rfl (by kernel_rfl) (Opens.str Try.underlying9) ?_
  exact OpensF.last (A := Lay.str) rfl (by kernel_rfl) (Opens.str Try.underlying9)
set_option maxRecDepth 100000 in
theorem open_greeter {H : Type} {enc : TypeId × Value → H} {W : World} {r : Reach} {base : Nat} {v : Value} {d : DataW H} {p : List MemPlace} (hok : Value.okWide Try.prog W r base LGrT v) (h : DataW.Trod enc Try.prog W 0 (fun _ => true) true LGrT v d p) :
    ∃ (n0 n1 n2 n3 n4 : Int) (t5 t6 : ByteArray), v = .agg #[.int .i64 n0, .int .i64 n1, .int .i64 n2, .int .i64 n3, .int .i64 n4, .string t5, .string t6] ∧ (-9223372036854775808 ≤ n0 ∧ n0 ≤ 9223372036854775807) ∧ t5.size ≤ 9223372036854775807 ∧ t6.size ≤ 9223372036854775807 := by
  obtain ⟨cs, x, rfl, hx, hg⟩ := Opens.agg (opensGrA enc W) Try.underlying34 hok h
  obtain rfl := layGreeter_rd.1 hx
  have hm : maxLen ≤ 9223372036854775807 := by unfold maxLen; omega
  exact ⟨_, _, _, _, _, _, _, rfl, bounds_i64 hg.1, Nat.le_trans hg.2.2.2.2.2.1 hm, Nat.le_trans hg.2.2.2.2.2.2 hm⟩

end Go.Proofs.Ytkjjdoadjhjmbat
namespace Go.Proofs.Ytkjjdoadjhjmbat
open Go.RowKit

theorem lawHello (x0 x1 x2 x3 x4 : Int) (x5 x6 : ByteArray) (hx0 : -9223372036854775808 ≤ x0 ∧ x0 ≤ 9223372036854775807) (r5 : x5.size ≤ 9223372036854775807) (r6 : x6.size ≤ 9223372036854775807) (w : World) :
    Calls Try.prog 4 #[.agg #[.int .i64 x0, .int .i64 x1, .int .i64 x2, .int .i64 x3, .int .i64 x4, .string x5, .string x6]] w fun e w' => e = .returned (.bool true) ∧ Below w.heap.size w w' := by
  obtain ⟨y4, y5, t, hh⟩ := hello_is x0 x3 x4 x5
  exact lawHelloF (fun _ => True) (fun _ _ _ _ => trivial) x0 x1 x2 x3 x4 x5 x6 r5 r6 x0 x1 x2 x3 y4 y5 x6 t (fun f X _ => implHello_any cloneG x0 x1 x2 x3 x4 x5 x6 (by have := f.1; omega) (by have := f.2; omega) y4 y5 t hh X) (fun _ X => specHello_any x0 x1 x2 x3 x4 x5 x6 hx0 y4 y5 t hh X) w trivial

end Go.Proofs.Ytkjjdoadjhjmbat
