/-
  An inner packet as argument, opened.
  The exact laws on InnerOk, InnerText and ReadInner, at every argument.
-/
import Derived.Test.YthiicpbedgcmlaaDoorJ07
namespace Go.Proofs.YthiicpbedgcmlaaDoor
open Go.ChangeShapes Go.WideShapes Go.RowKit

def layInner : Lay (Int × Int × ByteArray) := Lay.pair Lay.int (Lay.pair Lay.int Lay.str)
theorem layInner_rd {w : World} {cs : List Value} {x : Int × Int × ByteArray} (h : layInner.rd w cs x) : cs = [.int .i64 x.1, .int .i64 x.2.1, .string x.2.2] := by
  obtain ⟨c1, d1, rfl, rfl, ⟨c2, d2, rfl, rfl, rfl⟩⟩ := h
  rfl
set_option maxRecDepth 100000 in
theorem opensInA {H : Type} (enc : TypeId × Value → H) (W : World) : Opens enc Tryd.prog W layInner LInT (fun x => (Lit.int .i64 x.1).wf = true ∧ (Lit.int .i64 x.2.1).wf = true ∧ x.2.2.size ≤ maxLen) := by
  refine Opens.struct (A := layInner) Tryd.underlying33 (by kernel_rfl) ?_
  refine OpensF.cons (A := Lay.int) (B := .pair Lay.int Lay.str) (G := fun x => (Lit.int .i64 x).wf = true) (K := fun x => (Lit.int .i64 x.1).wf = true ∧ x.2.size ≤ maxLen) rfl (by kernel_rfl) (Opens.int Tryd.underlying3) ?_
  refine OpensF.cons (A := Lay.int) (B := Lay.str) (G := fun x => (Lit.int .i64 x).wf = true) (K := fun x => x.size ≤ maxLen) rfl (by kernel_rfl) (Opens.int Tryd.underlying3) ?_
  exact OpensF.last (A := Lay.str) rfl (by kernel_rfl) (Opens.str Tryd.underlying9)
set_option maxRecDepth 100000 in
theorem open_inner {H : Type} {enc : TypeId × Value → H} {W : World} {r : Reach} {base : Nat} {v : Value} {d : DataW H} {p : List MemPlace} (hok : Value.okWide Tryd.prog W r base LInT v) (h : DataW.Trod enc Tryd.prog W 0 (fun _ => true) true LInT v d p) :
    ∃ (x y : Int) (t : ByteArray), v = .agg #[.int .i64 x, .int .i64 y, .string t] ∧ t.size ≤ 9223372036854775807 ∧ ((Lit.int .i64 x).wf = true ∧ (Lit.int .i64 y).wf = true) := by
  obtain ⟨cs, x, rfl, hx, hg⟩ := Opens.agg (opensInA enc W) Tryd.underlying33 hok h
  obtain rfl := layInner_rd hx
  have hm : maxLen ≤ 9223372036854775807 := by unfold maxLen; omega
  exact ⟨_, _, _, rfl, Nat.le_trans hg.2.2 hm, hg.1, hg.2.1⟩

end Go.Proofs.YthiicpbedgcmlaaDoor
namespace Go.Proofs.YthiicpbedgcmlaaDoor
open Go.RowKit

theorem lawInnerText (a b : Int) (t : ByteArray) (hz : t.size ≤ 9223372036854775807) (w : World) (hL : LaidE w) :
    Calls Tryd.prog 5 #[.agg #[.int .i64 a, .int .i64 b, .string t]] w fun e w' => e = .returned (.bool true) ∧ Below w.heap.size w w' := by
  obtain ⟨s, c, hc⟩ := innerText_is a b t
  exact lawInnerTextF (L := LaidE) a b t s c hz (fun h X hX => innerFns.text a b t s c hc h X hX) (fun _ X => specInnerText_any a b t s c hc X) w (fun X hb => LaidE.all w X hL hb)
end Go.Proofs.YthiicpbedgcmlaaDoor
