/-
  The given LookUp.
-/
import Derived.Test.YtkfcoldjgijpcapRoutesSpec
import Derived.Test.YtkfcoldjgijpcapInPrefixSpec
namespace Go.Proofs.Ytkfcoldjgijpcap
open Go.RowKit

def prefB (a n : Int) : Bool := decide (0 ≤ a) && decide (a ≤ 4294967295) && decide (0 ≤ n) && decide (n ≤ 32) && (a.toNat % sizeP n.toNat == 0)
theorem prefB_iff (a n : Int) : prefB a n = true ↔ PrefOk a n := by simp [prefB, PrefOk, and_assoc]
def inB (a n x : Int) : Bool := prefB a n && decide (0 ≤ x) && decide (x ≤ 4294967295) && ((firstP x.toNat n.toNat : Int) == a)
theorem inB_iff (a n x : Int) : inB a n x = true ↔ InPref a n x := by
  unfold inB InPref
  rw [Bool.and_eq_true, Bool.and_eq_true, Bool.and_eq_true, prefB_iff, decide_eq_true_eq, decide_eq_true_eq, beq_iff_eq]
  constructor
  · rintro ⟨⟨⟨h1, h2⟩, h3⟩, h4⟩
    exact ⟨h1, ⟨h2, h3⟩, h4⟩
  · rintro ⟨h1, ⟨h2, h3⟩, h4⟩
    exact ⟨⟨⟨h1, h2⟩, h3⟩, h4⟩
theorem specInPrefix_any (a n x : Int) (X : World) : Calls Try.prog 62 #[.agg #[.int .i64 a, .int .i64 n], .int .i64 x] X fun e w' => e = .returned (.bool (inB a n x)) ∧ Below X.heap.size X w' := by
  by_cases h : InPref a n x
  · rw [(inB_iff a n x).2 h]
    exact specInPrefix_yes a n x h X
  · rw [Bool.eq_false_iff.2 (fun e => h ((inB_iff a n x).1 e))]
    exact specInPrefix_no a n x h X
/-- The longest so far, and whom it leads to. -/
def lookStep (x : Int) (s : Int × Int) (r : Rt) : Int × Int := if (inB r.1 r.2.1 x && decide (s.1 < r.2.1)) = true then (r.2.1, r.2.2) else s
def lookTo (x : Int) (xs : List Rt) : Int × Int := xs.foldl (lookStep x) (-1, 0)
theorem lookTo_take (x : Int) (xs : List Rt) (k : Nat) (h : k < xs.length) : lookTo x (xs.take (k + 1)) = lookStep x (lookTo x (xs.take k)) xs[k] := by
  unfold lookTo
  rw [List.take_add_one, List.getElem?_eq_getElem h, List.foldl_append]
  rfl

end Go.Proofs.Ytkfcoldjgijpcap
