/-
  SigText and ReadSig: both answer one value.
-/
import Derived.Test.YtogmmilfdolpnamSigImpl
import Derived.Test.YtogmmilfdolpnamExactSig
namespace Go.Proofs.Ytogmmilfdolpnam
open Go.RowKit

theorem sigText_both (E S : Int) : ∃ (t : ByteArray) (o : Bool),
    (∀ X, Calls Try.prog 10 #[.agg #[.int .i64 E, .int .i64 S]] X fun e X' => e = .returned (.tuple #[.string t, .bool o]) ∧ Below X.heap.size X X') ∧
    (∀ X, Calls Try.prog 8 #[.agg #[.int .i64 E, .int .i64 S]] X fun e X' => e = .returned (.tuple #[.string t, .bool o]) ∧ Below X.heap.size X X') := by
  by_cases h : (E < 0 ∨ 1073741788 < E) ∨ (S < 0 ∨ 1073741788 < S)
  · exact ⟨_, _, implSigText_no E S h, specSigText_no E S h⟩
  · obtain ⟨e, rfl⟩ : ∃ n : Nat, E = (n : Int) := ⟨E.toNat, by omega⟩
    obtain ⟨s, rfl⟩ : ∃ n : Nat, S = (n : Int) := ⟨S.toNat, by omega⟩
    exact ⟨_, _, implSigText_yes e s (by omega) (by omega), specSigText_yes e s (by omega) (by omega)⟩
theorem readSig_both (s : ByteArray) : ∃ (x y : Int) (o : Bool),
    (∀ X, Calls Try.prog 12 #[.string s] X fun e X' => e = .returned (.tuple #[.agg #[.int .i64 x, .int .i64 y], .bool o]) ∧ Below X.heap.size X X') ∧
    (∀ X, Calls Try.prog 11 #[.string s] X fun e X' => e = .returned (.tuple #[.agg #[.int .i64 x, .int .i64 y], .bool o]) ∧ Below X.heap.size X X') := by
  by_cases h8 : s.size = 8
  · obtain ⟨l, hl⟩ : ∃ l, s.extract 0 4 = l := ⟨_, rfl⟩
    obtain ⟨r, hr⟩ : ∃ r, s.extract 4 8 = r := ⟨_, rfl⟩
    by_cases h : fourBack l.data.toList < 1073741789 ∧ fourBack r.data.toList < 1073741789
    · exact ⟨_, _, _, implReadSig_eight s l r h8 hl hr _ (.inl ⟨h.1, h.2, rfl⟩), specReadSig_eight s l r h8 hl hr _ (.inl ⟨h.1, h.2, rfl⟩)⟩
    · have h2 : 1073741789 ≤ fourBack l.data.toList ∨ 1073741789 ≤ fourBack r.data.toList := by omega
      exact ⟨_, _, _, implReadSig_eight s l r h8 hl hr _ (.inr ⟨h2, rfl⟩), specReadSig_eight s l r h8 hl hr _ (.inr ⟨h2, rfl⟩)⟩
  · exact ⟨_, _, _, implReadSig_size s h8, specReadSig_size s h8⟩

end Go.Proofs.Ytogmmilfdolpnam
