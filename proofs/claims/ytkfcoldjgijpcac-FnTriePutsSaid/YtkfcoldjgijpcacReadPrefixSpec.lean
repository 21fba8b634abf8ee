/-
  The given ReadPrefix.
-/
import Derived.Test.YtkfcoldjgijpcacInPrefixSpec
namespace Go.Proofs.Ytkfcoldjgijpcac
open Go.RowKit

/-- How reading a prefix ends. -/
def PrefEnd (s : ByteArray) (e : Ending) : Prop :=
  (∃ a n : Nat, PrefOk a n ∧ s.data.toList = prefL a n ∧ e = .returned (.tuple #[.agg #[.int .i64 (a : Nat), .int .i64 (n : Nat)], .bool true])) ∨ ((∀ a n : Nat, PrefOk a n → s.data.toList ≠ prefL a n) ∧ e = .returned (.tuple #[.agg #[.int .i64 0, .int .i64 0], .bool false]))
theorem cutAt_len (x : UInt8) : ∀ (l cur : List UInt8), ∀ p ∈ cutAt x cur l, p.length ≤ cur.length + l.length
  | [], cur, p, h => by simp [cutAt] at h; subst h; simp
  | b :: l, cur, p, h => by
    rw [cutAt_cons] at h
    split at h
    · rcases List.mem_cons.1 h with rfl | h
      · omega
      · have := cutAt_len x l [] p h
        simp at this ⊢
        omega
    · have := cutAt_len x l (cur ++ [b]) p h
      simp at this ⊢
      omega
theorem two_of (ps : List (List UInt8)) (h : ps.length = 2) : ∃ p q, ps = [p, q] := by
  match ps, h with
  | [p, q], _ => exact ⟨p, q, rfl⟩
theorem pref_cut (l p q : List UInt8) (hc : cutAt 47 [] l = [p, q]) (a n : Nat) (e : l = prefL a n) : addrL a = p ∧ Lib.decDigits n = q := by
  rw [e, cut_pref] at hc
  simpa using hc
theorem pref_join (l p q : List UInt8) (hc : cutAt 47 [] l = [p, q]) (a n : Nat) (h1 : addrL a = p) (h2 : Lib.decDigits n = q) : l = prefL a n := by
  have h := joinAt_cut 47 l []
  rw [hc, ← h1, ← h2] at h
  exact h.symm

end Go.Proofs.Ytkfcoldjgijpcac
