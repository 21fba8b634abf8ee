/-
  The given ReadPrefix.
-/
import Derived.Test.YtmmippdommemmanDoorInPrefixSpec
namespace Go.Proofs.YtmmippdommemmanDoor
open Go.RowKit

/-- How reading a prefix ends. -/
def PrefEnd (s : ByteArray) (e : Ending) : Prop :=
  (∃ a n : Nat, PrefOk a n ∧ s.data.toList = prefL a n ∧ e = .returned (.tuple #[.agg #[.int .i64 (a : Nat), .int .i64 (n : Nat)], .bool true])) ∨ ((∀ a n : Nat, PrefOk a n → s.data.toList ≠ prefL a n) ∧ e = .returned (.tuple #[.agg #[.int .i64 0, .int .i64 0], .bool false]))
/-- A text's number, or none. -/
theorem specReadDec_all (p : List UInt8) : ∃ (n : Nat) (b : Bool), n ≤ 1000000000 ∧ (∀ w, Calls Tryd.prog 20 #[.string ⟨p.toArray⟩] w fun e w' => e = .returned (.tuple #[.int .i64 n, .bool b]) ∧ Below w.heap.size w w') ∧
    ((b = true ∧ Lib.decDigits n = p) ∨ (b = false ∧ n = 0 ∧ ∀ m, m ≤ 1000000000 → Lib.decDigits m ≠ p)) := by
  by_cases h : ∃ m, m ≤ 1000000000 ∧ Lib.decDigits m = p
  · obtain ⟨m, hm, hp⟩ := h
    exact ⟨m, true, hm, fun w => specReadDec_yes m hm _ (by rw [hp]) w, .inl ⟨rfl, hp⟩⟩
  · exact ⟨0, false, by omega, fun w => specReadDec_no _ (fun m hm e => h ⟨m, hm, e.symm⟩) w, .inr ⟨rfl, rfl, fun m hm e => h ⟨m, hm, e⟩⟩⟩
theorem specReadAddr_all (p : List UInt8) (hp : p.length ≤ 100000000) : ∃ (a : Nat) (b : Bool), a ≤ 4294967295 ∧ (∀ w, Calls Tryd.prog 8 #[.string ⟨p.toArray⟩] w fun e w' => e = .returned (.tuple #[.int .i64 a, .bool b]) ∧ Below w.heap.size w w') ∧
    ((b = true ∧ addrL a = p) ∨ (b = false ∧ a = 0 ∧ ∀ m, m ≤ 4294967295 → addrL m ≠ p)) := by
  by_cases h : ∃ m, m ≤ 4294967295 ∧ addrL m = p
  · obtain ⟨m, hm, rfl⟩ := h
    exact ⟨m, true, hm, fun w => specReadAddr_yes m hm w, .inl ⟨rfl, rfl⟩⟩
  · exact ⟨0, false, by omega, fun w => specReadAddr_no _ (by show p.toArray.size ≤ _; simpa using hp) (fun m hm e => h ⟨m, hm, e.symm⟩) w, .inr ⟨rfl, rfl, fun m hm e => h ⟨m, hm, e⟩⟩⟩
theorem cutAt_len (x : UInt8) : ∀ (l cur : List UInt8), ∀ p ∈ cutAt x cur l, p.length ≤ cur.length + l.length
  | [], cur, p, h => by simp [cutAt] at h; subst h; simp
  | b :: l, cur, p, h => by
    rw [cutAt_cons] at h
    split at h
    · rcases List.mem_cons.1 h with rfl | h
      · omega
      · have := cutAt_len x l [] p h
        simp at this ⊢
        omega
    · have := cutAt_len x l (cur ++ [b]) p h
      simp at this ⊢
      omega
theorem two_of (ps : List (List UInt8)) (h : ps.length = 2) : ∃ p q, ps = [p, q] := by
  match ps, h with
  | [p, q], _ => exact ⟨p, q, rfl⟩
theorem pref_cut (l p q : List UInt8) (hc : cutAt 47 [] l = [p, q]) (a n : Nat) (e : l = prefL a n) : addrL a = p ∧ Lib.decDigits n = q := by
  rw [e, cut_pref] at hc
  simpa using hc
theorem pref_join (l p q : List UInt8) (hc : cutAt 47 [] l = [p, q]) (a n : Nat) (h1 : addrL a = p) (h2 : Lib.decDigits n = q) : l = prefL a n := by
  have h := joinAt_cut 47 l []
  rw [hc, ← h1, ← h2] at h
  exact h.symm

end Go.Proofs.YtmmippdommemmanDoor
