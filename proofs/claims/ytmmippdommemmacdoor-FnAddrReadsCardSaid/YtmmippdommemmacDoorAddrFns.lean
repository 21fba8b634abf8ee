/-
  What the program's functions of addresses and prefixes give: the contracts by name, in worlds that hold what it lays (L).
-/
import Derived.Test.YtmmippdommemmacDoorReadPrefixSpec
namespace Go.Proofs.YtmmippdommemmacDoor
open Go.RowKit

/-- The program's functions of addresses and prefixes answer what the plain functions say. -/
structure AddrFns (L : World → Prop) : Prop where
  stays : ∀ X Y, L X → Below X.heap.size X Y → L Y
  ok_yes : ∀ a : Int, 0 ≤ a → a ≤ 4294967295 → ∀ X, L X → Calls Tryd.prog 30 #[.int .i64 a] X fun e X' => e = .returned (.bool true) ∧ Below X.heap.size X X'
  ok_no : ∀ a : Int, a < 0 ∨ 4294967295 < a → ∀ X, L X → Calls Tryd.prog 30 #[.int .i64 a] X fun e X' => e = .returned (.bool false) ∧ Below X.heap.size X X'
  text_yes : ∀ a : Nat, a ≤ 4294967295 → ∀ X, L X → Calls Tryd.prog 12 #[.int .i64 a] X fun e X' => e = .returned (.string (addrP a)) ∧ Below X.heap.size X X'
  text_no : ∀ a : Int, a < 0 ∨ 4294967295 < a → ∀ X, L X → Calls Tryd.prog 12 #[.int .i64 a] X fun e X' => e = .returned (.string ⟨#[]⟩) ∧ Below X.heap.size X X'
  read_yes : ∀ a : Nat, a ≤ 4294967295 → ∀ X, L X → Calls Tryd.prog 6 #[.string (addrP a)] X fun e X' => e = .returned (.tuple #[.int .i64 (a : Nat), .bool true]) ∧ Below X.heap.size X X'
  read_no : ∀ s : ByteArray, s.size ≤ 1048576 → (∀ a, a ≤ 4294967295 → s.data.toList ≠ addrL a) → ∀ X, L X → Calls Tryd.prog 6 #[.string s] X fun e X' => e = .returned (.tuple #[.int .i64 0, .bool false]) ∧ Below X.heap.size X X'
  pok_yes : ∀ a n : Int, PrefOk a n → ∀ X, L X → Calls Tryd.prog 28 #[.agg #[.int .i64 a, .int .i64 n]] X fun e X' => e = .returned (.bool true) ∧ Below X.heap.size X X'
  pok_no : ∀ a n : Int, ¬ PrefOk a n → ∀ X, L X → Calls Tryd.prog 28 #[.agg #[.int .i64 a, .int .i64 n]] X fun e X' => e = .returned (.bool false) ∧ Below X.heap.size X X'
  of_yes : ∀ a n : Nat, a ≤ 4294967295 → n ≤ 32 → ∀ X, L X → Calls Tryd.prog 56 #[.int .i64 a, .int .i64 n] X fun e X' => e = .returned (.tuple #[.agg #[.int .i64 (firstP a n : Nat), .int .i64 n], .bool true]) ∧ Below X.heap.size X X'
  of_no : ∀ a n : Int, (a < 0 ∨ 4294967295 < a) ∨ (n < 0 ∨ 32 < n) → ∀ X, L X → Calls Tryd.prog 56 #[.int .i64 a, .int .i64 n] X fun e X' => e = .returned (.tuple #[.agg #[.int .i64 0, .int .i64 0], .bool false]) ∧ Below X.heap.size X X'
  in_yes : ∀ a n x : Int, InPref a n x → ∀ X, L X → Calls Tryd.prog 44 #[.agg #[.int .i64 a, .int .i64 n], .int .i64 x] X fun e X' => e = .returned (.bool true) ∧ Below X.heap.size X X'
  in_no : ∀ a n x : Int, ¬ InPref a n x → ∀ X, L X → Calls Tryd.prog 44 #[.agg #[.int .i64 a, .int .i64 n], .int .i64 x] X fun e X' => e = .returned (.bool false) ∧ Below X.heap.size X X'
  ptext_yes : ∀ a n : Nat, PrefOk a n → ∀ X, L X → Calls Tryd.prog 11 #[.agg #[.int .i64 a, .int .i64 n]] X fun e X' => e = .returned (.tuple #[.string (prefP a n), .bool true]) ∧ Below X.heap.size X X'
  ptext_no : ∀ a n : Int, ¬ PrefOk a n → ∀ X, L X → Calls Tryd.prog 11 #[.agg #[.int .i64 a, .int .i64 n]] X fun e X' => e = .returned (.tuple #[.string ⟨#[]⟩, .bool false]) ∧ Below X.heap.size X X'
  pread_yes : ∀ a n : Nat, PrefOk a n → ∀ X, L X → Calls Tryd.prog 9 #[.string (prefP a n)] X fun e X' => e = .returned (.tuple #[.agg #[.int .i64 (a : Nat), .int .i64 (n : Nat)], .bool true]) ∧ Below X.heap.size X X'
  pread_no : ∀ s : ByteArray, s.size ≤ 1048576 → (∀ a n : Nat, PrefOk a n → s.data.toList ≠ prefL a n) → ∀ X, L X → Calls Tryd.prog 9 #[.string s] X fun e X' => e = .returned (.tuple #[.agg #[.int .i64 0, .int .i64 0], .bool false]) ∧ Below X.heap.size X X'

/-- A text is an address's, or none. -/
theorem addr_or (s : ByteArray) : (∃ a, a ≤ 4294967295 ∧ s = addrP a) ∨ ∀ a, a ≤ 4294967295 → s.data.toList ≠ addrL a := by
  by_cases h : ∃ a, a ≤ 4294967295 ∧ s.data.toList = addrL a
  · obtain ⟨a, ha, he⟩ := h
    refine .inl ⟨a, ha, ?_⟩
    apply ByteArray.ext
    apply Array.ext'
    simpa [addrP] using he
  · exact .inr fun a ha he => h ⟨a, ha, he⟩
theorem pref_or (s : ByteArray) : (∃ a n : Nat, PrefOk a n ∧ s = prefP a n) ∨ ∀ a n : Nat, PrefOk a n → s.data.toList ≠ prefL a n := by
  by_cases h : ∃ a n : Nat, PrefOk a n ∧ s.data.toList = prefL a n
  · obtain ⟨a, n, ha, he⟩ := h
    refine .inl ⟨a, n, ha, ?_⟩
    apply ByteArray.ext
    apply Array.ext'
    simpa [prefP] using he
  · exact .inr fun a n ha he => h ⟨a, n, ha, he⟩

end Go.Proofs.YtmmippdommemmacDoor
