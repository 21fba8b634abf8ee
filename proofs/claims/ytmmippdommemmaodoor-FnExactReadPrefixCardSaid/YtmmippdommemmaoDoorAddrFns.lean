/-
  What the program's functions of addresses and prefixes give: the contracts by name, in worlds that hold what it lays (L).
-/
import Derived.Test.YtmmippdommemmaoDoorReadPrefixSpec
namespace Go.Proofs.YtmmippdommemmaoDoor
open Go.RowKit

/-- A text is an address's, or none. -/
theorem addr_or (s : ByteArray) : (∃ a, a ≤ 4294967295 ∧ s = addrP a) ∨ ∀ a, a ≤ 4294967295 → s.data.toList ≠ addrL a := by
  by_cases h : ∃ a, a ≤ 4294967295 ∧ s.data.toList = addrL a
  · obtain ⟨a, ha, he⟩ := h
    refine .inl ⟨a, ha, ?_⟩
    apply ByteArray.ext
    apply Array.ext'
    simpa [addrP] using he
  · exact .inr fun a ha he => h ⟨a, ha, he⟩
theorem pref_or (s : ByteArray) : (∃ a n : Nat, PrefOk a n ∧ s = prefP a n) ∨ ∀ a n : Nat, PrefOk a n → s.data.toList ≠ prefL a n := by
  by_cases h : ∃ a n : Nat, PrefOk a n ∧ s.data.toList = prefL a n
  · obtain ⟨a, n, ha, he⟩ := h
    refine .inl ⟨a, n, ha, ?_⟩
    apply ByteArray.ext
    apply Array.ext'
    simpa [prefP] using he
  · exact .inr fun a n ha he => h ⟨a, n, ha, he⟩

end Go.Proofs.YtmmippdommemmaoDoor
