/-
  The program's ReadPrefix.
-/
import Derived.Test.YtmmippdommemmanDoorReadAddrImpl
import Derived.Test.YtmmippdommemmanDoorReadPrefixSpec
import Derived.Test.YtmmippdommemmanDoorReadDecBack
import Derived.Test.YtmmippdommemmanDoorAddrImpl
namespace Go.Proofs.YtmmippdommemmanDoor
open Go.RowKit

theorem implReadAddr_all (L : World → Prop) (hL : SplitGives L) (p : List UInt8) (hp : p.length ≤ 1048576) : ∃ (a : Nat) (b : Bool), a ≤ 4294967295 ∧ (∀ w, L w → Calls Tryd.prog 9 #[.string ⟨p.toArray⟩] w fun e w' => e = .returned (.tuple #[.int .i64 a, .bool b]) ∧ Below w.heap.size w w') ∧
    ((b = true ∧ addrL a = p) ∨ (b = false ∧ a = 0 ∧ ∀ m, m ≤ 4294967295 → addrL m ≠ p)) := by
  by_cases h : ∃ m, m ≤ 4294967295 ∧ addrL m = p
  · obtain ⟨m, hm, rfl⟩ := h
    exact ⟨m, true, hm, fun w hw => implReadAddr_yesL L hL m hm w hw, .inl ⟨rfl, rfl⟩⟩
  · exact ⟨0, false, by omega, fun w hw => implReadAddr_noL L hL _ (by show p.toArray.size ≤ _; simpa using hp) (fun m hm e => h ⟨m, hm, e.symm⟩) w hw, .inr ⟨rfl, rfl, fun m hm e => h ⟨m, hm, e⟩⟩⟩
theorem addrL_ne (a : Nat) : addrL a ≠ [] := by
  unfold addrL
  rw [joinAt_four]
  have := dec_ne (a / 16777216)
  simp [this]
/-- A text's two parts at its first stroke: it is a prefix just if they are an address and a number that make one. -/
theorem pref_parts (l p q : List UInt8) (h : (47 ∉ l ∧ p = l ∧ q = []) ∨ (l = p ++ 47 :: q ∧ 47 ∉ p)) (a n : Nat) : l = prefL a n ↔ (addrL a = p ∧ Lib.decDigits n = q) := by
  constructor
  · intro e
    rcases h with ⟨h1, _, _⟩ | ⟨h1, h2⟩
    · exfalso
      apply h1
      rw [e]
      unfold prefL
      rw [joinAt_two]
      simp
    · have hc := cut_pref a n
      rw [← e, h1, cutAt_part 47 q p [] h2] at hc
      simp only [List.nil_append, List.cons.injEq] at hc
      have hj := joinAt_cut 47 q []
      rw [hc.2, joinAt_one] at hj
      exact ⟨hc.1.symm, hj⟩
  · rintro ⟨h1, h2⟩
    rcases h with ⟨_, _, h5⟩ | ⟨h3, h4⟩
    · exact absurd (h2.trans h5) (dec_ne n)
    · rw [h3, ← h1, ← h2]
      unfold prefL
      rw [joinAt_two]

end Go.Proofs.YtmmippdommemmanDoor
