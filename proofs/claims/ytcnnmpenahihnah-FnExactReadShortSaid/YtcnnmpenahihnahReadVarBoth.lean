/-
  ReadVar, the given one and the program's, answer one value at every text and place.
-/
import Derived.Test.YtcnnmpenahihnahReadVarImpl
import Derived.Test.YtcnnmpenahihnahReadVarSpec
namespace Go.Proofs.Ytcnnmpenahihnah
open Go.RowKit

/-- What ReadVar answers, given and built, as one value. -/
theorem readVar_both (s : ByteArray) (hs : s.size ≤ 1048576) (p : Int) : ∃ n q : Int, ∃ b : Bool, (b = true → 0 ≤ n ∧ n ≤ 1000000000 ∧ 0 ≤ q ∧ q ≤ (s.size : Int)) ∧
    (∀ w, Calls Try.prog 20 #[.string s, .int .i64 p] w fun e w' => e = .returned (.tuple #[.int .i64 n, .int .i64 q, .bool b]) ∧ Below w.heap.size w w') ∧
    (∀ w, Calls Try.prog 21 #[.string s, .int .i64 p] w fun e w' => e = .returned (.tuple #[.int .i64 n, .int .i64 q, .bool b]) ∧ Below w.heap.size w w') := by
  by_cases hp : 0 ≤ p ∧ p ≤ (s.size : Int)
  · obtain ⟨a, rfl⟩ := Int.eq_ofNat_of_zero_le hp.1
    have ha : a ≤ s.size := by omega
    cases hl : low 5 (s.data.toList.drop a) with
    | none => exact ⟨0, 0, false, by simp, fun w => specReadVar_none s hs a ha hl w, fun w => implReadVar_none s hs a ha hl w⟩
    | some k =>
      have hi := short_iff 5 _ k hl
      have hkl := (low_some _ _ _ hl).2.1
      have hkl' : a + k < s.size := by simp at hkl; omega
      by_cases hk : k = 0 ∨ ((s.data.toList.drop a).getD k 0).toNat ≠ 0
      · by_cases hv : val ((s.data.toList.drop a).take (k + 1)) ≤ 1000000000
        · refine ⟨(val ((s.data.toList.drop a).take (k + 1)) : Nat), ((a + k + 1 : Nat) : Int), true, fun _ => ⟨by omega, by omega, by omega, by omega⟩, fun w => ?_, fun w => ?_⟩
          · refine (specReadVar_some s hs a ha k hl w).mono ?_
            rintro e w' ⟨h | h, hb⟩
            · exact ⟨h.2.2, hb⟩
            · exact absurd ⟨hv, hi.2 hk⟩ h.1
          · refine (implReadVar_some s hs a ha k hl hk w).mono ?_
            rintro e w' ⟨h | h, hb⟩
            · exact ⟨h.2, hb⟩
            · exact absurd hv (by omega)
        · refine ⟨0, 0, false, by simp, fun w => ?_, fun w => ?_⟩
          · refine (specReadVar_some s hs a ha k hl w).mono ?_
            rintro e w' ⟨h | h, hb⟩
            · exact absurd h.1 hv
            · exact ⟨h.2, hb⟩
          · refine (implReadVar_some s hs a ha k hl hk w).mono ?_
            rintro e w' ⟨h | h, hb⟩
            · exact absurd h.1 hv
            · exact ⟨h.2, hb⟩
      · refine ⟨0, 0, false, by simp, fun w => ?_, fun w => implReadVar_long s hs a ha k hl hk w⟩
        refine (specReadVar_some s hs a ha k hl w).mono ?_
        rintro e w' ⟨h | h, hb⟩
        · exact absurd (hi.1 h.2.1) hk
        · exact ⟨h.2, hb⟩
  · have h : p < 0 ∨ (s.size : Int) < p := by omega
    exact ⟨0, 0, false, by simp, fun w => specReadVar_out s hs p h w, fun w => implReadVar_out s hs p h w⟩

end Go.Proofs.Ytcnnmpenahihnah
