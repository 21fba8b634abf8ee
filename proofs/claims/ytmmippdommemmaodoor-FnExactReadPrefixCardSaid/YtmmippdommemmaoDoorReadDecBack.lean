/-
  The program's ReadDecimal by its answer.
-/
import Derived.Test.YtmmippdommemmaoDoorReadDecImpl
import Derived.Test.YtmmippdommemmaoDoorPlainAll
namespace Go.Proofs.YtmmippdommemmaoDoor
open Go.RowKit

theorem implReadDec_yes (m : Nat) (hm : m ≤ 1000000000) (s : ByteArray) (he : s.data.toList = Lib.decDigits m) (w : World) :
    Calls Tryd.prog 13 #[.string s] w fun e w' => e = .returned (.tuple #[.int .i64 m, .bool true]) ∧ Below w.heap.size w w' := by
  obtain ⟨qs, h1, h2, h3, h4⟩ := dec_back m m (Nat.le_refl _)
  have hl := dec_length 10 m (by omega) (by omega)
  have hq : 0 < qs.length := List.length_pos_iff.2 h2
  have hsl : s.data.toList.length = s.size := by simp
  have hs : s.size = qs.length := by rw [← hsl, he, h3]; simp
  have hs2 : s.size ≤ 10 := by rw [← hsl, he]; exact hl
  have ha : s.data.toList = qs.map fig ++ [] := by rw [he, h3]; simp
  have hd : qs.length = 1 ∨ qs.getD 0 0 ≠ 0 := (dec_iff qs h1 h2).1 (by rw [h4]; exact h3)
  have hled : Led s := by
    by_cases h6 : qs.length = 1
    · exact .inl (by omega)
    · have hd2 : qs.getD 0 0 ≠ 0 := hd.resolve_left h6
      refine .inr ⟨by omega, ?_⟩
      rw [H0 _ qs [] h1 ha (by omega) hq]
      omega
  refine (implReadDec_main s hs2 (by omega) hled qs [] h1 ha (by simp) w).mono ?_
  rintro e w' ⟨h5 | h5, hb⟩
  · rw [h4] at h5
    exact ⟨h5.2.2, hb⟩
  · exact absurd ⟨rfl, by omega⟩ h5.1
theorem implReadDec_no (s : ByteArray) (h : ∀ m, m ≤ 1000000000 → s.data.toList ≠ Lib.decDigits m) (w : World) :
    Calls Tryd.prog 13 #[.string s] w fun e w' => e = .returned (.tuple #[.int .i64 0, .bool false]) ∧ Below w.heap.size w w' := by
  by_cases hs : 10 < s.size
  · exact implReadDec_long s hs w
  · by_cases h0 : s.size = 0
    · exact implReadDec_empty s h0 w
    · have hp : 0 < s.size := by omega
      by_cases hz : ∃ h : 1 < s.size, (s[0]'(by omega)).toNat = 48
      · obtain ⟨hz1, hz2⟩ := hz
        exact implReadDec_nought s hz1 (by omega) hz2 w
      · obtain ⟨qs, tail, a1, a2, a3⟩ := figured 10 s.data.toList
        have hlen : s.size = qs.length + tail.length := by
          have := congrArg List.length a2
          simpa using this
        have hled : Led s := by
          by_cases h1 : s.size = 1
          · exact .inl h1
          · exact .inr ⟨by omega, fun e => hz ⟨by omega, e⟩⟩
        refine (implReadDec_main s (by omega) hp hled qs tail a1 a2 a3 w).mono ?_
        rintro e w' ⟨h5 | h5, hb⟩
        · exfalso
          have hq : 0 < qs.length := by rw [h5.1] at hlen; simp at hlen; omega
          have hne : qs ≠ [] := fun e => by rw [e] at hq; simp at hq
          have hd : Lib.decDigits (valD qs) = qs.map fig := by
            refine (dec_iff qs a1 hne).2 ?_
            have hql : s.size = qs.length := by rw [h5.1] at hlen; simpa using hlen
            rcases hled with h1 | ⟨h1, h2⟩
            · left; omega
            · right
              rw [H0 s qs tail a1 a2 hp hq] at h2
              omega
          exact h _ h5.2.1 (by rw [a2, h5.1, List.append_nil, hd])
        · exact ⟨h5.2, hb⟩
/-- A text's number, or none. -/
theorem implReadDec_all (p : List UInt8) : ∃ (n : Nat) (b : Bool), n ≤ 1000000000 ∧ (∀ w, Calls Tryd.prog 13 #[.string ⟨p.toArray⟩] w fun e w' => e = .returned (.tuple #[.int .i64 n, .bool b]) ∧ Below w.heap.size w w') ∧
    ((b = true ∧ Lib.decDigits n = p) ∨ (b = false ∧ n = 0 ∧ ∀ m, m ≤ 1000000000 → Lib.decDigits m ≠ p)) := by
  by_cases h : ∃ m, m ≤ 1000000000 ∧ Lib.decDigits m = p
  · obtain ⟨m, hm, hp⟩ := h
    exact ⟨m, true, hm, fun w => implReadDec_yes m hm _ (by rw [hp]) w, .inl ⟨rfl, hp⟩⟩
  · exact ⟨0, false, by omega, fun w => implReadDec_no _ (fun m hm e => h ⟨m, hm, e.symm⟩) w, .inr ⟨rfl, rfl, fun m hm e => h ⟨m, hm, e⟩⟩⟩

end Go.Proofs.YtmmippdommemmaoDoor
