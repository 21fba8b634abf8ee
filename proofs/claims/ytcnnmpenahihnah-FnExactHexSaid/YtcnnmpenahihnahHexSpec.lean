/-
  The given Hex by what it answers at every text.
-/
import Derived.Test.YtcnnmpenahihnahFigure
import Derived.Test.YtcnnmpenahihnahHexImpl
namespace Go.Proofs.Ytcnnmpenahihnah
open Go.RowKit

set_option maxRecDepth 100000 in
set_option maxHeartbeats 800000 in
theorem specHex_yes (s : ByteArray) (hs : s.size ≤ 20000) (w : World) :
    Calls Try.prog 12 #[.string s] w fun e w' => e = .returned (.tuple #[.string ⟨(hexOf s.data.toList).toArray⟩, .bool true]) ∧ Below w.heap.size w w' := by
  obtain ⟨i0, hi, hz0, hz1, hz2⟩ := info_parts infoByte
  have h1 : ¬ 20000 < (s.size : Int) := by omega
  go_enter Try.func12, Try.ntmps12
  go_wp2
  go_loopw [4, 5] (fun v c wr => ∃ k : Nat, k ≤ s.size ∧ c = .int .i64 k ∧ OwnB wr w.heap.size 5 v (hexOf (s.data.toList.take k)) ∧ Below w.heap.size w wr) (fun _ c _ => s.size - (intOf c).toNat)
  case atStart => exact ⟨0, Nat.zero_le _, rfl, OwnB.lit _ _ _ (Nat.le_refl _), (Below.refl _ _).alloc (Nat.le_refl _) _⟩
  case round =>
    obtain ⟨k, hk, rfl, hown, hnx⟩ := hrel
    have hsz := hnx.size
    have hlen : (hexOf (s.data.toList.take k)).length ≤ 40000 := by rw [hexOf_length, List.length_take]; omega
    by_cases hlt : k < s.size
    · have hc : s[k].toNat < 256 := s[k].toNat_lt
      have hk1 : (k : Int) < (s.size : Int) := by omega
      have hw0 : IntKind.i64.wrap (s[k].toNat : Int) = (s[k].toNat : Int) := by rw [IntKind.wrap_i64]; omega
      obtain ⟨q, hq, hwq, HQ⟩ : ∃ q : Nat, (q : Int) < 16 ∧ IntKind.i64.wrap ((s[k].toNat : Int) / 16) = (q : Int) ∧ Hid (q = s[k].toNat / 16) :=
        ⟨s[k].toNat / 16, by omega, by rw [IntKind.wrap_i64]; omega, rfl⟩
      obtain ⟨r, hr, hwr, HR⟩ : ∃ r : Nat, (r : Int) < 16 ∧ ((s[k].toNat : Int).tmod 16 = (r : Int) ∧ (s[k].toNat : Int) % 16 = (r : Int)) ∧ Hid (r = s[k].toNat % 16) :=
        ⟨s[k].toNat % 16, by omega, ⟨by rw [Int.tmod_eq_emod_of_nonneg (by omega)]; omega, by omega⟩, rfl⟩
      obtain ⟨hwr1, hwr2⟩ := hwr
      go_wp2
      go_region_held3 (fun _ => True) (trivial) (first | (refine step_push2 rfl (.tmp 16) (.tmp 29) 35 rfl w.heap.size 5 i0 Try.underlying35 hi hz0 hz1 hz2 _ _ rfl hown (fig q) (fig r) _ _ rfl rfl rfl (by omega) hsz ?_; intro v' w1 hown1 hnx1) | (go_at_call_of 23 (Value.int IntKind.i64 (q : Int)); refine (l01Figure_any q hq _).mono ?_; rintro e w' ⟨rfl, rfl⟩) | (go_at_call_of 23 (Value.int IntKind.i64 (r : Int)); refine (l01Figure_any r hr _).mono ?_; rintro e w' ⟨rfl, rfl⟩))
      all_goals
        go_wp2
        go_roundw
        case rel => exact ⟨k + 1, by omega, by go_num, by rw [take_snoc s k hlt, hexOf_snoc, ← HQ.out, ← HR.out]; exact hown1, hnx.trans hnx1⟩
        case measure => simp [intOf]; omega
    · have he : s.data.toList.take k = s.data.toList := List.take_of_length_le (by simp; omega)
      rw [he] at hown
      clear he
      have hcv := run_string_own (P := Try.prog) wr 35 9 5 Try.underlying35 Try.underlying5 Try.underlying9 _ hown
      go_wp2
      go_ret2
      exact ⟨rfl, hnx⟩

set_option maxHeartbeats 400000 in
theorem specHex_no (s : ByteArray) (hs : 20000 < s.size) (w : World) :
    Calls Try.prog 12 #[.string s] w fun e w' => e = .returned (.tuple #[.string ⟨#[]⟩, .bool false]) ∧ Below w.heap.size w w' := by
  have h1 : 20000 < (s.size : Int) := by omega
  go_enter Try.func12, Try.ntmps12
  go_wp2
  go_ret2
  exact ⟨rfl, Below.refl _ _⟩

/-- One value for both. -/
theorem hex_both (s : ByteArray) : ∃ (t : ByteArray) (b : Bool),
    (∀ w, Calls Try.prog 12 #[.string s] w fun e w' => e = .returned (.tuple #[.string t, .bool b]) ∧ Below w.heap.size w w') ∧
    (∀ w, Calls Try.prog 13 #[.string s] w fun e w' => e = .returned (.tuple #[.string t, .bool b]) ∧ Below w.heap.size w w') := by
  by_cases hs : s.size ≤ 20000
  · exact ⟨_, _, fun w => specHex_yes s hs w, fun w => implHex_yes s hs w⟩
  · exact ⟨_, _, fun w => specHex_no s (by omega) w, fun w => implHex_no s (by omega) w⟩

end Go.Proofs.Ytcnnmpenahihnah
