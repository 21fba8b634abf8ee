/-
  The program's Hex by what it answers at every text.
-/
import Derived.Test.YtcnnmpenahihnaaDoorRows
import Derived.Test.YtcnnmpenahihnaaDoorKit
import Derived.Test.YtcnnmpenahihnaaDoorPlainHex
import Derived.Deep.RegionHeld3
import Derived.BigQuiet
import Derived.Deep.QuietTactic
import Derived.Deep.DeepCutAuto
namespace Go.Proofs.YtcnnmpenahihnaaDoor
open Go.RowKit

theorem infoByte : (Tryd.prog.info? 5).map (fun i => (i.zero, i.size, i.bytes)) = some (some (.int .u8 0), 1, 1) := by kernel_rfl

set_option maxRecDepth 100000 in
set_option maxHeartbeats 400000 in
theorem implHex_yes (s : ByteArray) (hs : s.size ≤ 20000) (w : World) :
    Calls Tryd.prog 13 #[.string s] w fun e w' => e = .returned (.tuple #[.string ⟨(hexOf s.data.toList).toArray⟩, .bool true]) ∧ Below w.heap.size w w' := by
  obtain ⟨i0, hi, hz0, hz1, hz2⟩ := info_parts infoByte
  have h1 : ¬ 20000 < (s.size : Int) := by omega
  go_enter Tryd.func13, Tryd.ntmps13
  go_wp2_with (at_make; refine wpList_makeB _ rfl _ _ 22 rfl w.heap.size 5 i0 Tryd.underlying22 hi hz0 hz1 hz2 _ (2 * s.size) rfl rfl (by omega) (by omega) (Nat.le_refl _) ?_)
  intro v0 w0 hown0 hnx0
  go_wp2
  go_loopw [4, 16] (fun v c wr => ∃ k : Nat, k ≤ s.size ∧ c = .int .i64 k ∧ OwnB wr w.heap.size 5 v (hexOf (s.data.toList.take k)) ∧ Below w.heap.size w wr) (fun _ c _ => s.size - (intOf c).toNat)
  case atStart => exact ⟨0, Nat.zero_le _, rfl, hown0, hnx0⟩
  case round =>
    clear hown0 hnx0
    obtain ⟨k, hk, rfl, hown, hnx⟩ := hrel
    have hsz := hnx.size
    have hlen : (hexOf (s.data.toList.take k)).length ≤ 40000 := by rw [hexOf_length, List.length_take]; omega
    by_cases hlt : k < s.size
    · have hc : s[k].toNat < 256 := s[k].toNat_lt
      go_upto_region 7 with fail
      go_cut [5, 6] (fun p b wx => ∃ c : Nat, c < 256 ∧ Hid (c = s[k].toNat) ∧ b = .int .u8 c ∧ wx = wr)
      case first =>
        go_wp2_with fail
        go_meet
        exact ⟨s[k].toNat, hc, rfl, rfl, rfl⟩
      case rest =>
        clear hc
        obtain ⟨c, hc, HC, rfl, rfl⟩ := hcut
        obtain ⟨q, hq, hwq, HQ⟩ : ∃ q : Nat, (q : Int) < 16 ∧ IntKind.u8.wrap ((c : Int) / 16) = (q : Int) ∧ Hid (q = c / 16) := ⟨c / 16, by omega, by rw [IntKind.wrap_u8]; omega, rfl⟩
        obtain ⟨r, hr, hwr, HR⟩ : ∃ r : Nat, (r : Int) < 16 ∧ (c : Int).tmod 16 = (r : Int) ∧ Hid (r = c % 16) := ⟨c % 16, by omega, by rw [Int.tmod_eq_emod_of_nonneg (by omega)]; omega, rfl⟩
        go_wp2
        go_region_held3 (fun _ => True) (trivial) (first | (refine step_push2 rfl (.tmp 22) (.tmp 29) 22 rfl w.heap.size 5 i0 Tryd.underlying22 hi hz0 hz1 hz2 _ _ rfl hown (fig q) (fig r) _ _ rfl (figs_int q hq) (figs_int r hr) (by omega) hsz ?_; intro v' w1 hown1 hnx1))
        all_goals
          go_wp2
          go_roundw
          case rel => exact ⟨k + 1, by omega, by go_num, by rw [take_snoc s k hlt, hexOf_snoc, ← HC.out, ← HQ.out, ← HR.out]; exact hown1, hnx.trans hnx1⟩
          case measure => simp [intOf]; omega
    · have he : s.data.toList.take k = s.data.toList := List.take_of_length_le (by simp; omega)
      rw [he] at hown
      clear he
      have hcv := run_string_own (P := Tryd.prog) wr 22 9 5 Tryd.underlying22 Tryd.underlying5 Tryd.underlying9 _ hown
      go_wp2
      go_ret2
      exact ⟨rfl, hnx⟩

set_option maxHeartbeats 400000 in
theorem implHex_no (s : ByteArray) (hs : 20000 < s.size) (w : World) :
    Calls Tryd.prog 13 #[.string s] w fun e w' => e = .returned (.tuple #[.string ⟨#[]⟩, .bool false]) ∧ Below w.heap.size w w' := by
  have h1 : 20000 < (s.size : Int) := by omega
  go_enter Tryd.func13, Tryd.ntmps13
  go_wp2
  go_ret2
  exact ⟨rfl, Below.refl _ _⟩

end Go.Proofs.YtcnnmpenahihnaaDoor
