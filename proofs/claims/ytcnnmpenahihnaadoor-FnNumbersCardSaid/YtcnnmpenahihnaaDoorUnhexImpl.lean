/-
  The program's Unhex by what it answers at every text.
-/
import Derived.Test.YtcnnmpenahihnaaDoorWorths
import Derived.Test.YtcnnmpenahihnaaDoorPlainUnhex
import Derived.Test.YtcnnmpenahihnaaDoorUnhexSpec
import Derived.Deep.RegionHeld3
namespace Go.Proofs.YtcnnmpenahihnaaDoor
open Go.RowKit

set_option maxHeartbeats 400000 in
theorem implUnhex_no (s : ByteArray) (h : 40000 < s.size ∨ s.size % 2 ≠ 0) (w : World) :
    Calls Tryd.prog 14 #[.string s] w fun e w' => e = .returned (.tuple #[.string ⟨#[]⟩, .bool false]) ∧ Below w.heap.size w w' := by
  by_cases hs : s.size % 2 ≠ 0
  · have h2 : ((s.size : Int) % 2 != 0) = true := by rw [bne_iff_ne]; omega
    go_enter Tryd.func14, Tryd.ntmps14
    go_wp2
    go_ret2
    exact ⟨rfl, Below.refl _ _⟩
  · have h1 : decide (40000 < (s.size : Int)) = true := decide_eq_true (by omega)
    have h2 : ((s.size : Int) % 2 != 0) = false := by rw [bne_eq_false_iff_eq]; omega
    clear h hs
    go_enter Tryd.func14, Tryd.ntmps14
    go_wp2
    go_ret2
    exact ⟨rfl, Below.refl _ _⟩

set_option maxHeartbeats 400000 in
theorem implUnhex_bad (s : ByteArray) (hs : s.size ≤ 40000) (hev : s.size % 2 = 0) (qs : List Nat) (tail : List UInt8) (h1 : ∀ q ∈ qs, q < 16) (h2 : s.data.toList = qs.map fig ++ tail)
    (h3 : ∀ x r, tail = x :: r → ∀ q, q < 16 → fig q ≠ x) (ht : tail ≠ []) (w : World) :
    Calls Tryd.prog 14 #[.string s] w fun e w' => e = .returned (.tuple #[.string ⟨#[]⟩, .bool false]) ∧ Below w.heap.size w w' := by
  have g1 : decide (40000 < (s.size : Int)) = false := decide_eq_false (by omega)
  have g2 : ((s.size : Int) % 2 != 0) = false := by rw [bne_eq_false_iff_eq]; omega
  have HC := Lib.hid (fun w => worthsOf_any s (by omega) 16 (by omega) qs tail h1 h2 h3 w)
  have HT := Lib.hid ht
  clear h1 h2 h3 ht
  go_enter Tryd.func14, Tryd.ntmps14
  go_wp2_with fail
  refine (HC.out _).mono ?_
  rintro e w1 ⟨h | h, hb1⟩
  · exact absurd h.1 HT.out
  · obtain ⟨-, rfl⟩ := h
    go_wp2
    go_ret2
    exact ⟨rfl, hb1⟩

set_option maxRecDepth 100000 in
set_option maxHeartbeats 800000 in
theorem implUnhex_yes (s : ByteArray) (hs : s.size ≤ 40000) (hev : s.size % 2 = 0) (qs : List Nat) (h1 : ∀ q ∈ qs, q < 16) (h2 : s.data.toList = qs.map fig) (w : World) :
    Calls Tryd.prog 14 #[.string s] w fun e w' => e = .returned (.tuple #[.string ⟨(pairs qs).toArray⟩, .bool true]) ∧ Below w.heap.size w w' := by
  obtain ⟨i0, hi, hz0, hz1, hz2⟩ := info_parts infoByteW
  have g1 : decide (40000 < (s.size : Int)) = false := decide_eq_false (by omega)
  have g2 : ((s.size : Int) % 2 != 0) = false := by rw [bne_eq_false_iff_eq]; omega
  have hlen : s.size = qs.length := by
    have := congrArg List.length h2
    simpa using this
  have hql : qs.length ≤ 40000 := by omega
  have hqe : qs.length % 2 = 0 := by omega
  have HC := Lib.hid (fun w => worthsOf_any s (by omega) 16 (by omega) qs [] h1 (by rw [h2]; simp) (by simp) w)
  have H1 := Lib.hid h1
  clear h1 h2 hlen
  go_enter Tryd.func14, Tryd.ntmps14
  go_wp2_with fail
  refine (HC.out _).mono ?_
  rintro e w1 ⟨h | h, hb1⟩
  · obtain ⟨-, v, rfl, hown⟩ := h
    obtain ⟨ao, cap, rfl, hcell⟩ := worths_form H1.out hown
    have hsz1 := hb1.size
    have HCELL := Lib.hid hcell
    clear hown hcell
    go_wp2_with (at_make; refine wpList_makeB _ rfl _ _ 22 rfl w1.heap.size 5 i0 Tryd.underlying22 hi hz0 hz1 hz2 _ (qs.length / 2) rfl rfl (by omega) (by omega) (Nat.le_refl _) ?_)
    intro v0 w0 hown0 hnx0
    go_wp2
    go_loopw [6, 7] (fun v c wr => ∃ i : Nat, i % 2 = 0 ∧ i ≤ qs.length ∧ c = .int .i64 i ∧ OwnB wr w1.heap.size 5 v (pairs (qs.take i)) ∧ Below w1.heap.size w1 wr) (fun _ c _ => qs.length - (intOf c).toNat)
    case atStart => exact ⟨0, rfl, Nat.zero_le _, rfl, hown0, hnx0⟩
    case round =>
      clear hown0 hnx0
      obtain ⟨i, hie, hiq, rfl, hown, hnx⟩ := hrel
      have hsz := hnx.size
      have hpl := pairs_le qs i hie hiq
      by_cases hlt : i < qs.length
      · have hlt1 : i + 1 < qs.length := by omega
        obtain ⟨g, rfl, hg, hcc⟩ := HCELL.out (by omega)
        have hc0 : wr.cell? ⟨g, i, none⟩ = _ := (hnx.cell (p := ⟨g, i, none⟩) hg).trans (hcc i hlt).1
        have hc1 : wr.cell? ⟨g, i + 1, none⟩ = _ := (hnx.cell (p := ⟨g, i + 1, none⟩) hg).trans (hcc (i + 1) hlt1).1
        have hx := (hcc i hlt).2
        have hy := (hcc (i + 1) hlt1).2
        have HP := Lib.hid (pairs_next qs i hie hlt1)
        clear hcc
        generalize qs.getD i 0 = x at *
        generalize qs.getD (i + 1) 0 = y at *
        have hi1 : (i : Int) < (qs.length : Int) := by omega
        have hi2 : (i : Int) + 1 < (qs.length : Int) := by omega
        have hi3 : IntKind.i64.wrap ((i : Int) + 1) = (i : Int) + 1 := by rw [IntKind.wrap_i64]; omega
        have hi4 : (0 : Int) ≤ (i : Int) + 1 := by omega
        have hm1 : IntKind.u8.wrap ((x : Int) * 16) = (x : Int) * 16 := by rw [IntKind.wrap_u8]; omega
        obtain ⟨b, hm2, HB⟩ : ∃ b : UInt8, IntKind.u8.wrap ((x : Int) * 16 + (y : Int)) = (b.toNat : Int) ∧ Hid (b = UInt8.ofNat (16 * x + y)) :=
          ⟨_, by rw [IntKind.wrap_u8, ← ofNat_int _ (by omega)]; omega, rfl⟩
        go_wp2
        go_region_held3 (fun W => W.cell? ⟨g, i, none⟩ = some (.int .u8 (x : Int)) ∧ W.cell? ⟨g, i + 1, none⟩ = some (.int .u8 (y : Int))) (go_keep) (first | (refine step_push1 rfl (.tmp 34) (.tmp 46) 22 rfl w1.heap.size 5 i0 Tryd.underlying22 hi hz0 hz1 hz2 _ _ rfl hown b _ rfl rfl (by omega) hsz ?_; intro v' w2 hown1 hnx1; have k0 := (hnx1.cell (p := ⟨g, i, none⟩) hg).trans hc0; have k1 := (hnx1.cell (p := ⟨g, i + 1, none⟩) hg).trans hc1))
        all_goals
          go_wp2
          go_roundw
          case rel => exact ⟨i + 2, by omega, by omega, by go_num, by rw [HP.out, ← HB.out]; exact hown1, hnx.trans hnx1⟩
          case measure => simp [intOf]; omega
      · have he : qs.take i = qs := List.take_of_length_le (by omega)
        rw [he] at hown
        clear he
        have hcv := run_string_own (P := Tryd.prog) wr 22 9 5 Tryd.underlying22 Tryd.underlying5 Tryd.underlying9 _ hown
        go_wp2
        go_ret2
        exact ⟨rfl, hb1.trans (hnx.mono hsz1)⟩
  · exact absurd rfl h.1

end Go.Proofs.YtcnnmpenahihnaaDoor
