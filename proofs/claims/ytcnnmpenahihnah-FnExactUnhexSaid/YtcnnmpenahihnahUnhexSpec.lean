/-
  The given Unhex by what it answers at every text.
-/
import Derived.Test.YtcnnmpenahihnahValue
import Derived.Test.YtcnnmpenahihnahWorths
namespace Go.Proofs.Ytcnnmpenahihnah
open Go.RowKit

set_option maxHeartbeats 400000 in
theorem specUnhex_no (s : ByteArray) (h : 40000 < s.size ∨ s.size % 2 ≠ 0) (w : World) :
    Calls Try.prog 14 #[.string s] w fun e w' => e = .returned (.tuple #[.string ⟨#[]⟩, .bool false]) ∧ Below w.heap.size w w' := by
  by_cases hs : 40000 < s.size
  · have h1 : decide (40000 < (s.size : Int)) = true := decide_eq_true (by omega)
    go_enter Try.func14, Try.ntmps14
    go_wp2
    go_ret2
    exact ⟨rfl, Below.refl _ _⟩
  · have h1 : decide (40000 < (s.size : Int)) = false := decide_eq_false (by omega)
    have h2 : ((s.size : Int) % 2 != 0) = true := by rw [bne_iff_ne]; omega
    have hb : (s.size : Int) ≤ 40000 := by omega
    clear h
    go_enter Try.func14, Try.ntmps14
    go_wp2
    go_ret2
    exact ⟨rfl, Below.refl _ _⟩

set_option maxRecDepth 100000 in
set_option maxHeartbeats 800000 in
theorem specUnhex_yes (s : ByteArray) (hs : s.size ≤ 40000) (hev : s.size % 2 = 0) (qs : List Nat) (tail : List UInt8) (h1 : ∀ q ∈ qs, q < 16) (h2 : s.data.toList = qs.map fig ++ tail)
    (h3 : ∀ x r, tail = x :: r → ∀ q, q < 16 → fig q ≠ x) (w : World) :
    Calls Try.prog 14 #[.string s] w fun e w' => ((tail = [] ∧ e = .returned (.tuple #[.string ⟨(pairs qs).toArray⟩, .bool true])) ∨
      (tail ≠ [] ∧ e = .returned (.tuple #[.string ⟨#[]⟩, .bool false]))) ∧ Below w.heap.size w w' := by
  obtain ⟨i0, hi, hz0, hz1, hz2⟩ := info_parts infoByteW
  have hlen : s.size = qs.length + tail.length := by
    have := congrArg List.length h2
    simpa using this
  have g1 : decide (40000 < (s.size : Int)) = false := decide_eq_false (by omega)
  have g2 : ((s.size : Int) % 2 != 0) = false := by rw [bne_eq_false_iff_eq]; omega
  have HW := Lib.hid (worth_at s qs tail h1 h2)
  have HE := Lib.hid (worth_end s qs tail h2 h3)
  have HL := Lib.hid hlen
  have H1 := Lib.hid h1
  clear h1 h2 h3 hlen
  go_enter Try.func14, Try.ntmps14
  go_wp2
  go_loopw [4, 5] (fun v c wr => ∃ i : Nat, i % 2 = 0 ∧ i ≤ qs.length ∧ i ≤ s.size ∧ c = .int .i64 i ∧ OwnB wr w.heap.size 5 v (pairs (qs.take i)) ∧ Below w.heap.size w wr) (fun _ c _ => s.size - (intOf c).toNat)
  case atStart => exact ⟨0, rfl, Nat.zero_le _, Nat.zero_le _, rfl, OwnB.lit _ _ _ (Nat.le_refl _), (Below.refl _ _).alloc (Nat.le_refl _) _⟩
  case round =>
    obtain ⟨i, hie, hiq, his, rfl, hown, hnx⟩ := hrel
    have hsz := hnx.size
    have hpl := pairs_le qs i hie hiq
    by_cases hlt : i < s.size
    · have hlt1 : i + 1 < s.size := by omega
      obtain ⟨x, hx, HX⟩ : ∃ x : Int, (-1 ≤ x ∧ x ≤ 15) ∧ Hid (worthI s[i] = x) := ⟨_, worthI_bd s[i], rfl⟩
      obtain ⟨y, hy, HY⟩ : ∃ y : Int, (-1 ≤ y ∧ y ≤ 15) ∧ Hid (worthI s[i + 1] = y) := ⟨_, worthI_bd s[i + 1], rfl⟩
      obtain ⟨hx0, hx1⟩ := hx
      obtain ⟨hy0, hy1⟩ := hy
      have HC1 : Hid (∀ w, Calls Try.prog 24 #[.int .u8 (s[i].toNat : Nat)] w fun e w' => e = .returned (.int .i64 x) ∧ w' = w) := by
        intro w
        rw [← HX.out]
        exact l01Value_any s[i] w
      have HC2 : Hid (∀ w, Calls Try.prog 24 #[.int .u8 (s[i + 1].toNat : Nat)] w fun e w' => e = .returned (.int .i64 y) ∧ w' = w) := by
        intro w
        rw [← HY.out]
        exact l01Value_any s[i + 1] w
      by_cases hin : i + 1 < qs.length
      · have HXV : Hid (x = qs.getD i 0) := by show x = _; rw [← HX.out]; exact HW.out i hlt (by omega)
        have HYV : Hid (y = qs.getD (i + 1) 0) := by show y = _; rw [← HY.out]; exact HW.out (i + 1) hlt1 hin
        have hx2 : 0 ≤ x := by rw [HXV.out]; omega
        have hy2 : 0 ≤ y := by rw [HYV.out]; omega
        have gx : decide (x < 0) = false := decide_eq_false (by omega)
        have gy : decide (y < 0) = false := decide_eq_false (by omega)
        go_wp2_with fail
        refine (HC1.out _).mono ?_
        rintro e w' ⟨rfl, rfl⟩
        go_wp2_with fail
        refine (HC2.out _).mono ?_
        rintro e w' ⟨rfl, rfl⟩
        obtain ⟨b, HB1, HB2⟩ : ∃ b : UInt8, Hid (16 * x + y = (b.toNat : Int)) ∧ Hid (b = UInt8.ofNat (16 * qs.getD i 0 + qs.getD (i + 1) 0)) := by
          refine ⟨_, ?_, rfl⟩
          show _ = _
          have ex := HXV.out
          have ey := HYV.out
          rw [← ofNat_int _ (by omega)]
          omega
        go_wp2_with (at_builtin; refine wpList_push _ rfl _ _ 35 rfl w.heap.size 5 i0 Try.underlying35 hi hz0 hz1 hz2 _ _ rfl hown b _ rfl HB1.out (by omega) hsz ?_)
        intro v' w1 hown1 hnx1
        go_wp2
        go_roundw
        case rel => exact ⟨i + 2, by omega, by omega, by omega, by go_num, by rw [pairs_next qs i hie hin, ← HB2.out]; exact hown1, hnx.trans hnx1⟩
        case measure => simp [intOf]; omega
      · have HT : Hid (tail ≠ []) := by
          intro ht
          have hk := HL.out
          rw [ht] at hk
          simp at hk
          omega
        have hbad : x = -1 ∨ (0 ≤ x ∧ y = -1) := by
          by_cases e : i = qs.length
          · left
            rw [← HX.out]
            have h5 := HE.out (by omega)
            simp only [← e] at h5
            exact h5
          · right
            have e2 : i + 1 = qs.length := by omega
            refine ⟨by rw [← HX.out, HW.out i hlt (by omega)]; omega, ?_⟩
            rw [← HY.out]
            have h5 := HE.out (by omega)
            simp only [← e2] at h5
            exact h5
        rcases hbad with hb | ⟨hb, hb2⟩
        · have gx : decide (x < 0) = true := decide_eq_true (by omega)
          clear hb
          go_wp2_with fail
          refine (HC1.out _).mono ?_
          rintro e w' ⟨rfl, rfl⟩
          go_wp2_with fail
          refine (HC2.out _).mono ?_
          rintro e w' ⟨rfl, rfl⟩
          go_wp2
          go_ret2
          exact ⟨.inr ⟨HT.out, rfl⟩, hnx⟩
        · have gx : decide (x < 0) = false := decide_eq_false (by omega)
          have gy : decide (y < 0) = true := decide_eq_true (by omega)
          clear hb2
          go_wp2_with fail
          refine (HC1.out _).mono ?_
          rintro e w' ⟨rfl, rfl⟩
          go_wp2_with fail
          refine (HC2.out _).mono ?_
          rintro e w' ⟨rfl, rfl⟩
          go_wp2
          go_ret2
          exact ⟨.inr ⟨HT.out, rfl⟩, hnx⟩
    · have ht : tail = [] := by
        have hk := HL.out
        exact List.length_eq_zero_iff.1 (by omega)
      have he : qs.take i = qs := List.take_of_length_le (by have hk := HL.out; omega)
      rw [he] at hown
      have HT := Lib.hid ht
      clear he ht
      have hcv := run_string_own (P := Try.prog) wr 35 9 5 Try.underlying35 Try.underlying5 Try.underlying9 _ hown
      go_wp2
      go_ret2
      exact ⟨.inl ⟨HT.out, rfl⟩, hnx⟩

end Go.Proofs.Ytcnnmpenahihnah
