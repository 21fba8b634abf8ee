/-
  The given ReadDecimal by what it answers at every text.
-/
import Derived.Test.YtmmippdommemmaoDoorDecimalSpec
import Derived.Test.YtmmippdommemmaoDoorPlainAll
namespace Go.Proofs.YtmmippdommemmaoDoor
open Go.RowKit

set_option maxHeartbeats 400000 in
theorem specReadDec_long (s : ByteArray) (h : 10 < s.size) (w : World) :
    Calls Tryd.prog 9 #[.string s] w fun e w' => e = .returned (.tuple #[.int .i64 0, .bool false]) ∧ Below w.heap.size w w' := by
  have h1 : 10 < (s.size : Int) := by omega
  go_enter Tryd.func9, Tryd.ntmps9
  go_wp2
  go_ret2
  exact ⟨rfl, Below.refl _ _⟩

set_option maxRecDepth 100000 in
set_option maxHeartbeats 400000 in
theorem specReadDec_any (s : ByteArray) (hs : s.size ≤ 10) (qs : List Nat) (tail : List UInt8) (h1 : ∀ q ∈ qs, q < 10) (h2 : s.data.toList = qs.map fig ++ tail)
    (h3 : ∀ x r, tail = x :: r → ∀ q, q < 10 → fig q ≠ x) (w : World) :
    Calls Tryd.prog 9 #[.string s] w fun e w' => ((tail = [] ∧ valD qs ≤ 1000000000 ∧ Lib.decDigits (valD qs) = qs.map fig ∧ e = .returned (.tuple #[.int .i64 (valD qs : Nat), .bool true])) ∨
      (¬ (tail = [] ∧ valD qs ≤ 1000000000 ∧ Lib.decDigits (valD qs) = qs.map fig) ∧ e = .returned (.tuple #[.int .i64 0, .bool false]))) ∧ Below w.heap.size w w' := by
  have hlen : s.size = qs.length + tail.length := by
    have := congrArg List.length h2
    simpa using this
  have g1 : ¬ 10 < (s.size : Int) := by omega
  have hql : qs.length ≤ 10 := by omega
  have HT : Hid (∀ i, valD (qs.take i) < 10000000000) := fun i => valD_lt _ (fun q hq => h1 q (List.mem_of_mem_take hq)) (by simp; omega)
  have H1 := Lib.hid h1
  have H2 := Lib.hid h2
  have H3 := Lib.hid h3
  have HL := Lib.hid hlen
  clear h1 h2 h3 hlen
  go_enter Tryd.func9, Tryd.ntmps9
  go_wp2
  go_loop [4, 5] (fun n c => ∃ i v : Nat, i ≤ qs.length ∧ i ≤ s.size ∧ c = .int .i64 i ∧ Hid (v = valD (qs.take i)) ∧ n = .int .i64 v) (fun _ c => s.size - (intOf c).toNat)
  case atStart => exact ⟨0, 0, Nat.zero_le _, Nat.zero_le _, rfl, rfl, rfl⟩
  case round =>
    obtain ⟨i, v, hiq, his, rfl, HV, rfl⟩ := hrel
    have hvb : v < 10000000000 := by rw [HV.out]; exact HT.out i
    by_cases hlt : i < s.size
    · by_cases hin : i < qs.length
      · obtain ⟨q, hq, HQ⟩ : ∃ q : Nat, q < 10 ∧ Hid (q = qs.getD i 0) := ⟨_, H1.out _ (by rw [List.getD_eq_getElem?_getD, List.getElem?_eq_getElem hin]; exact List.getElem_mem hin), rfl⟩
        have hb : s[i].toNat = 48 + q := by
          rw [byte_at s i hlt _ (by rw [H2.out]; exact at_fig qs tail i hin), ← HQ.out]
          exact digit_toNat q hq
        have HB := Lib.hid hb
        have hb1 : 48 ≤ (s[i].toNat : Int) := by omega
        have hb2 : (s[i].toNat : Int) ≤ 57 := by omega
        have gb1 : decide ((s[i].toNat : Int) < 48) = false := decide_eq_false (by omega)
        have gb2 : decide ((57 : Int) < (s[i].toNat : Int)) = false := decide_eq_false (by omega)
        have HN := Lib.hid (valD_take qs i hin)
        clear hb
        go_wp2
        go_round
        case rel => exact ⟨i + 1, 10 * v + q, by omega, by omega, by go_num, by show _ = _; rw [HN.out, ← HV.out, ← HQ.out], int_eq (by have := HB.out; omega)⟩
        case measure => simp [intOf]; omega
      · have hi2 : i = qs.length := by omega
        have HT2 : Hid (tail ≠ []) := by
          intro ht
          have hk := HL.out
          rw [ht] at hk
          simp at hk
          omega
        have hx : s[i].toNat < 48 ∨ 57 < s[i].toNat := by
          cases ht : tail with
          | nil => exact absurd ht HT2.out
          | cons x r =>
            rw [byte_at s i hlt x (by rw [H2.out, ht, hi2]; exact at_tail qs x r)]
            exact no_digit x (H3.out x r ht)
        clear hi2
        by_cases hx1 : s[i].toNat < 48
        · have gb1 : decide ((s[i].toNat : Int) < 48) = true := decide_eq_true (by omega)
          clear hx hx1
          go_wp2
          go_ret2
          exact ⟨.inr ⟨by first | exact (fun h => absurd h.1 HT2.out) | exact (fun h => absurd h HT2.out), rfl⟩, Below.refl _ _⟩
        · have gb1 : decide ((s[i].toNat : Int) < 48) = false := decide_eq_false (by omega)
          have gb2 : decide ((57 : Int) < (s[i].toNat : Int)) = true := decide_eq_true (by omega)
          clear hx hx1
          go_wp2
          go_ret2
          exact ⟨.inr ⟨by first | exact (fun h => absurd h.1 HT2.out) | exact (fun h => absurd h HT2.out), rfl⟩, Below.refl _ _⟩
    · have hk := HL.out
      have HE : Hid (tail = []) := List.length_eq_zero_iff.1 (by omega)
      have HVV : Hid (v = valD qs) := by
        show v = valD qs
        rw [HV.out, List.take_of_length_le (by omega)]
      have HSL : Hid (s.toList = qs.map fig) := by
        show s.toList = _
        rw [ByteArray.toList_eq, H2.out, HE.out, List.append_nil]
      clear hk
      by_cases hbig : 1000000000 < (v : Int)
      · have gb : decide (1000000000 < (v : Int)) = true := decide_eq_true hbig
        go_wp2
        go_ret2
        exact ⟨.inr ⟨fun h => by have := HVV.out; omega, rfl⟩, Below.refl _ _⟩
      · have gb : decide (1000000000 < (v : Int)) = false := decide_eq_false hbig
        have HC := Lib.hid (fun w => specDecimal_any (v : Int) (by omega) (by omega) w)
        rw [Lib.itoa_nonneg] at HC
        by_cases heq : Lib.decDigits v = s.toList
        · have gq : (Lib.decDigits v == s.toList) = true := by rw [beq_iff_eq]; exact heq
          have HQ := Lib.hid heq
          clear heq
          go_wp2_with fail
          refine (HC.out _).mono ?_
          rintro e w1 ⟨rfl, hb1⟩
          go_wp2
          go_ret2
          exact ⟨.inl ⟨HE.out, by rw [← HVV.out]; omega, by rw [← HVV.out, HQ.out, HSL.out], ret_ib (by rw [← HVV.out]) rfl⟩, hb1⟩
        · have gq : (Lib.decDigits v == s.toList) = false := by rw [beq_eq_false_iff_ne]; exact heq
          have HQ := Lib.hid heq
          clear heq
          go_wp2_with fail
          refine (HC.out _).mono ?_
          rintro e w1 ⟨rfl, hb1⟩
          go_wp2
          go_ret2
          refine ⟨.inr ⟨fun h => ?_, rfl⟩, hb1⟩
          rw [← HVV.out, ← HSL.out] at h
          exact HQ.out h.2.2

end Go.Proofs.YtmmippdommemmaoDoor
