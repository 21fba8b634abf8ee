/-
  The program's ReadDecimal by what it answers at every text; and that both answer one value.
-/
import Derived.Test.YtmmippdommemmaoDoorReadDecSpec
import Derived.Test.YtmmippdommemmaoDoorWorths
namespace Go.Proofs.YtmmippdommemmaoDoor
open Go.RowKit

theorem not_empty (s : ByteArray) (h : 0 < s.size) : s.toList.isEmpty = false := by
  have h2 : s.data.toList.length = s.size := by simp
  rw [ByteArray.toList_eq, List.isEmpty_eq_false_iff]
  intro e
  rw [e] at h2
  simp at h2
  omega

set_option maxHeartbeats 400000 in
theorem implReadDec_long (s : ByteArray) (h : 10 < s.size) (w : World) :
    Calls Tryd.prog 13 #[.string s] w fun e w' => e = .returned (.tuple #[.int .i64 0, .bool false]) ∧ Below w.heap.size w w' := by
  have h0 := not_empty s (by omega)
  have h1 : decide (10 < (s.size : Int)) = true := decide_eq_true (by omega)
  go_enter Tryd.func13, Tryd.ntmps13
  go_wp2
  go_ret2
  exact ⟨rfl, Below.refl _ _⟩

set_option maxHeartbeats 400000 in
theorem implReadDec_empty (s : ByteArray) (h : s.size = 0) (w : World) :
    Calls Tryd.prog 13 #[.string s] w fun e w' => e = .returned (.tuple #[.int .i64 0, .bool false]) ∧ Below w.heap.size w w' := by
  have h0 : s.toList.isEmpty = true := by
    rw [ByteArray.toList_eq, List.isEmpty_iff]
    exact List.length_eq_zero_iff.1 (by simpa using h)
  clear h
  go_enter Tryd.func13, Tryd.ntmps13
  go_wp2
  go_ret2
  exact ⟨rfl, Below.refl _ _⟩

set_option maxHeartbeats 400000 in
theorem implReadDec_nought (s : ByteArray) (h : 1 < s.size) (hs : s.size ≤ 10) (hz : s[0].toNat = 48) (w : World) :
    Calls Tryd.prog 13 #[.string s] w fun e w' => e = .returned (.tuple #[.int .i64 0, .bool false]) ∧ Below w.heap.size w w' := by
  have h0 := not_empty s (by omega)
  have h1 : decide (10 < (s.size : Int)) = false := decide_eq_false (by omega)
  have h2 : decide (1 < (s.size : Int)) = true := decide_eq_true (by omega)
  have h3 : ((s[0].toNat : Int) == 48) = true := by rw [beq_iff_eq]; omega
  have h4 : 0 < (s.size : Int) := by omega
  clear hz
  go_enter Tryd.func13, Tryd.ntmps13
  go_wp2
  go_ret2
  exact ⟨rfl, Below.refl _ _⟩

/-- What stands behind the first test. -/
def Led (s : ByteArray) : Prop := s.size = 1 ∨ ∃ h : 1 < s.size, (s[0]'(by omega)).toNat ≠ 48

set_option maxRecDepth 100000 in
set_option maxHeartbeats 400000 in
theorem implReadDec_main (s : ByteArray) (hs : s.size ≤ 10) (hs0 : 0 < s.size) (hd : Led s) (qs : List Nat) (tail : List UInt8) (h1 : ∀ q ∈ qs, q < 10) (h2 : s.data.toList = qs.map fig ++ tail)
    (h3 : ∀ x r, tail = x :: r → ∀ q, q < 10 → fig q ≠ x) (w : World) :
    Calls Tryd.prog 13 #[.string s] w fun e w' => ((tail = [] ∧ valD qs ≤ 1000000000 ∧ e = .returned (.tuple #[.int .i64 (valD qs : Nat), .bool true])) ∨
      (¬ (tail = [] ∧ valD qs ≤ 1000000000) ∧ e = .returned (.tuple #[.int .i64 0, .bool false]))) ∧ Below w.heap.size w w' := by
  have g0 := not_empty s hs0
  have g1 : decide (10 < (s.size : Int)) = false := decide_eq_false (by omega)
  have hlen : s.size = qs.length + tail.length := by
    have := congrArg List.length h2
    simpa using this
  have hql : qs.length ≤ 10 := by omega
  have HT : Hid (∀ i, valD (qs.take i) < 10000000000) := fun i => valD_lt _ (fun q hq => h1 q (List.mem_of_mem_take hq)) (by simp; omega)
  have HC := Lib.hid (fun w => worthsOf_any s (by omega) 10 (by omega) qs tail h1 h2 h3 w)
  have H1 := Lib.hid h1
  clear h1 h2 h3 hlen
  have hgo : (decide (1 < (s.size : Int)) = false) ∨ (decide (1 < (s.size : Int)) = true ∧ ((s[0].toNat : Int) == 48) = false) := by
    rcases hd with h | ⟨h, hz⟩
    · left; exact decide_eq_false (by omega)
    · right; exact ⟨decide_eq_true (by omega), by rw [beq_eq_false_iff_ne]; omega⟩
  clear hd
  have hpos : 0 < (s.size : Int) := by omega
  rcases hgo with g2 | ⟨g2, g3⟩
  all_goals
    go_enter Tryd.func13, Tryd.ntmps13
    go_wp2_with fail
    refine (HC.out _).mono ?_
    rintro e w1 ⟨h | h, hb1⟩
    · obtain ⟨ht, v, rfl, hown⟩ := h
      obtain ⟨ao, cap, rfl, hcell⟩ := worths_form (fun q hq => Nat.lt_trans (H1.out q hq) (by omega)) hown
      have HCELL := Lib.hid hcell
      have HTT := Lib.hid ht
      clear hown hcell ht
      go_wp2
      go_loop [6, 8, 35] (fun n d c => ∃ i v : Nat, i ≤ qs.length ∧ c = .int .i64 i ∧ Hid (v = valD (qs.take i)) ∧ n = .int .i64 v) (fun _ _ c => qs.length - (intOf c).toNat)
      case atStart => exact ⟨0, 0, Nat.zero_le _, rfl, rfl, rfl⟩
      case round =>
        obtain ⟨i, v, hiq, rfl, HV, rfl⟩ := hrel
        have hvb : v < 10000000000 := by rw [HV.out]; exact HT.out i
        by_cases hlt : i < qs.length
        · obtain ⟨g, rfl, hg, hcc⟩ := HCELL.out (by omega)
          have hc0 := (hcc i hlt).1
          have hx := (hcc i hlt).2
          have HN := Lib.hid (valD_take qs i hlt)
          clear hcc
          generalize qs.getD i 0 = x at *
          go_wp2
          go_round
          case rel => exact ⟨i + 1, 10 * v + x, by omega, by go_num, by show _ = _; rw [HN.out, ← HV.out], int_eq (by omega)⟩
          case measure => simp [intOf]; omega
        · have HVV : Hid (v = valD qs) := by
            show v = valD qs
            rw [HV.out, List.take_of_length_le (by omega)]
          by_cases hbig : 1000000000 < (v : Int)
          · go_wp2
            go_ret2
            exact ⟨.inr ⟨fun h => by have := HVV.out; omega, rfl⟩, hb1⟩
          · go_wp2
            go_ret2
            exact ⟨.inl ⟨HTT.out, by rw [← HVV.out]; omega, ret_ib (by rw [← HVV.out]) rfl⟩, hb1⟩
    · obtain ⟨ht, rfl⟩ := h
      go_wp2
      go_ret2
      exact ⟨.inr ⟨fun h => ht h.1, rfl⟩, hb1⟩

theorem H0 (s : ByteArray) (qs : List Nat) (tail : List UInt8) (h1 : ∀ q ∈ qs, q < 10) (h2 : s.data.toList = qs.map fig ++ tail) (hp : 0 < s.size) (hq : 0 < qs.length) : (s[0]'hp).toNat = 48 + qs.getD 0 0 := by
  rw [byte_at s 0 hp _ (by rw [h2]; exact at_fig qs tail 0 hq)]
  refine digit_toNat _ (h1 _ ?_)
  rw [List.getD_eq_getElem?_getD, List.getElem?_eq_getElem hq]
  exact List.getElem_mem hq

/-- One value for both. -/
theorem readDec_both (s : ByteArray) : ∃ (n : Int) (b : Bool),
    (∀ w, Calls Tryd.prog 9 #[.string s] w fun e w' => e = .returned (.tuple #[.int .i64 n, .bool b]) ∧ Below w.heap.size w w') ∧
    (∀ w, Calls Tryd.prog 13 #[.string s] w fun e w' => e = .returned (.tuple #[.int .i64 n, .bool b]) ∧ Below w.heap.size w w') := by
  by_cases hs : 10 < s.size
  · exact ⟨_, _, fun w => specReadDec_long s hs w, fun w => implReadDec_long s hs w⟩
  · have hs' : s.size ≤ 10 := by omega
    obtain ⟨qs, tail, a1, a2, a3⟩ := figured 10 s.data.toList
    have hlen : s.size = qs.length + tail.length := by
      have := congrArg List.length a2
      simpa using this
    -- the given one, where its condition fails
    have hno : ¬ (tail = [] ∧ valD qs ≤ 1000000000 ∧ Lib.decDigits (valD qs) = qs.map fig) →
        ∀ w, Calls Tryd.prog 9 #[.string s] w fun e w' => e = .returned (.tuple #[.int .i64 0, .bool false]) ∧ Below w.heap.size w w' := by
      intro hn w
      refine (specReadDec_any s hs' qs tail a1 a2 a3 w).mono ?_
      rintro e w' ⟨h | h, hb⟩
      · exact absurd ⟨h.1, h.2.1, h.2.2.1⟩ hn
      · exact ⟨h.2, hb⟩
    by_cases h0 : s.size = 0
    · refine ⟨_, _, hno ?_, fun w => implReadDec_empty s h0 w⟩
      intro h
      have hq : qs = [] := List.length_eq_zero_iff.1 (by omega)
      have h2 := h.2.2
      rw [hq] at h2
      have h3 := congrArg List.length h2
      have e : valD [] = 0 := rfl
      rw [e, Lib.decDigits_one (by omega)] at h3
      simp at h3
    · have hp : 0 < s.size := by omega
      by_cases hz : ∃ h : 1 < s.size, (s[0]'(by omega)).toNat = 48
      · obtain ⟨hz1, hz2⟩ := hz
        refine ⟨_, _, hno ?_, fun w => implReadDec_nought s hz1 hs' hz2 w⟩
        intro h
        have hq : 1 < qs.length := by rw [h.1] at hlen; simp at hlen; omega
        have hne : qs ≠ [] := fun e => by rw [e] at hq; simp at hq
        have h5 := H0 s qs tail a1 a2 hp (by omega)
        rcases (dec_iff qs a1 hne).1 h.2.2 with h6 | h6
        · omega
        · rw [h5] at hz2
          omega
      · have hled : Led s := by
          by_cases h1 : s.size = 1
          · exact .inl h1
          · exact .inr ⟨by omega, fun e => hz ⟨by omega, e⟩⟩
        by_cases hc : tail = [] ∧ valD qs ≤ 1000000000
        · have hq : 0 < qs.length := by rw [hc.1] at hlen; simp at hlen; omega
          have hne : qs ≠ [] := fun e => by rw [e] at hq; simp at hq
          have hd : Lib.decDigits (valD qs) = qs.map fig := by
            refine (dec_iff qs a1 hne).2 ?_
            have hql : s.size = qs.length := by rw [hc.1] at hlen; simpa using hlen
            rcases hled with h1 | ⟨h1, h2⟩
            · left; omega
            · right
              rw [H0 s qs tail a1 a2 hp hq] at h2
              omega
          refine ⟨(valD qs : Nat), true, fun w => ?_, fun w => ?_⟩
          · refine (specReadDec_any s hs' qs tail a1 a2 a3 w).mono ?_
            rintro e w' ⟨h | h, hb⟩
            · exact ⟨h.2.2.2, hb⟩
            · exact absurd ⟨hc.1, hc.2, hd⟩ h.1
          · refine (implReadDec_main s hs' hp hled qs tail a1 a2 a3 w).mono ?_
            rintro e w' ⟨h | h, hb⟩
            · exact ⟨h.2.2, hb⟩
            · exact absurd hc h.1
        · refine ⟨0, false, hno (fun h => hc ⟨h.1, h.2.1⟩), fun w => ?_⟩
          refine (implReadDec_main s hs' hp hled qs tail a1 a2 a3 w).mono ?_
          rintro e w' ⟨h | h, hb⟩
          · exact absurd ⟨h.1, h.2.1⟩ hc
          · exact ⟨h.2, hb⟩

end Go.Proofs.YtmmippdommemmaoDoor
