/-
  The given ReadVar by what it answers at every text and place.
-/
import Derived.Test.YtdhacjpdlmnlmarDoorJ01
import Derived.Test.YtdhacjpdlmnlmarDoorJ02
import Derived.BigQuiet
import Derived.Deep.QuietTactic
import Derived.Deep.RegionHeld3
import Derived.Lib.Strings
import Derived.Deep.DeepCutAuto
namespace Go.Proofs.YtdhacjpdlmnlmarDoor
open Go.RowKit

set_option maxRecDepth 100000 in
set_option maxHeartbeats 400000 in
theorem specReadVar_out (s : ByteArray) (_hs : s.size ≤ 1048576) (p : Int) (h : p < 0 ∨ (s.size : Int) < p) (w : World) :
    Calls Tryd.prog 22 #[.string s, .int .i64 p] w fun e w' => e = .returned (.tuple #[.int .i64 0, .int .i64 0, .bool false]) ∧ Below w.heap.size w w' := by
  go_enter Tryd.func22, Tryd.ntmps22
  go_wp2_with fail
  refine (l01In_no p 0 s.size h _).mono ?_
  rintro e w1 ⟨rfl, rfl⟩
  go_wp2
  go_ret3
  exact ⟨rfl, Below.refl _ _⟩

theorem getD_drop (s : ByteArray) (a j : Nat) (h : a + j < s.size) : (s.data.toList.drop a).getD j 0 = s[a + j] := by
  rw [List.getD_eq_getElem?_getD, List.getElem?_drop]
  have e2 : a + j < s.data.toList.length := by simpa using h
  rw [List.getElem?_eq_getElem e2]
  rfl

/-- One step of the number that is read. -/
theorem step_read (s : ByteArray) (a j : Nat) (h : a + j < s.size) : val ((s.data.toList.drop a).take (j + 1)) = val ((s.data.toList.drop a).take j) + s[a + j].toNat % 128 * 128 ^ j := by
  have hl : j < (s.data.toList.drop a).length := by simp; omega
  rw [val_take_succ _ j hl, getD_drop s a j h]

theorem pow_bound (j : Nat) (h : j ≤ 4) : 128 ^ j ≤ 268435456 := Nat.pow_le_pow_right (n := 128) (by omega) h

theorem pow_bound5 (j : Nat) (h : j ≤ 5) : 128 ^ j ≤ 34359738368 := Nat.pow_le_pow_right (n := 128) (by omega) h

/-- What a round reads, in the walk's own words: the number behind it. -/
theorem round_facts (s : ByteArray) (a j v sc : Nat) (h : a + j < s.size) (hj : j ≤ 4) (e1 : v = val ((s.data.toList.drop a).take j)) (e2 : sc = 128 ^ j) :
    0 ≤ (s[a + j].toNat : Int) % 128 * (sc : Int) ∧ (s[a + j].toNat : Int) % 128 * (sc : Int) ≤ 34359738368 ∧ (v : Int) + (s[a + j].toNat : Int) % 128 * (sc : Int) ≤ 34359738368 ∧
    ((v : Int) + (s[a + j].toNat : Int) % 128 * (sc : Int)).toNat = val ((s.data.toList.drop a).take (j + 1)) ∧ sc ≤ 268435456 ∧ sc * 128 = 128 ^ (j + 1) := by
  have hst := step_read s a j h
  have hvb := val_five ((s.data.toList.drop a).take (j + 1)) (by simp; omega)
  have hc : (s[a + j].toNat : Int) % 128 * (sc : Int) = ((s[a + j].toNat % 128 * sc : Nat) : Int) := by
    rw [Int.natCast_mul]
    rfl
  rw [hc]
  rw [← e1, ← e2] at hst
  refine ⟨by omega, by omega, by omega, by omega, by rw [e2]; exact pow_bound j hj, by rw [e2, Nat.pow_succ]⟩

set_option maxRecDepth 100000 in
set_option maxHeartbeats 400000 in
theorem specReadVar_none (s : ByteArray) (hs : s.size ≤ 1048576) (a : Nat) (ha : a ≤ s.size) (h : low 5 (s.data.toList.drop a) = none) (w : World) :
    Calls Tryd.prog 22 #[.string s, .int .i64 a] w fun e w' => e = .returned (.tuple #[.int .i64 0, .int .i64 0, .bool false]) ∧ Below w.heap.size w w' := by
  have h0 : 0 ≤ (a : Int) := by omega
  have h1 : (a : Int) ≤ (s.size : Int) := by omega
  have HN := Lib.hid (low_none 5 _ h)
  clear h
  go_enter Tryd.func22, Tryd.ntmps22
  go_wp2_with fail
  refine (l01In_yes a 0 s.size h0 h1 _).mono ?_
  rintro e w1 ⟨rfl, rfl⟩
  go_wp2
  go_loop [7, 8, 9] (fun n c p => ∃ j v sc : Nat, j ≤ 5 ∧ a + j ≤ s.size ∧ Hid (v = val ((s.data.toList.drop a).take j) ∧ sc = 128 ^ j) ∧ n = .int .i64 v ∧ c = .int .i64 sc ∧ p = .int .i64 ((a : Int) + j)) (fun _ _ p => (a + 5 - intOf p).toNat)
  case atStart => exact ⟨0, 0, 1, by omega, by omega, ⟨rfl, rfl⟩, rfl, rfl, int_eq (by omega)⟩
  case round =>
    obtain ⟨j, v, sc, hj, hl, HX, rfl, rfl, rfl⟩ := hrel
    by_cases hlt : a + j < s.size
    · by_cases h5 : j < 5
      · obtain ⟨hp0, hp1, hp2, hq1, hsc, hq2⟩ := round_facts s a j v sc hlt (by omega) HX.out.1 HX.out.2
        have hc : s[a + j].toNat < 256 := s[a + j].toNat_lt
        have HB : Hid (128 ≤ (s[a + j].toNat : Int)) := by
          have := HN.out j (by omega) (by simp; omega)
          rw [getD_drop s a j hlt] at this
          show 128 ≤ (s[a + j].toNat : Int)
          omega
        have HQ1 := Lib.hid hq1
        have HQ2 := Lib.hid hq2
        clear hq1 hq2
        go_wp2
        · have := HB.out
          omega
        · go_round
          case rel => exact ⟨j + 1, ((v : Int) + (s[a + j].toNat : Int) % 128 * (sc : Int)).toNat, sc * 128, by omega, by omega, ⟨HQ1.out, HQ2.out⟩, int_eq (by omega), int_eq (by omega), int_eq (by omega)⟩
          case measure => simp [intOf]; omega
      · go_wp2
        go_ret3
        exact ⟨rfl, Below.refl _ _⟩
    · go_wp2
      go_ret3
      exact ⟨rfl, Below.refl _ _⟩

set_option maxRecDepth 100000 in
set_option maxHeartbeats 400000 in
theorem specReadVar_some (s : ByteArray) (hs : s.size ≤ 1048576) (a : Nat) (ha : a ≤ s.size) (k : Nat) (h : low 5 (s.data.toList.drop a) = some k) (w : World) :
    Calls Tryd.prog 22 #[.string s, .int .i64 a] w fun e w' =>
      (val ((s.data.toList.drop a).take (k + 1)) ≤ 1000000000 ∧ var (val ((s.data.toList.drop a).take (k + 1))) = (s.data.toList.drop a).take (k + 1) ∧ e = .returned (.tuple #[.int .i64 (val ((s.data.toList.drop a).take (k + 1)) : Nat), .int .i64 ((a + k + 1 : Nat) : Int), .bool true]) ∨
       ¬ (val ((s.data.toList.drop a).take (k + 1)) ≤ 1000000000 ∧ var (val ((s.data.toList.drop a).take (k + 1))) = (s.data.toList.drop a).take (k + 1)) ∧ e = .returned (.tuple #[.int .i64 0, .int .i64 0, .bool false])) ∧ Below w.heap.size w w' := by
  have h0 : 0 ≤ (a : Int) := by omega
  have h1 : (a : Int) ≤ (s.size : Int) := by omega
  obtain ⟨k5, kl, hh, hlo⟩ := low_some _ _ _ h
  have kl' : a + k < s.size := by simp at kl; omega
  have HN := Lib.hid hh
  have HL := Lib.hid hlo
  clear h hh hlo kl
  obtain ⟨N, hN⟩ : ∃ N, N = val ((s.data.toList.drop a).take (k + 1)) := ⟨_, rfl⟩
  obtain ⟨T, hT⟩ : ∃ T, T = (s.data.toList.drop a).take (k + 1) := ⟨_, rfl⟩
  rw [← hN, ← hT]
  have HNN := Lib.hid hN
  have HTT := Lib.hid hT
  clear hN hT
  go_enter Tryd.func22, Tryd.ntmps22
  go_wp2_with fail
  refine (l01In_yes a 0 s.size h0 h1 _).mono ?_
  rintro e w1 ⟨rfl, rfl⟩
  go_wp2
  go_loop [7, 8, 9] (fun n c p => ∃ j v sc : Nat, j ≤ k ∧ Hid (v = val ((s.data.toList.drop a).take j) ∧ sc = 128 ^ j) ∧ n = .int .i64 v ∧ c = .int .i64 sc ∧ p = .int .i64 ((a : Int) + j)) (fun _ _ p => (a + 5 - intOf p).toNat)
  case atStart => exact ⟨0, 0, 1, by omega, ⟨rfl, rfl⟩, rfl, rfl, int_eq (by omega)⟩
  case round =>
    obtain ⟨j, v, sc, hj, HX, rfl, rfl, rfl⟩ := hrel
    have hlt : a + j < s.size := by omega
    have h5 : j < 5 := by omega
    obtain ⟨hp0, hp1, hp2, hq1, hsc, hq2⟩ := round_facts s a j v sc hlt (by omega) HX.out.1 HX.out.2
    have hc : s[a + j].toNat < 256 := s[a + j].toNat_lt
    have HQ1 := Lib.hid hq1
    have HQ2 := Lib.hid hq2
    clear hq1 hq2
    by_cases hjk : j = k
    · have HB : Hid ((s[a + j].toNat : Int) < 128) := by
        have := HL.out
        rw [← hjk, getD_drop s a j hlt] at this
        show (s[a + j].toNat : Int) < 128
        omega
      have HV : Hid (((v : Int) + (s[a + j].toNat : Int) % 128 * (sc : Int)).toNat = N) := by
        show ((v : Int) + (s[a + j].toNat : Int) % 128 * (sc : Int)).toNat = N
        rw [HNN.out, HQ1.out, hjk]
      have HJ := Lib.hid hjk
      clear hjk
      by_cases hbig : 1000000000 < (v : Int) + (s[a + j].toNat : Int) % 128 * (sc : Int)
      · have hd : decide (1000000000 < (v : Int) + (s[a + j].toNat : Int) % 128 * (sc : Int)) = true := decide_eq_true (by omega)
        go_wp2
        · go_quiet (fail)
          go_wp2
          go_ret3
          exact ⟨.inr ⟨fun h => by have := HV.out; omega, rfl⟩, below_drewN (Below.refl _ _) _⟩
        · have := HB.out
          omega
      · have HG : Hid (0 ≤ (v : Int) + (s[a + j].toNat : Int) % 128 * (sc : Int) ∧ (v : Int) + (s[a + j].toNat : Int) % 128 * (sc : Int) ≤ 1000000000) := ⟨by omega, by omega⟩
        clear hbig
        go_upto_region 10 with fail
        go_cut [7, 8, 9, 42] (fun n c p t wx => ∃ X Y : Int, Hid (X.toNat = N) ∧ Hid (Y = (a : Int) + k) ∧ 0 ≤ X ∧ X ≤ 1000000000 ∧ (a : Int) ≤ Y ∧ Y + 1 ≤ (s.size : Int) ∧ n = .int .i64 X ∧ p = .int .i64 Y ∧ t = .bool true ∧ wx = w)
        case first =>
          go_wp2_with fail
          go_meet
          have hjk := HJ.out
          refine ⟨_, _, HV, ?_, HG.out.1, HG.out.2, ?_, ?_, rfl, rfl, ?_, rfl⟩
          · show (a : Int) + j = a + k
            omega
          · omega
          · omega
          · exact congrArg Value.bool (decide_eq_true HB.out)
        case rest =>
          clear hp0 hp1 hp2 hsc hc HQ1 HQ2 HV HG HX HB HN HL HJ hlt h5 hj
          obtain ⟨X, Y, HXN, HYK, hx0, hx1, hy0, hy1, rfl, rfl, rfl, rfl⟩ := hcut
          have hd : decide (1000000000 < X) = false := decide_eq_false (by omega)
          have hwr : IntKind.i64.wrap (Y + 1) = Y + 1 := by rw [IntKind.wrap_i64]; omega
          have hy2 : (a : Int) ≤ Y + 1 := by omega
          have hy3 : 0 ≤ Y + 1 := by omega
          go_wp2
          go_region_held3 (fun _ => True) (trivial) (first | (go_at_call 25; refine (l01Var_int X hx0 hx1 _).mono ?_; rintro e w1 ⟨rfl, hb1⟩))
          have HT : Hid ((s.extract a (Y + 1).toNat).toList = T) := by
            show (s.extract a (Y + 1).toNat).toList = T
            have e : (Y + 1).toNat - a = k + 1 := by rw [HYK.out]; omega
            rw [Lib.extract_toList, HTT.out, e]
          go_wp2
          · have hne : (!var X.toNat == (s.extract a (Y + 1).toNat).toList) = true := by assumption
            go_ret3
            refine ⟨.inr ⟨fun h => ?_, rfl⟩, below_undrew hb1⟩
            rw [HT.out, HXN.out, h.2] at hne
            simp at hne
          · have heq : (!var X.toNat == (s.extract a (Y + 1).toNat).toList) = false := by assumption
            go_ret3
            refine ⟨.inl ⟨?_, ?_, ret_iib ?_ ?_ rfl⟩, below_undrew hb1⟩
            · rw [← HXN.out]; omega
            · rw [HT.out, HXN.out] at heq
              simpa using heq
            · rw [← HXN.out]; omega
            · have := HYK.out; omega
    · have HB : Hid (128 ≤ (s[a + j].toNat : Int)) := by
        have := HN.out j (by omega)
        rw [getD_drop s a j hlt] at this
        show 128 ≤ (s[a + j].toNat : Int)
        omega
      have HJ := Lib.hid hjk
      clear hjk
      go_wp2
      · have := HB.out
        omega
      · go_round
        case rel => exact ⟨j + 1, ((v : Int) + (s[a + j].toNat : Int) % 128 * (sc : Int)).toNat, sc * 128, by have := HJ.out; omega, ⟨HQ1.out, HQ2.out⟩, int_eq (by omega), int_eq (by omega), int_eq (by omega)⟩
        case measure => simp [intOf]; omega

end Go.Proofs.YtdhacjpdlmnlmarDoor
