/-
  The program's ReadVar, and its helper, by what they answer at every text and place.
-/
import Derived.Test.YtdhacjpdlmnlmadDoorJ05
import Derived.Test.YtdhacjpdlmnlmadDoorJ03
import Derived.BigQuiet
import Derived.Deep.QuietTactic
import Derived.Lib.Strings
namespace Go.Proofs.YtdhacjpdlmnlmadDoor
open Go.RowKit

set_option maxRecDepth 100000 in
set_option maxHeartbeats 400000 in
theorem varSize_none (s : ByteArray) (hs : s.size ≤ 1048576) (h : low 5 s.data.toList = none) (w : World) :
    Calls Tryd.prog 44 #[.string s] w fun e w' => e = .returned (.tuple #[.int .i64 0, .bool false]) ∧ ∃ n, w' = w.drewN n := by
  have HN := Lib.hid (low_none 5 _ h)
  clear h
  go_enter Tryd.func44, Tryd.ntmps44
  go_wp2
  go_loop [4] (fun t => ∃ k : Nat, k ≤ 5 ∧ k ≤ s.size ∧ t = .int .i64 k) (fun t => 5 - (intOf t).toNat)
  case atStart => exact ⟨0, by omega, by omega, rfl⟩
  case round =>
    obtain ⟨k, h5, hk, rfl⟩ := hrel
    by_cases hlt : k < s.size
    · by_cases h4 : k < 5
      · have hb : 128 ≤ (s[k].toNat : Int) := by
          have := HN.out k h4 (by simpa using hlt)
          have e : s.data.toList.getD k 0 = s[k] := by simp [hlt]; rfl
          rw [e] at this
          omega
        have HB := Lib.hid hb
        clear hb
        go_wp2
        · have := HB.out
          omega
        go_round
        case rel => exact ⟨k + 1, by omega, by omega, by go_num⟩
        case measure => simp [intOf]; omega
      · go_wp2
        go_ret2
        exact ⟨rfl, 0, rfl⟩
    · go_wp2
      go_ret2
      exact ⟨rfl, 0, rfl⟩

set_option maxRecDepth 100000 in
set_option maxHeartbeats 400000 in
theorem varSize_some (s : ByteArray) (_hs : s.size ≤ 1048576) (n : Nat) (h : low 5 s.data.toList = some n) (w : World) :
    Calls Tryd.prog 44 #[.string s] w fun e w' => e = .returned (.tuple #[.int .i64 ((n + 1 : Nat) : Int), .bool (decide (n = 0 ∨ (s.data.toList.getD n 0).toNat ≠ 0))]) ∧ ∃ n, w' = w.drewN n := by
  obtain ⟨n5, nl, hh, hlo⟩ := low_some 5 _ n h
  have nl' : n < s.size := by simpa using nl
  have eb : ∀ k (hk : k < s.size), s.data.toList.getD k 0 = s[k] := fun k hk => by simp [hk]; rfl
  have HN := Lib.hid hh
  have HL := Lib.hid hlo
  have HE := Lib.hid eb
  clear h hh hlo eb nl
  go_enter Tryd.func44, Tryd.ntmps44
  go_wp2
  go_loop [4] (fun t => ∃ k : Nat, k ≤ n ∧ t = .int .i64 k) (fun t => 5 - (intOf t).toNat)
  case atStart => exact ⟨0, by omega, rfl⟩
  case round =>
    obtain ⟨k, hk, rfl⟩ := hrel
    have hlt : k < s.size := by omega
    have h4 : k < 5 := by omega
    by_cases hkn : k = n
    · have hb : (s[k].toNat : Int) < 128 := by
        have h1 := HL.out
        have h2 := HE.out k hlt
        rw [← hkn, h2] at h1
        omega
      have HB := Lib.hid hb
      have HK := Lib.hid hkn
      clear hb hkn
      go_wp2
      · by_cases h0 : k = 0
        · have g0 : ((k : Int) == 0) = true := beq_iff_eq.2 (by omega)
          go_quiet (fail)
          go_wp2
          go_ret2
          exact ⟨ret_ib (by have := HK.out; omega) (by have := HK.out; simp; omega), _, rfl⟩
        · have g0 : ((k : Int) == 0) = false := beq_eq_false_iff_ne.2 (by omega)
          go_quiet (fail)
          go_wp2
          go_ret2
          refine ⟨ret_ib (by have := HK.out; omega) ?_, _, rfl⟩
          have h1 := HK.out
          have h2 := HE.out k hlt
          clear HK HE HB HL HN g0
          subst h1
          rw [h2]
          simp [h0, bne_nat]
      · have := HB.out
        omega
    · have hb : 128 ≤ (s[k].toNat : Int) := by
        have := HN.out k (by omega)
        rw [HE.out k hlt] at this
        omega
      have HB := Lib.hid hb
      have HK := Lib.hid hkn
      clear hb hkn
      go_wp2
      · have := HB.out
        omega
      · go_round
        case rel => exact ⟨k + 1, by have := HK.out; omega, by go_num⟩
        case measure => simp [intOf]; omega

/-- What is left of a text from a place on. -/
theorem rest_list (s : ByteArray) (a : Nat) : (s.extract a s.size).data.toList = s.data.toList.drop a := by
  rw [Lib.extract_data, List.take_of_length_le]
  rw [List.length_drop, ← Lib.size_eq]
  exact Nat.le_refl _

set_option maxRecDepth 100000 in
set_option maxHeartbeats 400000 in
theorem implReadVar_out (s : ByteArray) (hs : s.size ≤ 1048576) (p : Int) (h : p < 0 ∨ (s.size : Int) < p) (w : World) :
    Calls Tryd.prog 20 #[.string s, .int .i64 p] w fun e w' => e = .returned (.tuple #[.int .i64 0, .int .i64 0, .bool false]) ∧ Below w.heap.size w w' := by
  rcases h with h | h
  · go_enter Tryd.func20, Tryd.ntmps20
    go_wp2
    go_ret3
    exact ⟨rfl, Below.refl _ _⟩
  · have h0 : ¬ p < 0 := by omega
    go_enter Tryd.func20, Tryd.ntmps20
    go_wp2
    go_ret3
    exact ⟨rfl, Below.refl _ _⟩

set_option maxRecDepth 100000 in
set_option maxHeartbeats 400000 in
theorem implReadVar_none (s : ByteArray) (hs : s.size ≤ 1048576) (a : Nat) (ha : a ≤ s.size) (h : low 5 (s.data.toList.drop a) = none) (w : World) :
    Calls Tryd.prog 20 #[.string s, .int .i64 a] w fun e w' => e = .returned (.tuple #[.int .i64 0, .int .i64 0, .bool false]) ∧ Below w.heap.size w w' := by
  have h0 : ¬ (a : Int) < 0 := by omega
  have h1 : ¬ (s.size : Int) < (a : Int) := by omega
  have hx : (s.extract a s.size).size ≤ 1048576 := by simp; omega
  rw [← rest_list] at h
  have H := Lib.hid h
  clear h
  go_enter Tryd.func20, Tryd.ntmps20
  go_wp2_with fail
  refine (varSize_none _ hx H.out _).mono ?_
  rintro e w1 ⟨rfl, nq, rfl⟩
  go_wp2
  go_ret3
  exact ⟨rfl, below_drewN (Below.refl _ _) _⟩

set_option maxRecDepth 100000 in
set_option maxHeartbeats 400000 in
theorem implReadVar_long (s : ByteArray) (hs : s.size ≤ 1048576) (a : Nat) (ha : a ≤ s.size) (k : Nat) (h : low 5 (s.data.toList.drop a) = some k)
    (hk : ¬ (k = 0 ∨ ((s.data.toList.drop a).getD k 0).toNat ≠ 0)) (w : World) :
    Calls Tryd.prog 20 #[.string s, .int .i64 a] w fun e w' => e = .returned (.tuple #[.int .i64 0, .int .i64 0, .bool false]) ∧ Below w.heap.size w w' := by
  have h0 : ¬ (a : Int) < 0 := by omega
  have h1 : ¬ (s.size : Int) < (a : Int) := by omega
  have hx : (s.extract a s.size).size ≤ 1048576 := by simp; omega
  rw [← rest_list] at h hk
  have H := Lib.hid h
  have hd := decide_eq_false hk
  have HD := Lib.hid hd
  clear h hk hd
  go_enter Tryd.func20, Tryd.ntmps20
  go_wp2_with fail
  refine (varSize_some _ hx k H.out _).mono ?_
  rintro e w1 ⟨rfl, nq, rfl⟩
  rw [HD.out]
  go_wp2
  go_ret3
  exact ⟨rfl, below_drewN (Below.refl _ _) _⟩

theorem getD_rest (s : ByteArray) (a k i : Nat) (hi : i ≤ k) (hl : a + k < s.size) : ((s.data.toList.drop a).take (k + 1)).getD i 0 = s[a + i] := by
  have e : a + i < s.size := by omega
  rw [List.getD_eq_getElem?_getD, List.getElem?_take, if_pos (by omega), List.getElem?_drop]
  have e2 : a + i < s.data.toList.length := by simpa using e
  rw [List.getElem?_eq_getElem e2]
  rfl

set_option maxRecDepth 100000 in
set_option maxHeartbeats 400000 in
theorem implReadVar_some (s : ByteArray) (hs : s.size ≤ 1048576) (a : Nat) (ha : a ≤ s.size) (k : Nat) (h : low 5 (s.data.toList.drop a) = some k)
    (hk : k = 0 ∨ ((s.data.toList.drop a).getD k 0).toNat ≠ 0) (w : World) :
    Calls Tryd.prog 20 #[.string s, .int .i64 a] w fun e w' =>
      (val ((s.data.toList.drop a).take (k + 1)) ≤ 1000000000 ∧ e = .returned (.tuple #[.int .i64 (val ((s.data.toList.drop a).take (k + 1)) : Nat), .int .i64 ((a + k + 1 : Nat) : Int), .bool true]) ∨
       1000000000 < val ((s.data.toList.drop a).take (k + 1)) ∧ e = .returned (.tuple #[.int .i64 0, .int .i64 0, .bool false])) ∧ Below w.heap.size w w' := by
  have h0 : ¬ (a : Int) < 0 := by omega
  have h1 : ¬ (s.size : Int) < (a : Int) := by omega
  have hx : (s.extract a s.size).size ≤ 1048576 := by simp; omega
  obtain ⟨k5, kl, _, _⟩ := low_some _ _ _ h
  have kl' : a + k < s.size := by simp at kl; omega
  have hbyte := getD_rest s a k
  obtain ⟨u, hu⟩ : ∃ u, u = (s.data.toList.drop a).take (k + 1) := ⟨_, rfl⟩
  rw [← hu] at hbyte ⊢
  have ulen : u.length = k + 1 := by rw [hu]; simp at kl ⊢; omega
  rw [← rest_list] at h hk
  have H := Lib.hid h
  have hd := decide_eq_true hk
  have HD := Lib.hid hd
  have HY := Lib.hid hbyte
  have HU := Lib.hid ulen
  clear h hk hd hbyte ulen hu kl
  go_enter Tryd.func20, Tryd.ntmps20
  go_wp2_with fail
  refine (varSize_some _ hx k H.out _).mono ?_
  rintro e w1 ⟨rfl, nq, rfl⟩
  rw [HD.out]
  go_wp2
  go_loop [9, 10] (fun n p => ∃ j : Nat, j ≤ k + 1 ∧ n = .int .i64 (val (u.drop j) : Nat) ∧ p = .int .i64 ((a : Int) + j - 1)) (fun _ p => ((intOf p) + 1 - a).toNat)
  case atStart => exact ⟨k + 1, Nat.le_refl _, int_eq (by rw [List.drop_of_length_le (by have := HU.out; omega)]; rfl), int_eq (by omega)⟩
  case round =>
    obtain ⟨j, hj, rfl, rfl⟩ := hrel
    by_cases hj0 : j = 0
    · subst hj0
      go_wp2
      · go_ret3
        exact ⟨.inr ⟨by omega, rfl⟩, below_drewN (Below.refl _ _) _⟩
      · go_ret3
        exact ⟨.inl ⟨by omega, ret_iib rfl (by omega) rfl⟩, below_drewN (Below.refl _ _) _⟩
    · obtain ⟨i, rfl⟩ : ∃ i, j = i + 1 := ⟨j - 1, by omega⟩
      have hv := val_drop u i (by have := HU.out; omega)
      rw [HY.out i (by omega) kl'] at hv
      have hb := val_five (u.drop (i + 1)) (by have := HU.out; simp; omega)
      have HV := Lib.hid hv
      clear hv
      have hi : a + i < s.size := by omega
      go_wp2
      go_round
      case rel => exact ⟨i, by omega, int_eq (by rw [HV.out]; omega), int_eq (by omega)⟩
      case measure => simp [intOf]; omega

end Go.Proofs.YtdhacjpdlmnlmadDoor
