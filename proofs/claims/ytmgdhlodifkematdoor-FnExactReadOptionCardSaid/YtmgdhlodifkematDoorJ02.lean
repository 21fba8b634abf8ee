/-
  The given Decimal by what it answers at every number.
-/
import Derived.Test.YtmgdhlodifkematDoorJ01
namespace Go.Proofs.YtmgdhlodifkematDoor
open Go.RowKit

set_option maxRecDepth 100000 in
set_option maxHeartbeats 400000 in
theorem specDecimal_pos (N : Nat) (h1 : 1 ≤ N) (h2 : N ≤ 9223372036854775807) (w : World) :
    Calls Tryd.prog 19 #[.int .i64 N] w fun e w' => e = .returned (.string ⟨(Lib.decDigits N).toArray⟩) ∧ Below w.heap.size w w' := by
  have g0 : ((N : Int) == 0) = false := beq_eq_false_iff_ne.2 (by omega)
  have gN : decide ((N : Int) < 0) = false := decide_eq_false (by omega)
  have hdl := digs_length N (by omega)
  go_enter Tryd.func19, Tryd.ntmps19
  go_wp2
  go_loopw [0, 4, 5] (fun n s d wr => ∃ (m : Nat) (t : List UInt8), m ≤ N ∧ n = .int .i64 m ∧ s = .string ⟨t.toArray⟩ ∧ Hid (digs m ++ t = digs N) ∧ t.length ≤ 21 ∧ Below w.heap.size w wr) (fun n _ _ _ => (intOf n).toNat)
  case atStart => exact ⟨N, [], Nat.le_refl _, rfl, rfl, List.append_nil _, by simp, Below.refl _ _⟩
  case round =>
    obtain ⟨m, t, hm, rfl, rfl, HD, htl, hnx⟩ := hrel
    have hsz := hnx.size
    by_cases hm0 : m = 0
    · subst hm0
      go_wp2
      go_ret
      have := HD.out
      exact ⟨ret_str (by rw [← digs_pos N h1, ← HD.out]; rfl), hnx⟩
    · have g1 : ((m : Int) != 0) = true := by rw [bne_iff_ne]; omega
      have hst := digs_step m (by omega)
      have hz := size_list t
      have hcv := fun b => run_string_one (P := Tryd.prog) wr 53 9 5 Tryd.underlying53 Tryd.underlying5 Tryd.underlying9 b
      have hz1 := fun b => size_list [b]
      obtain ⟨r, hr, hr16, HR⟩ : ∃ r : Nat, (m : Int) % 10 = (r : Int) ∧ (r : Int) < 16 ∧ Hid (r = m % 10) := ⟨m % 10, by omega, by omega, rfl⟩
      have HS := Lib.hid hst
      clear hst
      have gr : decide ((r : Int) < 0) = false := decide_eq_false (by omega)
      go_wp2_with fail
      refine (l01Figure_any r hr16 _).mono ?_
      rintro e w' ⟨rfl, rfl⟩
      go_wp2
      go_roundw
      case rel =>
        have hn := HD.out
        rw [HS.out, List.append_assoc] at hn
        refine ⟨m / 10, fig r :: t, by omega, int_eq (by omega), congrArg Value.string (cat_list [fig r] t), ?_, ?_, hnx.alloc hsz _⟩
        · rw [HR.out]; exact hn
        · have h3 := congrArg List.length hn
          simp only [List.length_append, List.length_cons, List.length_nil] at h3 ⊢
          omega
      case measure => simp [intOf]; omega

set_option maxRecDepth 100000 in
set_option maxHeartbeats 400000 in
theorem specDecimal_neg (N : Nat) (h1 : 1 ≤ N) (h2 : N ≤ 9223372036854775808) (w : World) :
    Calls Tryd.prog 19 #[.int .i64 (-(N : Int))] w fun e w' => e = .returned (.string ⟨(45 :: Lib.decDigits N).toArray⟩) ∧ Below w.heap.size w w' := by
  obtain ⟨Z, hZ0, hZ1, HZ⟩ : ∃ Z : Int, Z < 0 ∧ -9223372036854775808 ≤ Z ∧ Hid (Z = -(N : Int)) := ⟨_, by omega, by omega, rfl⟩
  rw [← HZ.out]
  have g0 : (Z == 0) = false := beq_eq_false_iff_ne.2 (by omega)
  have gN : decide (Z < 0) = true := decide_eq_true (by omega)
  have hdl := digs_length N (by omega)
  have hz45 := size_list [45]
  go_enter Tryd.func19, Tryd.ntmps19
  go_wp2
  go_loopw [0, 4, 5] (fun n s d wr => ∃ (m : Nat) (z : Int) (t : List UInt8), z ≤ 0 ∧ -9223372036854775808 ≤ z ∧ Hid (z = -(m : Int)) ∧ m ≤ N ∧ n = .int .i64 z ∧ s = .string ⟨t.toArray⟩ ∧ Hid (digs m ++ t = digs N) ∧ t.length ≤ 21 ∧ Below w.heap.size w wr) (fun n _ _ _ => (-(intOf n)).toNat)
  case atStart => exact ⟨N, Z, [], by omega, hZ1, HZ, Nat.le_refl _, rfl, rfl, List.append_nil _, by simp, Below.refl _ _⟩
  case round =>
    obtain ⟨m, z, t, hz0, hz1', HM, hm, rfl, rfl, HD, htl, hnx⟩ := hrel
    have hsz := hnx.size
    have hz := size_list t
    by_cases hm0 : z = 0
    · subst hm0
      go_wp2
      go_ret
      have hmz : m = 0 := by have := HM.out; omega
      have hd := HD.out
      rw [hmz] at hd
      refine ⟨?_, hnx⟩
      rw [← digs_pos N h1, ← hd]
      exact congrArg (fun x => Ending.returned (Value.string x)) (cat_list [45] t)
    · have g1 : (z != 0) = true := by rw [bne_iff_ne]; exact hm0
      have hst := digs_step m (by have := HM.out; omega)
      have hcv := fun b => run_string_one (P := Tryd.prog) wr 53 9 5 Tryd.underlying53 Tryd.underlying5 Tryd.underlying9 b
      have hz1 := fun b => size_list [b]
      have em : z.tmod 10 = -((m % 10 : Nat) : Int) := by rw [HM.out]; exact neg_tmod10 m
      have eq : z.tdiv 10 = -((m / 10 : Nat) : Int) := by rw [HM.out]; exact neg_tdiv10 m
      have hmb : (m : Int) ≤ 9223372036854775808 := by omega
      obtain ⟨d, hd, hd0, hd1, HR⟩ : ∃ d : Int, z.tmod 10 = d ∧ d ≤ 0 ∧ -9 ≤ d ∧ Hid (d = -((m % 10 : Nat) : Int)) := ⟨_, em, by omega, by omega, rfl⟩
      obtain ⟨q, hq, hq0, hq1, HQ⟩ : ∃ q : Int, z.tdiv 10 = q ∧ q ≤ 0 ∧ -922337203685477581 ≤ q ∧ Hid (q = -((m / 10 : Nat) : Int)) := ⟨_, eq, by omega, by omega, rfl⟩
      clear em eq hmb
      have HS := Lib.hid hst
      clear hst hm0
      by_cases hdz : d = 0
      · subst hdz
        go_wp2_with fail
        refine (l01Figure_any 0 (by decide) _).mono ?_
        rintro e w' ⟨rfl, rfl⟩
        go_wp2
        go_roundw
        case rel =>
          have hn := HD.out
          rw [HS.out, List.append_assoc] at hn
          have hr : m % 10 = 0 := by have := HR.out; omega
          rw [hr] at hn
          refine ⟨m / 10, q, fig 0 :: t, hq0, by omega, HQ, by omega, rfl, congrArg Value.string (cat_list [fig 0] t), hn, ?_, hnx.alloc hsz _⟩
          have h3 := congrArg List.length hn
          simp only [List.length_append, List.length_cons, List.length_nil] at h3 ⊢
          omega
        case measure =>
          have h3 := HM.out
          have h4 := HQ.out
          have h5 : z ≠ 0 := by simpa using g1
          simp [intOf]
          omega
      · have gd : decide (d < 0) = true := decide_eq_true (by omega)
        have hn0 : 0 ≤ -d := by omega
        have hn1 : -d < 16 := by omega
        clear hdz
        go_wp2_with fail
        refine (l01Figure_int (-d) hn0 hn1 _).mono ?_
        rintro e w' ⟨rfl, rfl⟩
        go_wp2
        go_roundw
        case rel =>
          have hn := HD.out
          rw [HS.out, List.append_assoc] at hn
          have hr : m % 10 = (-d).toNat := by have := HR.out; omega
          rw [hr] at hn
          refine ⟨m / 10, q, fig (-d).toNat :: t, hq0, by omega, HQ, by omega, rfl, congrArg Value.string (cat_list [fig (-d).toNat] t), hn, ?_, hnx.alloc hsz _⟩
          have h3 := congrArg List.length hn
          simp only [List.length_append, List.length_cons, List.length_nil] at h3 ⊢
          omega
        case measure =>
          have h3 := HM.out
          have h4 := HQ.out
          have h5 : z ≠ 0 := by simpa using g1
          simp [intOf]
          omega

theorem specDecimal_zero (w : World) :
    Calls Tryd.prog 19 #[.int .i64 0] w fun e w' => e = .returned (.string ⟨(Lib.decDigits 0).toArray⟩) ∧ Below w.heap.size w w' := by
  have hd : Lib.decDigits 0 = [48] := Lib.decDigits_one (by omega)
  rw [hd]
  go_enter Tryd.func19, Tryd.ntmps19
  go_wp2
  go_ret
  exact ⟨rfl, Below.refl _ _⟩

/-- Every int. -/
theorem specDecimal_any (n : Int) (h0 : -9223372036854775808 ≤ n) (h1 : n ≤ 9223372036854775807) (w : World) :
    Calls Tryd.prog 19 #[.int .i64 n] w fun e w' => e = .returned (.string ⟨(Lib.itoa n).toArray⟩) ∧ Below w.heap.size w w' := by
  by_cases hp : 0 ≤ n
  · obtain ⟨N, rfl⟩ := Int.eq_ofNat_of_zero_le hp
    rw [Lib.itoa_nonneg]
    by_cases hz : N = 0
    · subst hz
      exact specDecimal_zero w
    · exact specDecimal_pos N (by omega) (by omega) w
  · obtain ⟨N, hN⟩ : ∃ N : Nat, n = -(N : Int) := ⟨n.natAbs, by omega⟩
    subst hN
    rw [Lib.itoa_neg N (by omega)]
    exact specDecimal_neg N (by omega) (by omega) w

end Go.Proofs.YtmgdhlodifkematDoor
