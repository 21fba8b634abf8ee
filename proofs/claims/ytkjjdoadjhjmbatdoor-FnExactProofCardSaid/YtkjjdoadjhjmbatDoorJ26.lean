/-
  The program's step of a round.
-/
import Derived.Test.YtkjjdoadjhjmbatDoorJ25
import Derived.Test.YtkjjdoadjhjmbatDoorJ24
namespace Go.Proofs.YtkjjdoadjhjmbatDoor
open Go.RowKit

theorem maxW (x : Nat) (hx : x < 4294967296) : bits .xor .u32 IntKind.u32.max (x : Int) = ((4294967295 - x : Nat) : Int) := by
  have h := xor_u32 4294967295 x (by decide) hx
  have e : 4294967295 ^^^ x = 4294967295 - x := by
    apply Nat.eq_of_testBit_eq
    intro i
    rw [Nat.testBit_xor, not_bit x i hx]
    have h1 := Nat.testBit_two_pow_sub_one 32 i
    have e1 : 2 ^ 32 - 1 = 4294967295 := rfl
    rw [e1] at h1
    rw [h1]
    by_cases hi : i < 32
    · simp [hi]
    · have := Nat.testBit_lt_two_pow (x := x) (i := i) (Nat.lt_of_lt_of_le hx (Nat.pow_le_pow_right (by decide : 2 > 0) (by omega : 32 ≤ i)))
      simp [hi, this]
  rw [e] at h
  exact h

set_option maxRecDepth 100000 in
set_option maxHeartbeats 1600000 in
theorem afterStep_any (v : Eight) (hv : v.Ok) (k x : Nat) (w : World) :
    Calls Tryd.prog 142 #[stV v.toList, .int .u32 (((k + x) % 4294967296 : Nat) : Int)] w fun e' w' => e' = .returned (stV (stepE v k x).toList) ∧ Below w.heap.size w w' := by
  obtain ⟨a, b, c, d, e, f, g, h⟩ := v
  obtain ⟨ha, hb, hc, hd, he, hf, hg, hh⟩ := hv
  obtain ⟨s, hs⟩ : ∃ s, Hid (s = (k + x) % 4294967296) := ⟨_, rfl⟩
  rw [← hs.out]
  have H1 := Lib.hid (mixed_bs1 e he)
  have H2 := Lib.hid (mixed_bs0 a ha)
  have Z1 := bs1_lt e he
  have Z0 := bs0_lt a ha
  obtain ⟨s1, S1⟩ : ∃ s, Hid (s = bs1 e) := ⟨_, rfl⟩
  obtain ⟨s0, S0⟩ : ∃ s, Hid (s = bs0 a) := ⟨_, rfl⟩
  rw [← S1.out] at H1 Z1
  rw [← S0.out] at H2 Z0
  obtain ⟨ne, n1, n2, NE⟩ : ∃ q : Nat, bits .xor .u32 IntKind.u32.max (e : Int) = (q : Int) ∧ q < 4294967296 ∧ Hid (q = 4294967295 - e) := ⟨_, maxW e he, by omega, rfl⟩
  obtain ⟨ef, p1, p2, EF⟩ : ∃ q : Nat, bits .and .u32 (e : Int) (f : Int) = (q : Int) ∧ q < 4294967296 ∧ Hid (q = e &&& f) := ⟨_, andW e f he hf, Nat.lt_of_le_of_lt Nat.and_le_right hf, rfl⟩
  obtain ⟨ng, q1, q2, NG⟩ : ∃ q : Nat, bits .and .u32 (ne : Int) (g : Int) = (q : Int) ∧ q < 4294967296 ∧ Hid (q = ne &&& g) := ⟨_, andW ne g n2 hg, Nat.lt_of_le_of_lt Nat.and_le_right hg, rfl⟩
  obtain ⟨ch, r1, CH⟩ : ∃ q : Nat, bits .or .u32 (ef : Int) (ng : Int) = (q : Int) ∧ Hid (q = chO e f g) := ⟨_, or_u32 ef ng p2 q2, by show _ = _; rw [EF.out, NG.out, NE.out]; exact ch_or e f g he⟩
  obtain ⟨ab, u1, u2, AB⟩ : ∃ q : Nat, bits .and .u32 (a : Int) (b : Int) = (q : Int) ∧ q < 4294967296 ∧ Hid (q = a &&& b) := ⟨_, andW a b ha hb, Nat.lt_of_le_of_lt Nat.and_le_right hb, rfl⟩
  obtain ⟨ac, v1, v2, AC⟩ : ∃ q : Nat, bits .and .u32 (a : Int) (c : Int) = (q : Int) ∧ q < 4294967296 ∧ Hid (q = a &&& c) := ⟨_, andW a c ha hc, Nat.lt_of_le_of_lt Nat.and_le_right hc, rfl⟩
  obtain ⟨bc, x1, x2, BC⟩ : ∃ q : Nat, bits .and .u32 (b : Int) (c : Int) = (q : Int) ∧ q < 4294967296 ∧ Hid (q = b &&& c) := ⟨_, andW b c hb hc, Nat.lt_of_le_of_lt Nat.and_le_right hc, rfl⟩
  obtain ⟨m1, y1, y2, M1⟩ : ∃ q : Nat, bits .or .u32 (ab : Int) (ac : Int) = (q : Int) ∧ q < 4294967296 ∧ Hid (q = ab ||| ac) := ⟨_, or_u32 ab ac u2 v2, Nat.or_lt_two_pow (n := 32) u2 v2, rfl⟩
  obtain ⟨mj, z1, MJ⟩ : ∃ q : Nat, bits .or .u32 (m1 : Int) (bc : Int) = (q : Int) ∧ Hid (q = majO a b c) := ⟨_, or_u32 m1 bc y2 x2, by show _ = _; rw [M1.out, AB.out, AC.out, BC.out]; exact maj_or a b c⟩
  obtain ⟨o0, o1, O⟩ : ∃ o0 o1 : Nat, Hid ((stepE ⟨a, b, c, d, e, f, g, h⟩ k x).toList = [o0, a, b, c, o1, e, f, g] ∧ (o0 : Int) = ((h : Int) + (s1 : Int) + (ch : Int) + (s : Int) + ((s0 : Int) + (mj : Int))) % 4294967296 ∧ (o1 : Int) = ((d : Int) + ((h : Int) + (s1 : Int) + (ch : Int) + (s : Int))) % 4294967296) := by
    refine ⟨(t1Of ⟨a, b, c, d, e, f, g, h⟩ k x + t2Of ⟨a, b, c, d, e, f, g, h⟩) % 4294967296, (d + t1Of ⟨a, b, c, d, e, f, g, h⟩ k x) % 4294967296, rfl, ?_, ?_⟩
    · unfold t1Of t2Of
      dsimp only
      rw [← S1.out, ← S0.out, ← CH.out, ← MJ.out]
      have := hs.out
      omega
    · unfold t1Of
      dsimp only
      rw [← S1.out, ← CH.out]
      have := hs.out
      omega
  have B0 := Lib.hid (((Below.refl w.heap.size w).alloc (Nat.le_refl _) (.cells #[.int .u32 a, .int .u32 b, .int .u32 c, .int .u32 d, .int .u32 e, .int .u32 f, .int .u32 g, .int .u32 h] 128)).alloc (by simp) (.cells #[.int .u32 0, .int .u32 0, .int .u32 0, .int .u32 0, .int .u32 0, .int .u32 0, .int .u32 0, .int .u32 0] 128))
  rw [O.out.1]
  have P0 := Lib.hid O.out.2.1
  have P1 := Lib.hid O.out.2.2
  clear O
  show Calls Tryd.prog 142 #[.agg #[.int .u32 a, .int .u32 b, .int .u32 c, .int .u32 d, .int .u32 e, .int .u32 f, .int .u32 g, .int .u32 h], .int .u32 s] w _
  go_enter Tryd.func142, Tryd.ntmps142
  go_wp2_with fail
  go_quiet (fail)
  go_wp2_with fail
  go_quiet (fail)
  go_wp2_with fail
  refine (H1.out _).mono ?_
  rintro e1 w1 ⟨rfl, rfl⟩
  go_wp2_with fail
  refine (H2.out _).mono ?_
  rintro e1 w1 ⟨rfl, rfl⟩
  go_wp2_with fail
  rw [← P0.out, ← P1.out]
  refine bodyPost_ret (v := .agg #[.int .u32 o0, .int .u32 a, .int .u32 b, .int .u32 c, .int .u32 o1, .int .u32 e, .int .u32 f, .int .u32 g]) ?_ rfl ⟨rfl, ?_⟩
  · simp [results, Tryd.results142, go_sem]
  · exact Below.set8 (below_drewN B0.out _) (by omega) _ _ _ _ _ _ _ _
end Go.Proofs.YtkjjdoadjhjmbatDoor
