/-
  The program's words: turned, shifted, mixed, read of a text.
  The program's step of a round.
-/
import Derived.Test.YtoaifgblbfdncaaGreatDoorRows
import Derived.Test.YtoaifgblbfdncaaGreatDoorJ01
import Derived.Test.YtoaifgblbfdncaaGreatDoorJ26
import Derived.Deep.RegionHeld3
import Derived.BigQuiet
import Derived.Deep.QuietTactic
import Derived.Deep.LoopGhost
import Derived.Deep.DeepCutAuto
import Derived.Test.YtoaifgblbfdncaaGreatDoorJ24
namespace Go.Proofs.YtoaifgblbfdncaaGreatDoor
open Go.RowKit

/-- A number below 0 as so many bits, as the walk spells it. -/
theorem bits31 (k : Nat) (h0 : 0 < k) (hk : k < 32) : bits .and .u64 (IntKind.u64.wrap (-(k : Int))) 31 = ((32 - k : Nat) : Int) := by
  have e : ∀ k : Fin 32, 0 < k.val → bits .and .u64 (IntKind.u64.wrap (-((k.val : Nat) : Int))) 31 = ((32 - k.val : Nat) : Int) := by decide
  exact e ⟨k, hk⟩ h0

set_option maxRecDepth 100000 in
set_option maxHeartbeats 400000 in
theorem rotate_any (x k : Nat) (hx : x < 4294967296) (h0 : 0 < k) (hk : k < 32) (w : World) :
    Calls Tryz.prog 138 #[.int .u32 x, .int .i64 (-(k : Int))] w fun e w' => e = .returned (.int .u32 (turnR x k : Nat)) ∧ w' = w := by
  obtain ⟨j, hj, J⟩ : ∃ j : Nat, bits .and .u64 (IntKind.u64.wrap (-(k : Int))) 31 = (j : Int) ∧ Hid (j = 32 - k) := ⟨_, bits31 k h0 hk, rfl⟩
  have hj2 : (32 : Int) - (j : Int) = (k : Int) := by have := J.out; omega
  have hw : IntKind.u64.wrap (k : Int) = (k : Int) := by rw [IntKind.wrap_u64]; omega
  go_enter Tryz.func138, Tryz.ntmps138
  go_wp2
  go_ret
  refine ⟨congrArg (fun z => Ending.returned (.int .u32 z)) ?_, rfl⟩
  have e1 : (x : Int) * 2 ^ j % 4294967296 = ((x * 2 ^ (32 - k) % 4294967296 : Nat) : Int) := by rw [J.out, Int.natCast_emod, Int.natCast_mul, Int.natCast_pow]; rfl
  have e2 : (x : Int) / 2 ^ k = ((x / 2 ^ k : Nat) : Int) := by norm_cast
  rw [e1, e2, or_u32 _ _ (Nat.mod_lt _ (by decide)) (Nat.lt_of_le_of_lt (Nat.div_le_self _ _) hx), turn_or x k hx h0 hk]
  rfl

set_option maxRecDepth 100000 in
set_option maxHeartbeats 400000 in
theorem shifted_any (x k : Nat) (hk : k < 32) (w : World) :
    Calls Tryz.prog 129 #[.int .u32 x, .int .i64 k] w fun e w' => e = .returned (.int .u32 (x / 2 ^ k : Nat)) ∧ w' = w := by
  go_enter Tryz.func129, Tryz.ntmps129
  go_wp2
  go_ret
  refine ⟨congrArg (fun z => Ending.returned (.int .u32 z)) ?_, rfl⟩
  norm_cast

set_option maxRecDepth 100000 in
set_option maxHeartbeats 400000 in
theorem turned_any (x k : Nat) (hx : x < 4294967296) (h0 : 0 < k) (hk : k < 32) (w : World) :
    Calls Tryz.prog 130 #[.int .u32 x, .int .i64 k] w fun e w' => e = .returned (.int .u32 (turnR x k : Nat)) ∧ w' = w := by
  have H1 := Lib.hid (rotate_any x k hx h0 hk)
  have hw : IntKind.i64.wrap (-(k : Int)) = -(k : Int) := by rw [IntKind.wrap_i64]; omega
  go_enter Tryz.func130, Tryz.ntmps130
  go_wp2_with fail
  refine (H1.out _).mono ?_
  rintro e w4 ⟨rfl, rfl⟩
  go_wp2_with fail
  go_ret
  exact ⟨rfl, rfl⟩

set_option maxRecDepth 100000 in
set_option maxHeartbeats 400000 in
theorem mixed_turned (x a b c z : Nat) (hx : x < 4294967296) (hz : z < 4294967296) (ha : 0 < a ∧ a < 32) (hb : 0 < b ∧ b < 32) (hF : ∀ w, Calls Tryz.prog 130 #[.int .u32 x, .int .i64 c] w fun e w' => e = .returned (.int .u32 z) ∧ w' = w) (w : World) :
    Calls Tryz.prog 128 #[.int .u32 x, .int .i64 a, .int .i64 b, .int .i64 c, .func (.func 130) #[] #[]] w fun e w' => e = .returned (.int .u32 (turnR x a ^^^ turnR x b ^^^ z : Nat)) ∧ w' = w := by
  have l1 := turnR_lt x a hx ha.2
  have l2 := turnR_lt x b hx hb.2
  have H1 := Lib.hid (turned_any x a hx ha.1 ha.2)
  have H2 := Lib.hid (turned_any x b hx hb.1 hb.2)
  have H3 := Lib.hid hF
  clear hF ha hb
  generalize turnR x a = ra at *
  generalize turnR x b = rb at *
  have lx1 : ra ^^^ rb < 4294967296 := Nat.xor_lt_two_pow (n := 32) l1 l2
  have x1 := xor_u32 ra rb l1 l2
  have x2 := xor_u32 (ra ^^^ rb) z lx1 hz
  go_enter Tryz.func128, Tryz.ntmps128
  go_wp2_with fail
  refine (H1.out _).mono ?_
  rintro e w4 ⟨rfl, rfl⟩
  go_wp2_with fail
  refine (H2.out _).mono ?_
  rintro e w4 ⟨rfl, rfl⟩
  go_wp2_with fail
  refine (H3.out _).mono ?_
  rintro e w4 ⟨rfl, rfl⟩
  go_wp2_with fail
  go_ret
  exact ⟨rfl, rfl⟩

set_option maxRecDepth 100000 in
set_option maxHeartbeats 400000 in
theorem mixed_shifted (x a b c z : Nat) (hx : x < 4294967296) (hz : z < 4294967296) (ha : 0 < a ∧ a < 32) (hb : 0 < b ∧ b < 32) (hF : ∀ w, Calls Tryz.prog 129 #[.int .u32 x, .int .i64 c] w fun e w' => e = .returned (.int .u32 z) ∧ w' = w) (w : World) :
    Calls Tryz.prog 128 #[.int .u32 x, .int .i64 a, .int .i64 b, .int .i64 c, .func (.func 129) #[] #[]] w fun e w' => e = .returned (.int .u32 (turnR x a ^^^ turnR x b ^^^ z : Nat)) ∧ w' = w := by
  have l1 := turnR_lt x a hx ha.2
  have l2 := turnR_lt x b hx hb.2
  have H1 := Lib.hid (turned_any x a hx ha.1 ha.2)
  have H2 := Lib.hid (turned_any x b hx hb.1 hb.2)
  have H3 := Lib.hid hF
  clear hF ha hb
  generalize turnR x a = ra at *
  generalize turnR x b = rb at *
  have lx1 : ra ^^^ rb < 4294967296 := Nat.xor_lt_two_pow (n := 32) l1 l2
  have x1 := xor_u32 ra rb l1 l2
  have x2 := xor_u32 (ra ^^^ rb) z lx1 hz
  go_enter Tryz.func128, Tryz.ntmps128
  go_wp2_with fail
  refine (H1.out _).mono ?_
  rintro e w4 ⟨rfl, rfl⟩
  go_wp2_with fail
  refine (H2.out _).mono ?_
  rintro e w4 ⟨rfl, rfl⟩
  go_wp2_with fail
  refine (H3.out _).mono ?_
  rintro e w4 ⟨rfl, rfl⟩
  go_wp2_with fail
  go_ret
  exact ⟨rfl, rfl⟩

/-- The four ways of mixing. -/
theorem mixed_bs0 (x : Nat) (hx : x < 4294967296) (w : World) :
    Calls Tryz.prog 128 #[.int .u32 x, .int .i64 2, .int .i64 13, .int .i64 22, .func (.func 130) #[] #[]] w fun e w' => e = .returned (.int .u32 (bs0 x : Nat)) ∧ w' = w := by
  rw [bs0_turn]
  exact mixed_turned x 2 13 22 _ hx (turnR_lt x 22 hx (by decide)) (by decide) (by decide) (turned_any x 22 hx (by decide) (by decide)) w
theorem mixed_bs1 (x : Nat) (hx : x < 4294967296) (w : World) :
    Calls Tryz.prog 128 #[.int .u32 x, .int .i64 6, .int .i64 11, .int .i64 25, .func (.func 130) #[] #[]] w fun e w' => e = .returned (.int .u32 (bs1 x : Nat)) ∧ w' = w := by
  rw [bs1_turn]
  exact mixed_turned x 6 11 25 _ hx (turnR_lt x 25 hx (by decide)) (by decide) (by decide) (turned_any x 25 hx (by decide) (by decide)) w
theorem mixed_ss0 (x : Nat) (hx : x < 4294967296) (w : World) :
    Calls Tryz.prog 128 #[.int .u32 x, .int .i64 7, .int .i64 18, .int .i64 3, .func (.func 129) #[] #[]] w fun e w' => e = .returned (.int .u32 (ss0 x : Nat)) ∧ w' = w := by
  rw [ss0_turn]
  exact mixed_shifted x 7 18 3 _ hx (Nat.lt_of_le_of_lt (Nat.div_le_self _ _) hx) (by decide) (by decide) (shifted_any x 3 (by decide)) w
theorem mixed_ss1 (x : Nat) (hx : x < 4294967296) (w : World) :
    Calls Tryz.prog 128 #[.int .u32 x, .int .i64 17, .int .i64 19, .int .i64 10, .func (.func 129) #[] #[]] w fun e w' => e = .returned (.int .u32 (ss1 x : Nat)) ∧ w' = w := by
  rw [ss1_turn]
  exact mixed_shifted x 17 19 10 _ hx (Nat.lt_of_le_of_lt (Nat.div_le_self _ _) hx) (by decide) (by decide) (shifted_any x 10 (by decide)) w

theorem byte_at (s : ByteArray) (k : Nat) (h : k < s.size) : s.data.toList.getD k 0 = s[k] := by
  rw [List.getD_eq_getElem?_getD, List.getElem?_eq_getElem (by simpa using h)]
  rfl

set_option maxRecDepth 100000 in
set_option maxHeartbeats 800000 in
theorem textWord_first (s : ByteArray) (hs : 3 < s.size) (w : World) :
    Calls Tryz.prog 127 #[.string s] w fun e w' => e = .returned (.int .u32 (wordAt s.data.toList 0 : Nat)) ∧ Below w.heap.size w w' := by
  have h0 : (0 : Int) < (s.size : Int) := by omega
  have h1 : (1 : Int) < (s.size : Int) := by omega
  have h2 : (2 : Int) < (s.size : Int) := by omega
  have h3 : (3 : Int) < (s.size : Int) := by omega
  have g0 : 0 < s.size := by omega
  have g1 : 1 < s.size := by omega
  have g2 : 2 < s.size := by omega
  go_enter Tryz.func127, Tryz.ntmps127
  go_wp2
  go_quiet (fail)
  go_wp2
  go_ret
  refine ⟨congrArg (fun z => Ending.returned (.int .u32 z)) ?_, below_drewN (Below.refl _ _) _⟩
  have q0 := byte_at s 0 (by omega)
  have q1 := byte_at s 1 (by omega)
  have q2 := byte_at s 2 (by omega)
  have q3 := byte_at s 3 (by omega)
  unfold wordAt fourNum
  rw [q0, q1, q2, q3]
  exact word_or _ _ _ _ (UInt8.toNat_lt _) (UInt8.toNat_lt _) (UInt8.toNat_lt _) (UInt8.toNat_lt _)

end Go.Proofs.YtoaifgblbfdncaaGreatDoor
namespace Go.Proofs.YtoaifgblbfdncaaGreatDoor
open Go.RowKit

theorem maxW (x : Nat) (hx : x < 4294967296) : bits .xor .u32 IntKind.u32.max (x : Int) = ((4294967295 - x : Nat) : Int) := by
  have h := xor_u32 4294967295 x (by decide) hx
  have e : 4294967295 ^^^ x = 4294967295 - x := by
    apply Nat.eq_of_testBit_eq
    intro i
    rw [Nat.testBit_xor, not_bit x i hx]
    have h1 := Nat.testBit_two_pow_sub_one 32 i
    have e1 : 2 ^ 32 - 1 = 4294967295 := rfl
    rw [e1] at h1
    rw [h1]
    by_cases hi : i < 32
    · simp [hi]
    · have := Nat.testBit_lt_two_pow (x := x) (i := i) (Nat.lt_of_lt_of_le hx (Nat.pow_le_pow_right (by decide : 2 > 0) (by omega : 32 ≤ i)))
      simp [hi, this]
  rw [e] at h
  exact h

set_option maxRecDepth 100000 in
set_option maxHeartbeats 1600000 in
theorem afterStep_any (v : Eight) (hv : v.Ok) (k x : Nat) (w : World) :
    Calls Tryz.prog 113 #[stV v.toList, .int .u32 (((k + x) % 4294967296 : Nat) : Int)] w fun e' w' => e' = .returned (stV (stepE v k x).toList) ∧ Below w.heap.size w w' := by
  obtain ⟨a, b, c, d, e, f, g, h⟩ := v
  obtain ⟨ha, hb, hc, hd, he, hf, hg, hh⟩ := hv
  obtain ⟨s, hs⟩ : ∃ s, Hid (s = (k + x) % 4294967296) := ⟨_, rfl⟩
  rw [← hs.out]
  have H1 := Lib.hid (mixed_bs1 e he)
  have H2 := Lib.hid (mixed_bs0 a ha)
  have Z1 := bs1_lt e he
  have Z0 := bs0_lt a ha
  obtain ⟨s1, S1⟩ : ∃ s, Hid (s = bs1 e) := ⟨_, rfl⟩
  obtain ⟨s0, S0⟩ : ∃ s, Hid (s = bs0 a) := ⟨_, rfl⟩
  rw [← S1.out] at H1 Z1
  rw [← S0.out] at H2 Z0
  obtain ⟨ne, n1, n2, NE⟩ : ∃ q : Nat, bits .xor .u32 IntKind.u32.max (e : Int) = (q : Int) ∧ q < 4294967296 ∧ Hid (q = 4294967295 - e) := ⟨_, maxW e he, by omega, rfl⟩
  obtain ⟨ef, p1, p2, EF⟩ : ∃ q : Nat, bits .and .u32 (e : Int) (f : Int) = (q : Int) ∧ q < 4294967296 ∧ Hid (q = e &&& f) := ⟨_, andW e f he hf, Nat.lt_of_le_of_lt Nat.and_le_right hf, rfl⟩
  obtain ⟨ng, q1, q2, NG⟩ : ∃ q : Nat, bits .and .u32 (ne : Int) (g : Int) = (q : Int) ∧ q < 4294967296 ∧ Hid (q = ne &&& g) := ⟨_, andW ne g n2 hg, Nat.lt_of_le_of_lt Nat.and_le_right hg, rfl⟩
  obtain ⟨ch, r1, CH⟩ : ∃ q : Nat, bits .or .u32 (ef : Int) (ng : Int) = (q : Int) ∧ Hid (q = chO e f g) := ⟨_, or_u32 ef ng p2 q2, by show _ = _; rw [EF.out, NG.out, NE.out]; exact ch_or e f g he⟩
  obtain ⟨ab, u1, u2, AB⟩ : ∃ q : Nat, bits .and .u32 (a : Int) (b : Int) = (q : Int) ∧ q < 4294967296 ∧ Hid (q = a &&& b) := ⟨_, andW a b ha hb, Nat.lt_of_le_of_lt Nat.and_le_right hb, rfl⟩
  obtain ⟨ac, v1, v2, AC⟩ : ∃ q : Nat, bits .and .u32 (a : Int) (c : Int) = (q : Int) ∧ q < 4294967296 ∧ Hid (q = a &&& c) := ⟨_, andW a c ha hc, Nat.lt_of_le_of_lt Nat.and_le_right hc, rfl⟩
  obtain ⟨bc, x1, x2, BC⟩ : ∃ q : Nat, bits .and .u32 (b : Int) (c : Int) = (q : Int) ∧ q < 4294967296 ∧ Hid (q = b &&& c) := ⟨_, andW b c hb hc, Nat.lt_of_le_of_lt Nat.and_le_right hc, rfl⟩
  obtain ⟨m1, y1, y2, M1⟩ : ∃ q : Nat, bits .or .u32 (ab : Int) (ac : Int) = (q : Int) ∧ q < 4294967296 ∧ Hid (q = ab ||| ac) := ⟨_, or_u32 ab ac u2 v2, Nat.or_lt_two_pow (n := 32) u2 v2, rfl⟩
  obtain ⟨mj, z1, MJ⟩ : ∃ q : Nat, bits .or .u32 (m1 : Int) (bc : Int) = (q : Int) ∧ Hid (q = majO a b c) := ⟨_, or_u32 m1 bc y2 x2, by show _ = _; rw [M1.out, AB.out, AC.out, BC.out]; exact maj_or a b c⟩
  obtain ⟨o0, o1, O⟩ : ∃ o0 o1 : Nat, Hid ((stepE ⟨a, b, c, d, e, f, g, h⟩ k x).toList = [o0, a, b, c, o1, e, f, g] ∧ (o0 : Int) = ((h : Int) + (s1 : Int) + (ch : Int) + (s : Int) + ((s0 : Int) + (mj : Int))) % 4294967296 ∧ (o1 : Int) = ((d : Int) + ((h : Int) + (s1 : Int) + (ch : Int) + (s : Int))) % 4294967296) := by
    refine ⟨(t1Of ⟨a, b, c, d, e, f, g, h⟩ k x + t2Of ⟨a, b, c, d, e, f, g, h⟩) % 4294967296, (d + t1Of ⟨a, b, c, d, e, f, g, h⟩ k x) % 4294967296, rfl, ?_, ?_⟩
    · unfold t1Of t2Of
      dsimp only
      rw [← S1.out, ← S0.out, ← CH.out, ← MJ.out]
      have := hs.out
      omega
    · unfold t1Of
      dsimp only
      rw [← S1.out, ← CH.out]
      have := hs.out
      omega
  have B0 := Lib.hid (((Below.refl w.heap.size w).alloc (Nat.le_refl _) (.cells #[.int .u32 a, .int .u32 b, .int .u32 c, .int .u32 d, .int .u32 e, .int .u32 f, .int .u32 g, .int .u32 h] 92)).alloc (by simp) (.cells #[.int .u32 0, .int .u32 0, .int .u32 0, .int .u32 0, .int .u32 0, .int .u32 0, .int .u32 0, .int .u32 0] 92))
  rw [O.out.1]
  have P0 := Lib.hid O.out.2.1
  have P1 := Lib.hid O.out.2.2
  clear O
  show Calls Tryz.prog 113 #[.agg #[.int .u32 a, .int .u32 b, .int .u32 c, .int .u32 d, .int .u32 e, .int .u32 f, .int .u32 g, .int .u32 h], .int .u32 s] w _
  go_enter Tryz.func113, Tryz.ntmps113
  go_wp2_with fail
  go_quiet (fail)
  go_wp2_with fail
  go_quiet (fail)
  go_wp2_with fail
  refine (H1.out _).mono ?_
  rintro e1 w1 ⟨rfl, rfl⟩
  go_wp2_with fail
  refine (H2.out _).mono ?_
  rintro e1 w1 ⟨rfl, rfl⟩
  go_wp2_with fail
  rw [← P0.out, ← P1.out]
  refine bodyPost_ret (v := .agg #[.int .u32 o0, .int .u32 a, .int .u32 b, .int .u32 c, .int .u32 o1, .int .u32 e, .int .u32 f, .int .u32 g]) ?_ rfl ⟨rfl, ?_⟩
  · simp [results, Tryz.results113, go_sem]
  · exact Below.set8 (below_drewN B0.out _) (by omega) _ _ _ _ _ _ _ _
end Go.Proofs.YtoaifgblbfdncaaGreatDoor
