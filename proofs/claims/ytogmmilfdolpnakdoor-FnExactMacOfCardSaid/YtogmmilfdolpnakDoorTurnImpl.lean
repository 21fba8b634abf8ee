/-
  The program's words: turned, shifted, mixed, read of a text.
-/
import Derived.Test.YtogmmilfdolpnakDoorRows
import Derived.Test.YtogmmilfdolpnakDoorKit
import Derived.Test.YtogmmilfdolpnakDoorPlainTurn
import Derived.Deep.RegionHeld3
import Derived.BigQuiet
import Derived.Deep.QuietTactic
import Derived.Deep.LoopGhost
import Derived.Deep.DeepCutAuto
namespace Go.Proofs.YtogmmilfdolpnakDoor
open Go.RowKit

/-- A number below 0 as so many bits, as the walk spells it. -/
theorem bits31 (k : Nat) (h0 : 0 < k) (hk : k < 32) : bits .and .u64 (IntKind.u64.wrap (-(k : Int))) 31 = ((32 - k : Nat) : Int) := by
  have e : ∀ k : Fin 32, 0 < k.val → bits .and .u64 (IntKind.u64.wrap (-((k.val : Nat) : Int))) 31 = ((32 - k.val : Nat) : Int) := by decide
  exact e ⟨k, hk⟩ h0

set_option maxRecDepth 100000 in
set_option maxHeartbeats 400000 in
theorem rotate_any (x k : Nat) (hx : x < 4294967296) (h0 : 0 < k) (hk : k < 32) (w : World) :
    Calls Tryd.prog 66 #[.int .u32 x, .int .i64 (-(k : Int))] w fun e w' => e = .returned (.int .u32 (turnR x k : Nat)) ∧ w' = w := by
  obtain ⟨j, hj, J⟩ : ∃ j : Nat, bits .and .u64 (IntKind.u64.wrap (-(k : Int))) 31 = (j : Int) ∧ Hid (j = 32 - k) := ⟨_, bits31 k h0 hk, rfl⟩
  have hj2 : (32 : Int) - (j : Int) = (k : Int) := by have := J.out; omega
  have hw : IntKind.u64.wrap (k : Int) = (k : Int) := by rw [IntKind.wrap_u64]; omega
  go_enter Tryd.func66, Tryd.ntmps66
  go_wp2
  go_ret
  refine ⟨congrArg (fun z => Ending.returned (.int .u32 z)) ?_, rfl⟩
  have e1 : (x : Int) * 2 ^ j % 4294967296 = ((x * 2 ^ (32 - k) % 4294967296 : Nat) : Int) := by rw [J.out, Int.natCast_emod, Int.natCast_mul, Int.natCast_pow]; rfl
  have e2 : (x : Int) / 2 ^ k = ((x / 2 ^ k : Nat) : Int) := by norm_cast
  rw [e1, e2, or_u32 _ _ (Nat.mod_lt _ (by decide)) (Nat.lt_of_le_of_lt (Nat.div_le_self _ _) hx), turn_or x k hx h0 hk]
  rfl

set_option maxRecDepth 100000 in
set_option maxHeartbeats 400000 in
theorem shifted_any (x k : Nat) (hk : k < 32) (w : World) :
    Calls Tryd.prog 60 #[.int .u32 x, .int .i64 k] w fun e w' => e = .returned (.int .u32 (x / 2 ^ k : Nat)) ∧ w' = w := by
  go_enter Tryd.func60, Tryd.ntmps60
  go_wp2
  go_ret
  refine ⟨congrArg (fun z => Ending.returned (.int .u32 z)) ?_, rfl⟩
  norm_cast

set_option maxRecDepth 100000 in
set_option maxHeartbeats 400000 in
theorem turned_any (x k : Nat) (hx : x < 4294967296) (h0 : 0 < k) (hk : k < 32) (w : World) :
    Calls Tryd.prog 61 #[.int .u32 x, .int .i64 k] w fun e w' => e = .returned (.int .u32 (turnR x k : Nat)) ∧ w' = w := by
  have H1 := Lib.hid (rotate_any x k hx h0 hk)
  have hw : IntKind.i64.wrap (-(k : Int)) = -(k : Int) := by rw [IntKind.wrap_i64]; omega
  go_enter Tryd.func61, Tryd.ntmps61
  go_wp2_with fail
  refine (H1.out _).mono ?_
  rintro e w4 ⟨rfl, rfl⟩
  go_wp2_with fail
  go_ret
  exact ⟨rfl, rfl⟩

set_option maxRecDepth 100000 in
set_option maxHeartbeats 400000 in
theorem mixed_turned (x a b c z : Nat) (hx : x < 4294967296) (hz : z < 4294967296) (ha : 0 < a ∧ a < 32) (hb : 0 < b ∧ b < 32) (hF : ∀ w, Calls Tryd.prog 61 #[.int .u32 x, .int .i64 c] w fun e w' => e = .returned (.int .u32 z) ∧ w' = w) (w : World) :
    Calls Tryd.prog 59 #[.int .u32 x, .int .i64 a, .int .i64 b, .int .i64 c, .func (.func 61) #[] #[]] w fun e w' => e = .returned (.int .u32 (turnR x a ^^^ turnR x b ^^^ z : Nat)) ∧ w' = w := by
  have l1 := turnR_lt x a hx ha.2
  have l2 := turnR_lt x b hx hb.2
  have H1 := Lib.hid (turned_any x a hx ha.1 ha.2)
  have H2 := Lib.hid (turned_any x b hx hb.1 hb.2)
  have H3 := Lib.hid hF
  clear hF ha hb
  generalize turnR x a = ra at *
  generalize turnR x b = rb at *
  have lx1 : ra ^^^ rb < 4294967296 := Nat.xor_lt_two_pow (n := 32) l1 l2
  have x1 := xor_u32 ra rb l1 l2
  have x2 := xor_u32 (ra ^^^ rb) z lx1 hz
  go_enter Tryd.func59, Tryd.ntmps59
  go_wp2_with fail
  refine (H1.out _).mono ?_
  rintro e w4 ⟨rfl, rfl⟩
  go_wp2_with fail
  refine (H2.out _).mono ?_
  rintro e w4 ⟨rfl, rfl⟩
  go_wp2_with fail
  refine (H3.out _).mono ?_
  rintro e w4 ⟨rfl, rfl⟩
  go_wp2_with fail
  go_ret
  exact ⟨rfl, rfl⟩

set_option maxRecDepth 100000 in
set_option maxHeartbeats 400000 in
theorem mixed_shifted (x a b c z : Nat) (hx : x < 4294967296) (hz : z < 4294967296) (ha : 0 < a ∧ a < 32) (hb : 0 < b ∧ b < 32) (hF : ∀ w, Calls Tryd.prog 60 #[.int .u32 x, .int .i64 c] w fun e w' => e = .returned (.int .u32 z) ∧ w' = w) (w : World) :
    Calls Tryd.prog 59 #[.int .u32 x, .int .i64 a, .int .i64 b, .int .i64 c, .func (.func 60) #[] #[]] w fun e w' => e = .returned (.int .u32 (turnR x a ^^^ turnR x b ^^^ z : Nat)) ∧ w' = w := by
  have l1 := turnR_lt x a hx ha.2
  have l2 := turnR_lt x b hx hb.2
  have H1 := Lib.hid (turned_any x a hx ha.1 ha.2)
  have H2 := Lib.hid (turned_any x b hx hb.1 hb.2)
  have H3 := Lib.hid hF
  clear hF ha hb
  generalize turnR x a = ra at *
  generalize turnR x b = rb at *
  have lx1 : ra ^^^ rb < 4294967296 := Nat.xor_lt_two_pow (n := 32) l1 l2
  have x1 := xor_u32 ra rb l1 l2
  have x2 := xor_u32 (ra ^^^ rb) z lx1 hz
  go_enter Tryd.func59, Tryd.ntmps59
  go_wp2_with fail
  refine (H1.out _).mono ?_
  rintro e w4 ⟨rfl, rfl⟩
  go_wp2_with fail
  refine (H2.out _).mono ?_
  rintro e w4 ⟨rfl, rfl⟩
  go_wp2_with fail
  refine (H3.out _).mono ?_
  rintro e w4 ⟨rfl, rfl⟩
  go_wp2_with fail
  go_ret
  exact ⟨rfl, rfl⟩

/-- The four ways of mixing. -/
theorem mixed_bs0 (x : Nat) (hx : x < 4294967296) (w : World) :
    Calls Tryd.prog 59 #[.int .u32 x, .int .i64 2, .int .i64 13, .int .i64 22, .func (.func 61) #[] #[]] w fun e w' => e = .returned (.int .u32 (bs0 x : Nat)) ∧ w' = w := by
  rw [bs0_turn]
  exact mixed_turned x 2 13 22 _ hx (turnR_lt x 22 hx (by decide)) (by decide) (by decide) (turned_any x 22 hx (by decide) (by decide)) w
theorem mixed_bs1 (x : Nat) (hx : x < 4294967296) (w : World) :
    Calls Tryd.prog 59 #[.int .u32 x, .int .i64 6, .int .i64 11, .int .i64 25, .func (.func 61) #[] #[]] w fun e w' => e = .returned (.int .u32 (bs1 x : Nat)) ∧ w' = w := by
  rw [bs1_turn]
  exact mixed_turned x 6 11 25 _ hx (turnR_lt x 25 hx (by decide)) (by decide) (by decide) (turned_any x 25 hx (by decide) (by decide)) w
theorem mixed_ss0 (x : Nat) (hx : x < 4294967296) (w : World) :
    Calls Tryd.prog 59 #[.int .u32 x, .int .i64 7, .int .i64 18, .int .i64 3, .func (.func 60) #[] #[]] w fun e w' => e = .returned (.int .u32 (ss0 x : Nat)) ∧ w' = w := by
  rw [ss0_turn]
  exact mixed_shifted x 7 18 3 _ hx (Nat.lt_of_le_of_lt (Nat.div_le_self _ _) hx) (by decide) (by decide) (shifted_any x 3 (by decide)) w
theorem mixed_ss1 (x : Nat) (hx : x < 4294967296) (w : World) :
    Calls Tryd.prog 59 #[.int .u32 x, .int .i64 17, .int .i64 19, .int .i64 10, .func (.func 60) #[] #[]] w fun e w' => e = .returned (.int .u32 (ss1 x : Nat)) ∧ w' = w := by
  rw [ss1_turn]
  exact mixed_shifted x 17 19 10 _ hx (Nat.lt_of_le_of_lt (Nat.div_le_self _ _) hx) (by decide) (by decide) (shifted_any x 10 (by decide)) w

theorem byte_at (s : ByteArray) (k : Nat) (h : k < s.size) : s.data.toList.getD k 0 = s[k] := by
  rw [List.getD_eq_getElem?_getD, List.getElem?_eq_getElem (by simpa using h)]
  rfl

set_option maxRecDepth 100000 in
set_option maxHeartbeats 800000 in
theorem textWord_first (s : ByteArray) (hs : 3 < s.size) (w : World) :
    Calls Tryd.prog 41 #[.string s] w fun e w' => e = .returned (.int .u32 (wordAt s.data.toList 0 : Nat)) ∧ Below w.heap.size w w' := by
  have h0 : (0 : Int) < (s.size : Int) := by omega
  have h1 : (1 : Int) < (s.size : Int) := by omega
  have h2 : (2 : Int) < (s.size : Int) := by omega
  have h3 : (3 : Int) < (s.size : Int) := by omega
  have g0 : 0 < s.size := by omega
  have g1 : 1 < s.size := by omega
  have g2 : 2 < s.size := by omega
  go_enter Tryd.func41, Tryd.ntmps41
  go_wp2
  go_quiet (fail)
  go_wp2
  go_ret
  refine ⟨congrArg (fun z => Ending.returned (.int .u32 z)) ?_, below_drewN (Below.refl _ _) _⟩
  have q0 := byte_at s 0 (by omega)
  have q1 := byte_at s 1 (by omega)
  have q2 := byte_at s 2 (by omega)
  have q3 := byte_at s 3 (by omega)
  unfold wordAt fourNum
  rw [q0, q1, q2, q3]
  exact word_or _ _ _ _ (UInt8.toNat_lt _) (UInt8.toNat_lt _) (UInt8.toNat_lt _) (UInt8.toNat_lt _)

end Go.Proofs.YtogmmilfdolpnakDoor
