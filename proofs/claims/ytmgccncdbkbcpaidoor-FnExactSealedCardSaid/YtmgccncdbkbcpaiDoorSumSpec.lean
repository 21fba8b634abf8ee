/-
  The given sums by what they answer.
-/
import Derived.Test.YtmgccncdbkbcpaiDoorRows
import Derived.Test.YtmgccncdbkbcpaiDoorKit
import Derived.Test.YtmgccncdbkbcpaiDoorPlainSumHalf
import Derived.Test.YtmgccncdbkbcpaiDoorPlainHex
import Derived.Deep.RegionHeld3
import Derived.BigQuiet
import Derived.Deep.QuietTactic
import Derived.Deep.LoopGhost
import Derived.Deep.DeepCutAuto
namespace Go.Proofs.YtmgccncdbkbcpaiDoor
open Go.RowKit

set_option maxRecDepth 100000 in
set_option maxHeartbeats 400000 in
theorem specSumMore_any (x : Nat) (hx : x < 4294967296) (s : ByteArray) (hs : s.size ≤ 1099511627776) (w : World) :
    Calls Tryd.prog 13 #[.int .u32 x, .string s] w fun e w' => e = .returned (.int .u32 (sumL x s.data.toList : Nat)) ∧ w' = w := by
  go_enter Tryd.func13, Tryd.ntmps13
  go_wp2
  go_loopg [0, 5] s.size (fun g v c wr => ∃ k : Nat, k + g = s.size ∧ c = .int .i64 k ∧ v = .int .u32 (sumL x (s.data.toList.take k) : Nat) ∧ wr = w)
  case atStart => exact ⟨0, by omega, rfl, rfl, rfl⟩
  case round =>
    obtain ⟨k, hkg, rfl, rfl, rfl⟩ := hrel
    have hy := sumL_lt (s.data.toList.take k) x hx
    cases gk with
    | zero =>
      have hkz : ¬ ((k : Int) < (s.size : Int)) := by omega
      have he : s.data.toList.take k = s.data.toList := List.take_of_length_le (by simp; omega)
      rw [he]
      rw [he] at hy
      go_wp2
      go_ret
      exact ⟨rfl, rfl⟩
    | succ g =>
      have hlt : k < s.size := by omega
      have hkz : (k : Int) < (s.size : Int) := by omega
      have e1 : sumL x (s.data.toList.take (k + 1)) = sumB (sumL x (s.data.toList.take k)) s[k] := by rw [take_snoc s k hlt, sumL_snoc]
      have E1 := Lib.hid e1
      clear e1
      generalize sumL x (s.data.toList.take k) = y at hy E1 ⊢
      have hb : s[k].toNat < 4294967296 := by have := s[k].toNat_lt; omega
      have hz : y ^^^ s[k].toNat < 4294967296 := Nat.xor_lt_two_pow (n := 32) hy hb
      have hxor := xor_u32 y s[k].toNat hy hb
      go_wp2
      go_loopg [0, 6] 8 (fun g2 v c wy => ∃ j : Nat, j + g2 = 8 ∧ c = .int .i64 j ∧ v = .int .u32 (halves j (y ^^^ s[k].toNat) : Nat) ∧ wy = wr)
      case atStart => exact ⟨0, rfl, rfl, rfl, rfl⟩
      case round =>
        obtain ⟨j, hj, rfl, rfl, rfl⟩ := hrel
        clear hxor
        cases gk with
        | zero =>
          obtain rfl : j = 8 := by omega
          go_wp2
          go_roundg g
          case measure => omega
          case rel => exact ⟨k + 1, by omega, by go_num, by rw [E1.out]; rfl, rfl⟩
        | succ g2 =>
          have hj8 : (j : Int) < 8 := by omega
          have hq := halves_lt j _ hz
          have e2 := halves_snoc j (y ^^^ s[k].toNat)
          have E2 := Lib.hid e2
          clear e2
          generalize halves j (y ^^^ s[k].toNat) = q at hq E2 ⊢
          have hq2 : (q : Int).tmod 2 = ((q % 2 : Nat) : Int) := by rw [Int.tmod_eq_emod_of_nonneg (by omega)]; omega
          have hq3 : (q : Int) / 2 = ((q / 2 : Nat) : Int) := by omega
          by_cases ho : q % 2 = 1
          · have hr : (q : Int).tmod 2 = 1 := by rw [hq2, ho]; rfl
            have hx2 : bits .xor .u32 ((q : Int) / 2) 3558460437 = ((half q : Nat) : Int) := by
              rw [hq3]
              have := xor_u32 (q / 2) 3558460437 (by omega) (by omega)
              unfold half
              rw [if_pos ho, ← this]
              rfl
            clear hq2 hq3
            go_wp2
            go_roundg g2
            case measure => omega
            case rel => exact ⟨j + 1, by omega, by go_num, by rw [E2.out], rfl⟩
          · have hr : ¬ (q : Int).tmod 2 = 1 := by rw [hq2]; omega
            have e3 : half q = q / 2 := by unfold half; rw [if_neg ho]
            have E3 := Lib.hid e3
            clear hq2 hq3 e3
            go_wp2
            go_roundg g2
            case measure => omega
            case rel => exact ⟨j + 1, by omega, by go_num, by rw [E2.out, E3.out]; go_num, rfl⟩

set_option maxHeartbeats 400000 in
theorem specSumOf_any (s : ByteArray) (hs : s.size ≤ 1099511627776) (w : World) :
    Calls Tryd.prog 15 #[.string s] w fun e w' => e = .returned (.int .u32 (sumL 4294967295 s.data.toList : Nat)) ∧ w' = w := by
  have H1 := Lib.hid (specSumMore_any 4294967295 (by omega) s hs w)
  go_enter Tryd.func15, Tryd.ntmps15
  go_wp2_with fail
  refine (H1.out).mono ?_
  rintro e w1 ⟨rfl, rfl⟩
  go_wp2
  go_ret
  exact ⟨rfl, rfl⟩

end Go.Proofs.YtmgccncdbkbcpaiDoor
