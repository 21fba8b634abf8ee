/-
  The given worth of a byte.
-/
import Derived.Test.YtcnnmpenahihnahRows
import Derived.Test.YtcnnmpenahihnahKit
import Derived.Test.YtcnnmpenahihnahPlainUnhex
namespace Go.Proofs.Ytcnnmpenahihnah
open Go.RowKit

theorem ret_i64 {a b : Int} (h : a = b) : Ending.returned (.int .i64 a) = .returned (.int .i64 b) := by rw [h]

set_option maxHeartbeats 400000 in
theorem l01Value_any (x : UInt8) (w : World) :
    Calls Try.prog 24 #[.int .u8 (x.toNat : Nat)] w fun e w' => e = .returned (.int .i64 (worthI x)) ∧ w' = w := by
  have hx := x.toNat_lt
  obtain ⟨n, hn, HN⟩ : ∃ n : Nat, n < 256 ∧ Hid (x.toNat = n) := ⟨x.toNat, hx, rfl⟩
  have HW : Hid (worthI x = if 48 ≤ n ∧ n ≤ 57 then (n : Int) - 48 else if 97 ≤ n ∧ n ≤ 102 then (n : Int) - 87 else -1) := by
    show worthI x = _
    unfold worthI
    rw [HN.out]
  rw [HN.out]
  clear hx
  have hcase : (48 ≤ n ∧ n ≤ 57) ∨ n < 48 ∨ (57 < n ∧ n < 97) ∨ (97 ≤ n ∧ n ≤ 102) ∨ 102 < n := by omega
  rcases hcase with ⟨a, b⟩ | h | ⟨a, b⟩ | ⟨a, b⟩ | h
  · go_enter Try.func24, Try.ntmps24
    go_wp2
    go_ret
    exact ⟨ret_i64 (by rw [HW.out, if_pos (by omega)]), rfl⟩
  · have g1 : decide ((48 : Int) ≤ (n : Int)) = false := decide_eq_false (by omega)
    have g2 : decide ((97 : Int) ≤ (n : Int)) = false := decide_eq_false (by omega)
    go_enter Try.func24, Try.ntmps24
    go_wp2
    go_ret
    exact ⟨ret_i64 (by rw [HW.out, if_neg (by omega), if_neg (by omega)]), rfl⟩
  · have g1 : decide ((n : Int) ≤ 57) = false := decide_eq_false (by omega)
    have g2 : decide ((97 : Int) ≤ (n : Int)) = false := decide_eq_false (by omega)
    go_enter Try.func24, Try.ntmps24
    go_wp2
    go_ret
    exact ⟨ret_i64 (by rw [HW.out, if_neg (by omega), if_neg (by omega)]), rfl⟩
  · have g1 : decide ((n : Int) ≤ 57) = false := decide_eq_false (by omega)
    go_enter Try.func24, Try.ntmps24
    go_wp2
    go_ret
    exact ⟨ret_i64 (by rw [HW.out, if_neg (by omega), if_pos (by omega)]; omega), rfl⟩
  · have g1 : decide ((n : Int) ≤ 57) = false := decide_eq_false (by omega)
    have g2 : decide ((n : Int) ≤ 102) = false := decide_eq_false (by omega)
    go_enter Try.func24, Try.ntmps24
    go_wp2
    go_ret
    exact ⟨ret_i64 (by rw [HW.out, if_neg (by omega), if_neg (by omega)]), rfl⟩

end Go.Proofs.Ytcnnmpenahihnah
