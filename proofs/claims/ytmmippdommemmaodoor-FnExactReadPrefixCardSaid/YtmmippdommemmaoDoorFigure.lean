/-
  The given figure of a worth below 16.
-/
import Derived.Test.YtmmippdommemmaoDoorRows
import Derived.Test.YtmmippdommemmaoDoorKit
import Derived.Test.YtmmippdommemmaoDoorPlainAll
namespace Go.Proofs.YtmmippdommemmaoDoor
open Go.RowKit

theorem ret_u8 {a b : Int} (h : a = b) : Ending.returned (.int .u8 a) = .returned (.int .u8 b) := by rw [h]

theorem l01Figure_any (x : Nat) (hx : (x : Int) < 16) (w : World) :
    Calls Tryd.prog 24 #[.int .i64 x] w fun e w' => e = .returned (.int .u8 ((fig x).toNat : Nat)) ∧ w' = w := by
  have hf := fig_toNat x (by omega)
  have HF := Lib.hid hf
  clear hf
  by_cases h : x < 10
  · go_enter Tryd.func24, Tryd.ntmps24
    go_wp2
    go_ret
    exact ⟨ret_u8 (by rw [HF.out, if_pos h]; omega), rfl⟩
  · go_enter Tryd.func24, Tryd.ntmps24
    go_wp2
    go_ret
    exact ⟨ret_u8 (by rw [HF.out, if_neg h]; omega), rfl⟩

theorem l01Figure_int (x : Int) (h0 : 0 ≤ x) (hx : x < 16) (w : World) :
    Calls Tryd.prog 24 #[.int .i64 x] w fun e w' => e = .returned (.int .u8 ((fig x.toNat).toNat : Nat)) ∧ w' = w := by
  obtain ⟨n, rfl⟩ := Int.eq_ofNat_of_zero_le h0
  rw [Int.toNat_natCast]
  exact l01Figure_any n hx w

end Go.Proofs.YtmmippdommemmaoDoor
