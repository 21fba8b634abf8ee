/-
  Rows of bools beside rows of structs: marked and measured by the same words.
-/
import Derived.Test.YtfhlpgngeiploabJ07
import Derived.Test.YtfhlpgngeiploabJ05
namespace Go.Proofs.Ytfhlpgngeiploab
open Go.RowKit

theorem markB_up : ∀ (xs : List Bool) (k : Int), (layBoolS.mark k xs).1 = upB k xs.length
  | [], k => rfl
  | x :: xs, k => by
    have h := markB_up xs (k + 1)
    show mkB k :: (layBoolS.mark (k + 1) xs).1 = _
    rw [h]
    unfold upB
    rw [List.length_cons, List.range_succ_eq_map, List.map_cons, List.map_map]
    simp only [Int.natCast_zero, Int.add_zero, List.cons.injEq, true_and]
    refine List.map_congr_left (fun j _ => ?_)
    simp only [Function.comp_apply, Nat.succ_eq_add_one, Int.natCast_add, Int.natCast_one]
    congr 1
    omega
theorem markBoolL_any (v : Value) (xs : List Bool) (b : Nat) (fp : List Nat) (k : Int) (hk0 : 1 ≤ k) (hk1 : k ≤ 500000000) (hl : xs.length ≤ 10000000) (w : World) (hd : fp.Nodup) (ho : layBoolS.own w b fp [v] xs) :
    Calls Try.prog 49 #[v, .int .i64 k] w fun e w' => e = .returned (.int .i64 (k + 1 * (xs.length : Int))) ∧ layBoolS.own w' b fp [v] (layBoolS.mark k xs).1 ∧ Chg fp w w' := by
  refine (markBoolS_any v xs b fp k (by omega) (by omega) (by omega) w hd ho).mono ?_
  rintro e w' ⟨rfl, h1, h2⟩
  exact ⟨by rw [Int.one_mul], by rw [markB_up]; exact h1, h2⟩
theorem heldBoolL_any (v : Value) (xs : List Bool) (k : Int) (hk0 : 1 ≤ k) (hk1 : k ≤ 500000000) (hl : xs.length ≤ 10000000) (w : World) (hr : layBoolS.rd w [v] (layBoolS.mark k xs).1) :
    Calls Try.prog 51 #[v, .int .i64 k] w fun e w' => e = .returned (.int .i64 (k + 1 * (xs.length : Int))) ∧ Below w.heap.size w w' := by
  rw [markB_up] at hr
  refine (heldBoolS_any v xs.length k (by omega) (by omega) (by omega) w hr).mono ?_
  rintro e w' ⟨rfl, rfl⟩
  exact ⟨by rw [Int.one_mul], Below.refl _ _⟩
def FitsBool (xs : List Bool) : Prop := xs.length ≤ 1048576
def RoomBool (xs : List Bool) : Prop := xs.length ≤ 9223372036854775807
end Go.Proofs.Ytfhlpgngeiploab
