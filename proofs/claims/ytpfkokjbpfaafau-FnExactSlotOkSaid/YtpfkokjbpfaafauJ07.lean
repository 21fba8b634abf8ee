/-
  Rows of ints beside rows of structs: marked and measured by the same words.
-/
import Derived.Test.YtpfkokjbpfaafauJ06
namespace Go.Proofs.Ytpfkokjbpfaafau
open Go.RowKit

theorem markI_up : ∀ (xs : List Int) (k : Int), (layIntS.mark k xs).1 = upI k xs.length
  | [], k => rfl
  | x :: xs, k => by
    have h := markI_up xs (k + 1)
    show k :: (layIntS.mark (k + 1) xs).1 = _
    rw [h]
    unfold upI
    rw [List.length_cons, List.range_succ_eq_map, List.map_cons, List.map_map]
    simp only [Int.natCast_zero, Int.add_zero, List.cons.injEq, true_and]
    refine List.map_congr_left (fun j _ => ?_)
    simp only [Function.comp_apply, Nat.succ_eq_add_one, Int.natCast_add, Int.natCast_one]
    omega
theorem markIntL_any (v : Value) (xs : List Int) (b : Nat) (fp : List Nat) (k : Int) (hk0 : 1 ≤ k) (hk1 : k ≤ 500000000) (hl : xs.length ≤ 10000000) (w : World) (hd : fp.Nodup) (ho : layIntS.own w b fp [v] xs) :
    Calls Try.prog 39 #[v, .int .i64 k] w fun e w' => e = .returned (.int .i64 (k + 1 * (xs.length : Int))) ∧ layIntS.own w' b fp [v] (layIntS.mark k xs).1 ∧ Chg fp w w' := by
  refine (markIntS_any v xs b fp k (by omega) (by omega) (by omega) w hd ho).mono ?_
  rintro e w' ⟨rfl, h1, h2⟩
  exact ⟨by rw [Int.one_mul], by rw [markI_up]; exact h1, h2⟩
theorem heldIntL_any (v : Value) (xs : List Int) (k : Int) (hk0 : 1 ≤ k) (hk1 : k ≤ 500000000) (hl : xs.length ≤ 10000000) (w : World) (hr : layIntS.rd w [v] (layIntS.mark k xs).1) :
    Calls Try.prog 40 #[v, .int .i64 k] w fun e w' => e = .returned (.int .i64 (k + 1 * (xs.length : Int))) ∧ Below w.heap.size w w' := by
  rw [markI_up] at hr
  refine (heldIntS_any v xs.length k (by omega) (by omega) (by omega) w hr).mono ?_
  rintro e w' ⟨rfl, rfl⟩
  exact ⟨by rw [Int.one_mul], Below.refl _ _⟩
def FitsInt (xs : List Int) : Prop := xs.length ≤ 1048576
def RoomInt (xs : List Int) : Prop := xs.length ≤ 9223372036854775807
theorem szIntL_any (v : Value) (xs : List Int) (left : Int) (h0 : 0 ≤ left) (h1 : left ≤ 1048576) (hR : RoomInt xs) (w : World) (h : layIntS.rd w [v] xs) :
    Calls Try.prog 20 #[v, .int .i64 left] w fun e w' => SzEnd (FitsInt xs) left e ∧ Below w.heap.size w w' := by
  obtain ⟨ao, cp, rfl⟩ := rows_form h
  unfold RoomInt at hR
  refine (szIntS_any ao xs.length cp left h0 h1 (by omega) w).mono ?_
  rintro e w' ⟨rfl, rfl⟩
  refine ⟨⟨_, rfl, ?_⟩, Below.refl _ _⟩
  by_cases h2 : left < (xs.length : Int)
  · rw [if_pos h2]
    exact .inl rfl
  · rw [if_neg h2]
    exact .inr ⟨by omega, by omega, by show xs.length ≤ _; omega⟩

end Go.Proofs.Ytpfkokjbpfaafau
