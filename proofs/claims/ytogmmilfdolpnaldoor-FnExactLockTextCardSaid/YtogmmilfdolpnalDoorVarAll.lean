/-
  The two functions that write a number in bytes, the given one and the program's, answer one text, at every number.
  The program's VarText: the number's text and true in the range, nothing and false outside of it.
-/
import Derived.Test.YtogmmilfdolpnalDoorRows
import Derived.Test.YtogmmilfdolpnalDoorPlainAll
import Derived.Test.YtogmmilfdolpnalDoorKit
namespace Go.Proofs.YtogmmilfdolpnalDoor
open Go.RowKit

theorem infoByte : (Tryd.prog.info? 5).map (fun i => (i.zero, i.size, i.bytes)) = some (some (.int .u8 0), 1, 1) := by kernel_rfl

set_option maxRecDepth 100000 in
set_option maxHeartbeats 400000 in
theorem l01Var_any (n : Nat) (hn : n ≤ 1000000000) (w : World) :
    Calls Tryd.prog 20 #[.int .i64 n] w fun e w' => e = .returned (.string ⟨(var n).toArray⟩) ∧ Below w.heap.size w w' := by
  obtain ⟨i0, hi, hz0, hz1, hz2⟩ := info_parts infoByte
  go_enter Tryd.func20, Tryd.ntmps20
  go_wp2
  go_loopw [0, 3] (fun t v wr => ∃ (m : Nat) (xs : List UInt8), m ≤ n ∧ t = .int .i64 m ∧ xs ++ var m = var n ∧ OwnB wr w.heap.size 5 v xs ∧ Below w.heap.size w wr) (fun t _ _ => (intOf t).toNat)
  case atStart => exact ⟨n, [], Nat.le_refl _, rfl, rfl, OwnB.lit _ _ _ (Nat.le_refl _), (Below.refl _ _).alloc (Nat.le_refl _) _⟩
  case round =>
    obtain ⟨m, xs, hm, rfl, hx, hown, hnx⟩ := hrel
    have hsz := hnx.size
    have hlen : xs.length + (var m).length ≤ 1000000001 := by
      have h1 := var_length n
      rw [← hx, List.length_append] at h1
      omega
    have HX := Lib.hid hx
    clear hx
    by_cases hlt : 127 < m
    · obtain ⟨b, hb, hg⟩ : ∃ b : UInt8, ((m : Int) % 128 + 128) = b.toNat ∧ var m = b :: var (m / 128) := ⟨_, by rw [byte_of _ (by omega)]; omega, var_great m hlt⟩
      have HG := Lib.hid hg
      have HB := Lib.hid hb
      clear hg hb
      go_wp2_with (at_builtin; refine wpList_push _ rfl _ _ 32 rfl w.heap.size 5 i0 Tryd.underlying32 hi hz0 hz1 hz2 _ xs rfl hown b _ rfl HB.out (by omega) hsz ?_)
      intro v' w1 hown1 hnx1
      have hnx2 := hnx.trans hnx1
      clear hown hnx hnx1 hsz
      go_wp2
      go_roundw
      case rel => exact ⟨m / 128, xs ++ [b], by omega, by go_num, by rw [← HX.out, HG.out, List.append_assoc]; rfl, hown1, hnx2⟩
      case measure => simp [intOf]; omega
    · obtain ⟨b, hb, hs⟩ : ∃ b : UInt8, (m : Int) = b.toNat ∧ var m = [b] := ⟨_, by rw [byte_of _ (by omega)], var_small m (by omega)⟩
      have HS := Lib.hid hs
      have HB := Lib.hid hb
      clear hs hb
      go_wp2_with (at_builtin; refine wpList_push _ rfl _ _ 32 rfl w.heap.size 5 i0 Tryd.underlying32 hi hz0 hz1 hz2 _ xs rfl hown b _ rfl HB.out (by omega) hsz ?_)
      intro v' w1 hown1 hnx1
      have hcv := run_string_own (P := Tryd.prog) w1 32 9 5 Tryd.underlying32 Tryd.underlying5 Tryd.underlying9 _ hown1
      go_wp2
      go_ret
      exact ⟨ret_str (by rw [← HX.out, HS.out]), hnx.trans hnx1⟩

theorem l01Var_int (n : Int) (h0 : 0 ≤ n) (h1 : n ≤ 1000000000) (w : World) :
    Calls Tryd.prog 20 #[.int .i64 n] w fun e w' => e = .returned (.string ⟨(var n.toNat).toArray⟩) ∧ Below w.heap.size w w' := by
  obtain ⟨m, rfl⟩ := Int.eq_ofNat_of_zero_le h0
  rw [Int.toNat_natCast]
  exact l01Var_any m (by omega) w

theorem l01In_yes (x a b : Int) (h0 : a ≤ x) (h1 : x ≤ b) (w : World) :
    Calls Tryd.prog 18 #[.int .i64 x, .int .i64 a, .int .i64 b] w fun e w' => e = .returned (.bool true) ∧ w = w' := by
  go_enter Tryd.func18, Tryd.ntmps18
  go_wp2
  go_ret
  exact ⟨rfl, rfl⟩

theorem l01In_no (x a b : Int) (h : x < a ∨ b < x) (w : World) :
    Calls Tryd.prog 18 #[.int .i64 x, .int .i64 a, .int .i64 b] w fun e w' => e = .returned (.bool false) ∧ w = w' := by
  by_cases hx : x < a
  · go_enter Tryd.func18, Tryd.ntmps18
    go_wp2
    go_ret
    exact ⟨rfl, rfl⟩
  · have h0 : a ≤ x := by omega
    have h1 : decide (x ≤ b) = false := decide_eq_false (by omega)
    clear h hx
    go_enter Tryd.func18, Tryd.ntmps18
    go_wp2
    go_ret
    exact ⟨rfl, rfl⟩

end Go.Proofs.YtogmmilfdolpnalDoor
namespace Go.Proofs.YtogmmilfdolpnalDoor
open Go.RowKit

set_option maxRecDepth 100000 in
set_option maxHeartbeats 400000 in
theorem implVarText_yes (n : Nat) (hn : n ≤ 1000000000) (w : World) :
    Calls Tryd.prog 22 #[.int .i64 n] w fun e w' => e = .returned (.tuple #[.string ⟨(var n).toArray⟩, .bool true]) ∧ Below w.heap.size w w' := by
  obtain ⟨i0, hi, hz0, hz1, hz2⟩ := info_parts infoByte
  have h0 : ¬ (n : Int) < 0 := by omega
  have h1 : ¬ 1000000000 < (n : Int) := by omega
  go_enter Tryd.func22, Tryd.ntmps22
  go_wp2
  go_loopw [0, 4] (fun t v wr => ∃ (m : Nat) (xs : List UInt8), m ≤ n ∧ t = .int .i64 m ∧ xs ++ var m = var n ∧ OwnB wr w.heap.size 5 v xs ∧ Below w.heap.size w wr) (fun t _ _ => (intOf t).toNat)
  case atStart => exact ⟨n, [], Nat.le_refl _, rfl, rfl, OwnB.nil _ _ _, Below.refl _ _⟩
  case round =>
    obtain ⟨m, xs, hm, rfl, hx, hown, hnx⟩ := hrel
    have hsz := hnx.size
    have hlen : xs.length + (var m).length ≤ 1000000001 := by
      have h1 := var_length n
      rw [← hx, List.length_append] at h1
      omega
    have HX := Lib.hid hx
    clear hx
    by_cases hlt : 127 < m
    · obtain ⟨b, hb, hg⟩ : ∃ b : UInt8, ((m : Int) % 128 + 128) = b.toNat ∧ var m = b :: var (m / 128) := ⟨_, by rw [byte_of _ (by omega)]; omega, var_great m hlt⟩
      have HG := Lib.hid hg
      have HB := Lib.hid hb
      clear hg hb
      go_wp2_with (at_builtin; refine wpList_push _ rfl _ _ 32 rfl w.heap.size 5 i0 Tryd.underlying32 hi hz0 hz1 hz2 _ xs rfl hown b _ rfl HB.out (by omega) hsz ?_)
      intro v' w1 hown1 hnx1
      have hnx2 := hnx.trans hnx1
      clear hown hnx hnx1 hsz
      go_wp2
      go_roundw
      case rel => exact ⟨m / 128, xs ++ [b], by omega, by go_num, by rw [← HX.out, HG.out, List.append_assoc]; rfl, hown1, hnx2⟩
      case measure => simp [intOf]; omega
    · obtain ⟨b, hb, hs⟩ : ∃ b : UInt8, (m : Int) = b.toNat ∧ var m = [b] := ⟨_, by rw [byte_of _ (by omega)], var_small m (by omega)⟩
      have HS := Lib.hid hs
      have HB := Lib.hid hb
      clear hs hb
      go_wp2_with (at_builtin; refine wpList_push _ rfl _ _ 32 rfl w.heap.size 5 i0 Tryd.underlying32 hi hz0 hz1 hz2 _ xs rfl hown b _ rfl HB.out (by omega) hsz ?_)
      intro v' w1 hown1 hnx1
      have hcv := run_string_own (P := Tryd.prog) w1 32 9 5 Tryd.underlying32 Tryd.underlying5 Tryd.underlying9 _ hown1
      go_wp2
      go_ret2
      exact ⟨ret_str2 (by rw [← HX.out, HS.out]), hnx.trans hnx1⟩

set_option maxRecDepth 100000 in
set_option maxHeartbeats 400000 in
theorem implVarText_no (n : Int) (hn : n < 0 ∨ 1000000000 < n) (w : World) :
    Calls Tryd.prog 22 #[.int .i64 n] w fun e w' => e = .returned (.tuple #[.string ⟨#[]⟩, .bool false]) ∧ Below w.heap.size w w' := by
  rcases hn with h | h
  · go_enter Tryd.func22, Tryd.ntmps22
    go_wp2
    go_ret2
    exact ⟨rfl, Below.refl _ _⟩
  · have h0 : ¬ n < 0 := by omega
    go_enter Tryd.func22, Tryd.ntmps22
    go_wp2
    go_ret2
    exact ⟨rfl, Below.refl _ _⟩

end Go.Proofs.YtogmmilfdolpnalDoor
