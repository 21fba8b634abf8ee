/-
  Plain mathematics of two texts' exclusive or; no program is spoken of here.
-/
import Derived.Test.YtogmmilfdolpnakDoorPlainMac
namespace Go.Proofs.YtogmmilfdolpnakDoor
open Go.RowKit

/-- Two texts' exclusive or: the first n bytes, then the first text's own. -/
def xorUp (a b : List UInt8) (n : Nat) : List UInt8 := (List.range n).map (fun i => a.getD i 0 ^^^ b.getD i 0) ++ a.drop n
theorem xorUp_length (a b : List UInt8) (n : Nat) (h : n ≤ a.length) : (xorUp a b n).length = a.length := by unfold xorUp; simp; omega
theorem xorUp_zero (a b : List UInt8) : xorUp a b 0 = a := rfl
theorem xorUp_at (a b : List UInt8) (n : Nat) : (xorUp a b n).getD n 0 = a.getD n 0 := by
  unfold xorUp
  rw [List.getD_eq_getElem?_getD, List.getElem?_append_right (by simp), List.length_map, List.length_range, Nat.sub_self, List.getElem?_drop, Nat.add_zero, List.getD_eq_getElem?_getD]
theorem xorUp_set (a b : List UInt8) (n : Nat) (h : n < a.length) : (xorUp a b n).set n (a.getD n 0 ^^^ b.getD n 0) = xorUp a b (n + 1) := by
  unfold xorUp
  rw [List.set_append_right _ _ (by simp), List.length_map, List.length_range, Nat.sub_self, List.drop_eq_getElem_cons h, List.set_cons_zero, List.range_succ, List.map_append, List.append_assoc]
  rfl
theorem xorUp_pad (k : List UInt8) (x : UInt8) (h : k.length ≤ 64) : xorUp (k ++ List.replicate (64 - k.length) 0) (List.replicate 64 x) 64 = padUp k x 64 := by
  unfold xorUp padUp
  have e1 : (k ++ List.replicate (64 - k.length) 0).drop 64 = [] := by
    apply List.drop_of_length_le
    simp
    omega
  rw [e1, Nat.sub_self, List.replicate_zero, List.append_nil, List.append_nil]
  apply List.map_congr_left
  intro i hi
  have hi' : i < 64 := by simpa using hi
  have e2 : (List.replicate 64 x).getD i 0 = x := by rw [List.getD_eq_getElem?_getD, List.getElem?_replicate, if_pos hi']; rfl
  have e3 : (k ++ List.replicate (64 - k.length) 0).getD i 0 = k.getD i 0 := by
    rw [List.getD_eq_getElem?_getD, List.getD_eq_getElem?_getD]
    by_cases hk : i < k.length
    · rw [List.getElem?_append_left hk]
    · rw [List.getElem?_append_right (by omega), List.getElem?_replicate, List.getElem?_eq_none (by omega), if_pos (by omega)]
      rfl
  rw [e2, e3]

end Go.Proofs.YtogmmilfdolpnakDoor
