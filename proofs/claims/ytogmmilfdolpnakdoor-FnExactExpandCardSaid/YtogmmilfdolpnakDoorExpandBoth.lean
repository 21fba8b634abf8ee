/-
  Expansions: the program's and the given ones are the same.
-/
import Derived.Test.YtogmmilfdolpnakDoorExpandImpl
import Derived.Test.YtogmmilfdolpnakDoorExpandSpec
namespace Go.Proofs.YtogmmilfdolpnakDoor
open Go.RowKit

theorem Expand_both (key info : ByteArray) (n : Int) (hk : key.size ≤ 300000000) (hi : info.size ≤ 300000000) :
    ∃ (d : ByteArray) (b : Bool), (∀ X, LaidK X → Calls Tryd.prog 17 #[.string key, .string info, .int .i64 n] X fun e X' => e = .returned (.tuple #[.string d, .bool b]) ∧ Below X.heap.size X X') ∧
      (∀ X, Calls Tryd.prog 16 #[.string key, .string info, .int .i64 n] X fun e X' => e = .returned (.tuple #[.string d, .bool b]) ∧ Below X.heap.size X X') := by
  by_cases h : 0 ≤ n ∧ n ≤ 8160
  · obtain ⟨m, rfl⟩ : ∃ m : Nat, n = (m : Int) := ⟨n.toNat, by omega⟩
    exact ⟨_, _, implExpand_yes key info m (by omega) hk hi, specExpand_yes key info m (by omega) hk hi⟩
  · have h2 : n < 0 ∨ 8160 < n := by omega
    exact ⟨_, _, fun X _ => implExpand_no key info n h2 X, specExpand_no key info n h2⟩

end Go.Proofs.YtogmmilfdolpnakDoor
