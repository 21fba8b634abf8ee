/-
  Masks, locked texts and opened ones: there is one answer that the program's function and the given one return.
-/
import Derived.Test.YtogmmilfdolpnalDoorOpenAll
import Derived.Test.YtogmmilfdolpnalDoorLockSpecs
namespace Go.Proofs.YtogmmilfdolpnalDoor
open Go.RowKit

theorem Mask_both (key : ByteArray) (num n : Int) (hk : key.size ≤ 1048576) :
    ∃ (s : ByteArray) (b : Bool), (∀ X, LaidK X → Calls Tryd.prog 9 #[.string key, .int .i64 num, .int .i64 n] X fun e X' => e = .returned (.tuple #[.string s, .bool b]) ∧ Below X.heap.size X X') ∧
      (∀ X, Calls Tryd.prog 8 #[.string key, .int .i64 num, .int .i64 n] X fun e X' => e = .returned (.tuple #[.string s, .bool b]) ∧ Below X.heap.size X X') := by
  by_cases h : (num < 0 ∨ 1000000000 < num) ∨ (n < 0 ∨ 8000 < n)
  · exact ⟨_, _, fun X _ => implMask_no key num n h X, specMaskF_no key num n h⟩
  · obtain ⟨a, rfl, ha⟩ : ∃ a : Nat, num = a ∧ a ≤ 1000000000 := ⟨num.toNat, by omega, by omega⟩
    obtain ⟨m, rfl, hm⟩ : ∃ m : Nat, n = m ∧ m ≤ 8000 := ⟨n.toNat, by omega, by omega⟩
    exact ⟨_, _, implMask_yes key a m ha hm (by omega), specMaskF_yes key a m ha hm (by omega)⟩
theorem LockText_both (key : ByteArray) (num : Int) (s : ByteArray) (hk : key.size ≤ 1048576) :
    ∃ (t : ByteArray) (b : Bool), (∀ X, LaidK X → Calls Tryd.prog 11 #[.string key, .int .i64 num, .string s] X fun e X' => e = .returned (.tuple #[.string t, .bool b]) ∧ Below X.heap.size X X') ∧
      (∀ X, Calls Tryd.prog 10 #[.string key, .int .i64 num, .string s] X fun e X' => e = .returned (.tuple #[.string t, .bool b]) ∧ Below X.heap.size X X') := by
  by_cases h : (num < 0 ∨ 1000000000 < num) ∨ 8000 < s.size
  · exact ⟨_, _, fun X _ => implLock_no key num s h X, specLock_no key num s h⟩
  · obtain ⟨a, rfl, ha⟩ : ∃ a : Nat, num = a ∧ a ≤ 1000000000 := ⟨num.toNat, by omega, by omega⟩
    exact ⟨_, _, implLock_yes key a s ha (by omega) (by omega), specLock_yes key a s ha (by omega) (by omega)⟩
theorem OpenText_both (key : ByteArray) (num : Int) (t : ByteArray) (hk : key.size ≤ 1048576) (ht : t.size ≤ 1048576) :
    ∃ (s : ByteArray) (b : Bool), (∀ X, LaidK X → Calls Tryd.prog 13 #[.string key, .int .i64 num, .string t] X fun e X' => e = .returned (.tuple #[.string s, .bool b]) ∧ Below X.heap.size X X') ∧
      (∀ X, Calls Tryd.prog 12 #[.string key, .int .i64 num, .string t] X fun e X' => e = .returned (.tuple #[.string s, .bool b]) ∧ Below X.heap.size X X') := by
  by_cases h16 : t.size < 16
  · exact ⟨_, _, fun X _ => implOpen_short key num t h16 X, specOpen_short key num t h16⟩
  · by_cases h : (num < 0 ∨ 1000000000 < num) ∨ 8016 < t.size
    · exact ⟨_, _, fun X _ => implOpen_mask key num t (by omega) (by omega) h X, specOpen_mask key num t (by omega) (by omega) h⟩
    · obtain ⟨a, rfl, ha⟩ : ∃ a : Nat, num = a ∧ a ≤ 1000000000 := ⟨num.toNat, by omega, by omega⟩
      obtain ⟨n, hn⟩ : ∃ n, t.size = n + 16 := ⟨t.size - 16, by omega⟩
      exact ⟨_, _, implOpen_tag key a t _ _ n ha (by omega) hn (by omega) rfl rfl, specOpen_tag key a t _ _ n ha (by omega) hn (by omega) rfl rfl⟩

end Go.Proofs.YtogmmilfdolpnalDoor
