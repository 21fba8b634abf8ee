/-
  What the program's three functions of locked texts give: the contracts by name; what opens a locked text.
-/
import Derived.Test.YtogmmilfdolpnabDoorRoundImpl
import Derived.Test.YtogmmilfdolpnabDoorLockSpecs
namespace Go.Proofs.YtogmmilfdolpnabDoor
open Go.RowKit

/-- The program's Mask, LockText and OpenText answer what the plain functions say. -/
structure LockFns : Prop where
  mask_yes : ∀ (key : ByteArray) (num n : Nat), num ≤ 1000000000 → n ≤ 8000 → key.size ≤ 300000000 → ∀ X, LaidK X →
    Calls Tryd.prog 13 #[.string key, .int .i64 num, .int .i64 n] X fun e X' => e = .returned (.tuple #[.string (maskB key num n), .bool true]) ∧ Below X.heap.size X X'
  lock_yes : ∀ (key : ByteArray) (num : Nat) (s : ByteArray), num ≤ 1000000000 → key.size ≤ 300000000 → s.size ≤ 8000 → ∀ X, LaidK X →
    Calls Tryd.prog 8 #[.string key, .int .i64 num, .string s] X fun e X' => e = .returned (.tuple #[.string (lockP key num s), .bool true]) ∧ Below X.heap.size X X'
  lock_no : ∀ (key : ByteArray) (num : Int) (s : ByteArray), (num < 0 ∨ 1000000000 < num) ∨ 8000 < s.size → s.size ≤ 300000000 → ∀ X, LaidK X →
    Calls Tryd.prog 8 #[.string key, .int .i64 num, .string s] X fun e X' => e = .returned (.tuple #[.string ⟨#[]⟩, .bool false]) ∧ Below X.heap.size X X'
  open_short : ∀ (key : ByteArray) (num : Int) (text : ByteArray), text.size < 16 → ∀ X, LaidK X →
    Calls Tryd.prog 9 #[.string key, .int .i64 num, .string text] X fun e X' => e = .returned (.tuple #[.string ⟨#[]⟩, .bool false]) ∧ Below X.heap.size X X'
  open_tag : ∀ (key : ByteArray) (num : Nat) (text x rest : ByteArray) (n : Nat), num ≤ 1000000000 → key.size ≤ 300000000 → text.size = n + 16 → n ≤ 8000 → text.extract 0 n = x → text.extract n text.size = rest → ∀ X, LaidK X →
    Calls Tryd.prog 9 #[.string key, .int .i64 num, .string text] X fun e X' => e = .returned (.tuple #[.string (if ((tagP key num x).toList == rest.toList) = true then openP key num x else ⟨#[]⟩), .bool ((tagP key num x).toList == rest.toList)]) ∧ Below X.heap.size X X'

theorem front_two (a b : ByteArray) : (a ++ b).extract 0 a.size = a := by
  apply ByteArray.ext
  apply Array.ext'
  simp
  exact List.take_of_length_le (by simp)
theorem back_two (a b : ByteArray) : (a ++ b).extract a.size (a ++ b).size = b := by
  apply ByteArray.ext
  apply Array.ext'
  rw [ByteArray.data_extract, Array.toList_extract, List.extract_eq_take_drop, ByteArray.size_append]
  simp
  exact List.take_of_length_le (by simp)
theorem two_parts (t : ByteArray) (n : Nat) : t.extract 0 n ++ t.extract n t.size = t := by
  apply ByteArray.ext
  apply Array.ext'
  simp
theorem toList_inj (a b : ByteArray) (h : (a.toList == b.toList) = true) : a = b := by
  have h2 := eq_of_beq h
  rw [ByteArray.toList_eq, ByteArray.toList_eq] at h2
  apply ByteArray.ext
  exact Array.toList_inj.1 h2
/-- What is locked is opened. -/
theorem open_lock (F : LockFns) (key : ByteArray) (num : Nat) (s : ByteArray) (hnum : num ≤ 1000000000) (hk : key.size ≤ 300000000) (hs : s.size ≤ 8000) (X : World) (hX : LaidK X) :
    Calls Tryd.prog 9 #[.string key, .int .i64 num, .string (lockP key num s)] X fun e X' => e = .returned (.tuple #[.string s, .bool true]) ∧ Below X.heap.size X X' := by
  have hx : (lockP key num s).extract 0 s.size = lockX key num s := by
    rw [← lockX_size key num s]
    exact front_two _ _
  have hr : (lockP key num s).extract s.size (lockP key num s).size = tagP key num (lockX key num s) := by
    have h := back_two (lockX key num s) (tagP key num (lockX key num s))
    rw [lockX_size] at h
    exact h
  have h := F.open_tag key num (lockP key num s) (lockX key num s) (tagP key num (lockX key num s)) s.size hnum hk (lockP_size key num s) hs hx hr X hX
  have e : ((tagP key num (lockX key num s)).toList == (tagP key num (lockX key num s)).toList) = true := by simp
  rw [e, if_pos rfl, openP_lock] at h
  exact h
/-- What is opened was locked so; both tell the same. -/
theorem open_both (F : LockFns) (key : ByteArray) (num : Nat) (u : ByteArray) (hnum : num ≤ 1000000000) (hk : key.size ≤ 300000000) (hu : u.size ≤ 8016) :
    ∃ (y : ByteArray) (b : Bool), y.size ≤ 8000 ∧ (b = true → lockP key num y = u) ∧
      (∀ X, LaidK X → Calls Tryd.prog 9 #[.string key, .int .i64 num, .string u] X fun e X' => e = .returned (.tuple #[.string y, .bool b]) ∧ Below X.heap.size X X') ∧
      (∀ X, Calls Tryd.prog 12 #[.string key, .int .i64 num, .string u] X fun e X' => e = .returned (.tuple #[.string y, .bool b]) ∧ Below X.heap.size X X') := by
  by_cases h16 : u.size < 16
  · exact ⟨⟨#[]⟩, false, by decide, (fun h => absurd h (by decide)), F.open_short key num u h16, specOpen_short key num u h16⟩
  · obtain ⟨n, hn⟩ : ∃ n, u.size = n + 16 := ⟨u.size - 16, by omega⟩
    refine ⟨_, _, ?_, ?_, F.open_tag key num u _ _ n hnum hk hn (by omega) rfl rfl, specOpen_tag key num u _ _ n hnum hk hn (by omega) rfl rfl⟩
    · split
      · unfold openP
        rw [xorP_size, ByteArray.size_extract]
        omega
      · decide
    · intro hb
      rw [if_pos hb]
      unfold lockP
      rw [lockX_open, toList_inj _ _ hb]
      exact two_parts u n

end Go.Proofs.YtogmmilfdolpnabDoor
