/-
  Who is in the group, by the given one: what it answers.
  Four bytes of a sum, as the program and as the given one lay them.
  Numbers in four bytes, by the program and by the given ones: what they answer.
  Numbers in four bytes, by the given ones: what they answer.
  A number read from four bytes, by the given one: what it answers.
  The given words of digests: turned, read of a text.
-/
import Derived.Test.YtkjjdoadjhjmbatJ11
import Derived.Test.YtkjjdoadjhjmbatJ05
import Derived.Test.YtkjjdoadjhjmbatRows
import Derived.Test.YtkjjdoadjhjmbatJ03
import Derived.Test.YtkjjdoadjhjmbatJ01
import Derived.Test.YtkjjdoadjhjmbatJ07
import Derived.Deep.RegionHeld3
import Derived.BigQuiet
import Derived.Deep.QuietTactic
import Derived.Deep.DeepCutAuto
import Derived.Test.YtkjjdoadjhjmbatJ02
import Derived.Deep.LoopGhost
namespace Go.Proofs.Ytkjjdoadjhjmbat
open Go.RowKit

end Go.Proofs.Ytkjjdoadjhjmbat
namespace Go.Proofs.Ytkjjdoadjhjmbat
open Go.RowKit

/-- The four bytes laid as one row, read as a text. -/
theorem four_read (x : Nat) (hx : x < 4294967296) (w : World) : (convert 74 9 (Value.slice (some ⟨w.heap.size, 0, none⟩) 4 4)).run Try.prog
    (w.alloc (.cells #[.int .u8 ((x : Int) / 16777216), .int .u8 ((x : Int) / 65536 % 256), .int .u8 ((x : Int) / 256 % 256), .int .u8 ((x : Int) % 256)] 5)) =
    .ok (.string ⟨(four x).toArray⟩) (w.alloc (.cells #[.int .u8 ((x : Int) / 16777216), .int .u8 ((x : Int) / 65536 % 256), .int .u8 ((x : Int) / 256 % 256), .int .u8 ((x : Int) % 256)] 5)) := by
  have e1 : (x : Int) / 16777216 = (((UInt8.ofNat (x / 16777216)).toNat : Nat) : Int) := by rw [UInt8.toNat_ofNat']; omega
  have e2 : (x : Int) / 65536 % 256 = (((UInt8.ofNat (x / 65536 % 256)).toNat : Nat) : Int) := by rw [UInt8.toNat_ofNat']; omega
  have e3 : (x : Int) / 256 % 256 = (((UInt8.ofNat (x / 256 % 256)).toNat : Nat) : Int) := by rw [UInt8.toNat_ofNat']; omega
  have e4 : (x : Int) % 256 = (((UInt8.ofNat (x % 256)).toNat : Nat) : Int) := by rw [UInt8.toNat_ofNat']; omega
  have h := World.ownsRow_lit (base := w.heap.size) (e := 5) (size := 1) w #[.int .u8 ((x : Int) / 16777216), .int .u8 ((x : Int) / 65536 % 256), .int .u8 ((x : Int) / 256 % 256), .int .u8 ((x : Int) % 256)] 4 (Nat.le_refl _) (by decide) rfl
  have hown : OwnB (w.alloc (.cells #[.int .u8 ((x : Int) / 16777216), .int .u8 ((x : Int) / 65536 % 256), .int .u8 ((x : Int) / 256 % 256), .int .u8 ((x : Int) % 256)] 5)) w.heap.size 5 (Value.slice (some ⟨w.heap.size, 0, none⟩) 4 4) (four x) := by
    unfold OwnB four
    simp only [Lib.byteCells, List.map_cons, List.map_nil, ← e1, ← e2, ← e3, ← e4]
    exact h
  exact run_string_own _ 74 9 5 Try.underlying74 Try.underlying5 Try.underlying9 _ hown

set_option maxRecDepth 100000 in
set_option maxHeartbeats 400000 in
theorem wordText_any (x : Nat) (hx : x < 4294967296) (w : World) :
    Calls Try.prog 61 #[.int .u32 x] w fun e w' => e = .returned (.string ⟨(four x).toArray⟩) ∧ Below w.heap.size w w' := by
  have hr := four_read x hx w
  go_enter Try.func61, Try.ntmps61
  go_wp2
  go_ret
  exact ⟨rfl, (Below.refl _ _).alloc (Nat.le_refl _) _⟩

end Go.Proofs.Ytkjjdoadjhjmbat
namespace Go.Proofs.Ytkjjdoadjhjmbat
open Go.RowKit

set_option maxHeartbeats 400000 in
theorem implNumberText_yes (n : Nat) (hn : n < 4294967296) (w : World) :
    Calls Try.prog 55 #[.int .i64 n] w fun e w' => e = .returned (.string ⟨(four n).toArray⟩) ∧ Below w.heap.size w w' := by
  have h1 : ¬ ((n : Int) < 0) := by omega
  have h2 : ¬ (4294967295 < (n : Int)) := by omega
  have h3 : (n : Int) % 4294967296 = (n : Int) := by omega
  have H1 := Lib.hid (wordText_any n hn)
  go_enter Try.func55, Try.ntmps55
  go_wp2_with fail
  refine (H1.out _).mono ?_
  rintro e1 w1 ⟨rfl, hb1⟩
  go_wp2
  go_ret
  exact ⟨rfl, hb1⟩

set_option maxHeartbeats 400000 in
theorem implNumberText_no (n : Int) (hn : n < 0 ∨ 4294967295 < n) (w : World) :
    Calls Try.prog 55 #[.int .i64 n] w fun e w' => e = .returned (.string ⟨#[]⟩) ∧ Below w.heap.size w w' := by
  by_cases h1 : n < 0
  · clear hn
    go_enter Try.func55, Try.ntmps55
    go_wp2
    go_ret
    exact ⟨rfl, Below.refl _ _⟩
  · have h2 : 4294967295 < n := by omega
    clear hn
    go_enter Try.func55, Try.ntmps55
    go_wp2
    go_ret
    exact ⟨rfl, Below.refl _ _⟩

end Go.Proofs.Ytkjjdoadjhjmbat
namespace Go.Proofs.Ytkjjdoadjhjmbat
open Go.RowKit

set_option maxRecDepth 100000 in
set_option maxHeartbeats 400000 in
theorem specNumberText_yes (n : Nat) (hn : n < 4294967296) (w : World) :
    Calls Try.prog 36 #[.int .i64 n] w fun e w' => e = .returned (.string ⟨(four n).toArray⟩) ∧ Below w.heap.size w w' := by
  have hr := four_read n hn w
  have h1 : (n : Int) / 16777216 % 256 = (n : Int) / 16777216 := by omega
  have H1 := Lib.hid (inRange_yes (n : Int) 0 4294967295 (by omega) (by omega))
  go_enter Try.func36, Try.ntmps36
  go_wp2_with fail
  refine (H1.out _).mono ?_
  rintro e1 w1 ⟨rfl, rfl⟩
  go_wp2
  go_ret
  exact ⟨rfl, (Below.refl _ _).alloc (Nat.le_refl _) _⟩

set_option maxHeartbeats 400000 in
theorem specNumberText_no (n : Int) (hn : n < 0 ∨ 4294967295 < n) (w : World) :
    Calls Try.prog 36 #[.int .i64 n] w fun e w' => e = .returned (.string ⟨#[]⟩) ∧ Below w.heap.size w w' := by
  have H1 := Lib.hid (inRange_no n 0 4294967295 (by omega))
  clear hn
  go_enter Try.func36, Try.ntmps36
  go_wp2_with fail
  refine (H1.out _).mono ?_
  rintro e1 w1 ⟨rfl, rfl⟩
  go_wp2
  go_ret
  exact ⟨rfl, Below.refl _ _⟩

theorem NumberText_both (n : Int) : ∃ t : ByteArray,
    (∀ w, Calls Try.prog 55 #[.int .i64 n] w fun e w' => e = .returned (.string t) ∧ Below w.heap.size w w') ∧
    (∀ w, Calls Try.prog 36 #[.int .i64 n] w fun e w' => e = .returned (.string t) ∧ Below w.heap.size w w') := by
  by_cases h : 0 ≤ n ∧ n ≤ 4294967295
  · obtain ⟨m, rfl⟩ := Int.eq_ofNat_of_zero_le h.1
    exact ⟨_, fun w => implNumberText_yes m (by omega) w, fun w => specNumberText_yes m (by omega) w⟩
  · exact ⟨_, fun w => implNumberText_no n (by omega) w, fun w => specNumberText_no n (by omega) w⟩

end Go.Proofs.Ytkjjdoadjhjmbat
namespace Go.Proofs.Ytkjjdoadjhjmbat
open Go.RowKit

theorem w64_in (n : Int) (h : -9223372036854775808 ≤ n ∧ n ≤ 9223372036854775807) : wrap64 n = n := by unfold wrap64; omega
theorem word_sum (a b c d : Nat) (ha : a < 256) (hb : b < 256) (hc : c < 256) (hd : d < 256) :
    wrap64 (wrap64 (wrap64 (wrap64 (wrap64 (a : Int) * 16777216) + wrap64 (wrap64 (b : Int) * 65536)) + wrap64 (wrap64 (c : Int) * 256)) + wrap64 (d : Int)) = ((a * 16777216 + b * 65536 + c * 256 + d : Nat) : Int) := by
  rw [w64_in (a : Int) (by omega), w64_in (b : Int) (by omega), w64_in (c : Int) (by omega), w64_in (d : Int) (by omega), w64_in ((a : Int) * 16777216) (by omega), w64_in ((b : Int) * 65536) (by omega), w64_in ((c : Int) * 256) (by omega), w64_in ((a : Int) * 16777216 + (b : Int) * 65536) (by omega), w64_in ((a : Int) * 16777216 + (b : Int) * 65536 + (c : Int) * 256) (by omega), w64_in ((a : Int) * 16777216 + (b : Int) * 65536 + (c : Int) * 256 + (d : Int)) (by omega)]
  omega

end Go.Proofs.Ytkjjdoadjhjmbat
namespace Go.Proofs.Ytkjjdoadjhjmbat
open Go.RowKit

/-- A place behind another one, as a number of its own. -/
theorem place (k j n : Nat) (h : k + j < n) (hn : n ≤ 1099511627776) : ∃ m : Nat, (k : Int) + (j : Int) = (m : Int) ∧ IntKind.i64.wrap (m : Int) = (m : Int) ∧ (m : Int) < (n : Int) ∧ Hid (m = k + j) :=
  ⟨k + j, by omega, by rw [IntKind.wrap_i64]; omega, by omega, rfl⟩

theorem byte_getD (s : ByteArray) (k : Nat) (h : k < s.size) : s.data.toList.getD k 0 = s[k] := by
  rw [List.getD_eq_getElem?_getD, List.getElem?_eq_getElem (by simpa using h)]
  rfl

theorem word_mul (a b c d : Nat) (ha : a < 256) (hb : b < 256) (hc : c < 256) (hd : d < 256) :
    (((a : Int) % 4294967296 * 16777216 + (b : Int) % 4294967296 * 65536 + (c : Int) % 4294967296 * 256) % 4294967296 + (d : Int) % 4294967296) % 4294967296 = ((a * 16777216 + b * 65536 + c * 256 + d : Nat) : Int) := by
  omega

end Go.Proofs.Ytkjjdoadjhjmbat
