/-
  The given sums by what they answer.
  Four bytes of a sum, as the program and as the given one lay them.
  The program's Sealed and Unsealed, and the given ones, by what they answer.
-/
import Derived.Test.YtdhacjpdlmnlmarDoorRows
import Derived.Test.YtdhacjpdlmnlmarDoorJ01
import Derived.Test.YtdhacjpdlmnlmarDoorJ14
import Derived.Test.YtdhacjpdlmnlmarDoorJ02
import Derived.Deep.RegionHeld3
import Derived.BigQuiet
import Derived.Deep.QuietTactic
import Derived.Deep.LoopGhost
import Derived.Deep.DeepCutAuto
namespace Go.Proofs.YtdhacjpdlmnlmarDoor
open Go.RowKit

set_option maxRecDepth 100000 in
set_option maxHeartbeats 400000 in
theorem specSumMore_any (x : Nat) (hx : x < 4294967296) (s : ByteArray) (hs : s.size ≤ 1099511627776) (w : World) :
    Calls Tryd.prog 32 #[.int .u32 x, .string s] w fun e w' => e = .returned (.int .u32 (sumL x s.data.toList : Nat)) ∧ w' = w := by
  go_enter Tryd.func32, Tryd.ntmps32
  go_wp2
  go_loopg [0, 5] s.size (fun g v c wr => ∃ k : Nat, k + g = s.size ∧ c = .int .i64 k ∧ v = .int .u32 (sumL x (s.data.toList.take k) : Nat) ∧ wr = w)
  case atStart => exact ⟨0, by omega, rfl, rfl, rfl⟩
  case round =>
    obtain ⟨k, hkg, rfl, rfl, rfl⟩ := hrel
    have hy := sumL_lt (s.data.toList.take k) x hx
    cases gk with
    | zero =>
      have hkz : ¬ ((k : Int) < (s.size : Int)) := by omega
      have he : s.data.toList.take k = s.data.toList := List.take_of_length_le (by simp; omega)
      rw [he]
      rw [he] at hy
      go_wp2
      go_ret
      exact ⟨rfl, rfl⟩
    | succ g =>
      have hlt : k < s.size := by omega
      have hkz : (k : Int) < (s.size : Int) := by omega
      have e1 : sumL x (s.data.toList.take (k + 1)) = sumB (sumL x (s.data.toList.take k)) s[k] := by rw [take_snoc s k hlt, sumL_snoc]
      have E1 := Lib.hid e1
      clear e1
      generalize sumL x (s.data.toList.take k) = y at hy E1 ⊢
      have hb : s[k].toNat < 4294967296 := by have := s[k].toNat_lt; omega
      have hz : y ^^^ s[k].toNat < 4294967296 := Nat.xor_lt_two_pow (n := 32) hy hb
      have hxor := xor_u32 y s[k].toNat hy hb
      go_wp2
      go_loopg [0, 6] 8 (fun g2 v c wy => ∃ j : Nat, j + g2 = 8 ∧ c = .int .i64 j ∧ v = .int .u32 (halves j (y ^^^ s[k].toNat) : Nat) ∧ wy = wr)
      case atStart => exact ⟨0, rfl, rfl, rfl, rfl⟩
      case round =>
        obtain ⟨j, hj, rfl, rfl, rfl⟩ := hrel
        clear hxor
        cases gk with
        | zero =>
          obtain rfl : j = 8 := by omega
          go_wp2
          go_roundg g
          case measure => omega
          case rel => exact ⟨k + 1, by omega, by go_num, by rw [E1.out]; rfl, rfl⟩
        | succ g2 =>
          have hj8 : (j : Int) < 8 := by omega
          have hq := halves_lt j _ hz
          have e2 := halves_snoc j (y ^^^ s[k].toNat)
          have E2 := Lib.hid e2
          clear e2
          generalize halves j (y ^^^ s[k].toNat) = q at hq E2 ⊢
          have hq2 : (q : Int).tmod 2 = ((q % 2 : Nat) : Int) := by rw [Int.tmod_eq_emod_of_nonneg (by omega)]; omega
          have hq3 : (q : Int) / 2 = ((q / 2 : Nat) : Int) := by omega
          by_cases ho : q % 2 = 1
          · have hr : (q : Int).tmod 2 = 1 := by rw [hq2, ho]; rfl
            have hx2 : bits .xor .u32 ((q : Int) / 2) 3558460437 = ((half q : Nat) : Int) := by
              rw [hq3]
              have := xor_u32 (q / 2) 3558460437 (by omega) (by omega)
              unfold half
              rw [if_pos ho, ← this]
              rfl
            clear hq2 hq3
            go_wp2
            go_roundg g2
            case measure => omega
            case rel => exact ⟨j + 1, by omega, by go_num, by rw [E2.out], rfl⟩
          · have hr : ¬ (q : Int).tmod 2 = 1 := by rw [hq2]; omega
            have e3 : half q = q / 2 := by unfold half; rw [if_neg ho]
            have E3 := Lib.hid e3
            clear hq2 hq3 e3
            go_wp2
            go_roundg g2
            case measure => omega
            case rel => exact ⟨j + 1, by omega, by go_num, by rw [E2.out, E3.out]; go_num, rfl⟩

set_option maxHeartbeats 400000 in
theorem specSumOf_any (s : ByteArray) (hs : s.size ≤ 1099511627776) (w : World) :
    Calls Tryd.prog 21 #[.string s] w fun e w' => e = .returned (.int .u32 (sumL 4294967295 s.data.toList : Nat)) ∧ w' = w := by
  have H1 := Lib.hid (specSumMore_any 4294967295 (by omega) s hs w)
  go_enter Tryd.func21, Tryd.ntmps21
  go_wp2_with fail
  refine (H1.out).mono ?_
  rintro e w1 ⟨rfl, rfl⟩
  go_wp2
  go_ret
  exact ⟨rfl, rfl⟩

end Go.Proofs.YtdhacjpdlmnlmarDoor
namespace Go.Proofs.YtdhacjpdlmnlmarDoor
open Go.RowKit

/-- The four bytes laid as one row, read as a text. -/
theorem four_read (x : Nat) (hx : x < 4294967296) (w : World) : (convert 53 9 (Value.slice (some ⟨w.heap.size, 0, none⟩) 4 4)).run Tryd.prog
    (w.alloc (.cells #[.int .u8 ((x : Int) / 16777216), .int .u8 ((x : Int) / 65536 % 256), .int .u8 ((x : Int) / 256 % 256), .int .u8 ((x : Int) % 256)] 5)) =
    .ok (.string ⟨(four x).toArray⟩) (w.alloc (.cells #[.int .u8 ((x : Int) / 16777216), .int .u8 ((x : Int) / 65536 % 256), .int .u8 ((x : Int) / 256 % 256), .int .u8 ((x : Int) % 256)] 5)) := by
  have e1 : (x : Int) / 16777216 = (((UInt8.ofNat (x / 16777216)).toNat : Nat) : Int) := by rw [UInt8.toNat_ofNat']; omega
  have e2 : (x : Int) / 65536 % 256 = (((UInt8.ofNat (x / 65536 % 256)).toNat : Nat) : Int) := by rw [UInt8.toNat_ofNat']; omega
  have e3 : (x : Int) / 256 % 256 = (((UInt8.ofNat (x / 256 % 256)).toNat : Nat) : Int) := by rw [UInt8.toNat_ofNat']; omega
  have e4 : (x : Int) % 256 = (((UInt8.ofNat (x % 256)).toNat : Nat) : Int) := by rw [UInt8.toNat_ofNat']; omega
  have h := World.ownsRow_lit (base := w.heap.size) (e := 5) (size := 1) w #[.int .u8 ((x : Int) / 16777216), .int .u8 ((x : Int) / 65536 % 256), .int .u8 ((x : Int) / 256 % 256), .int .u8 ((x : Int) % 256)] 4 (Nat.le_refl _) (by decide) rfl
  have hown : OwnB (w.alloc (.cells #[.int .u8 ((x : Int) / 16777216), .int .u8 ((x : Int) / 65536 % 256), .int .u8 ((x : Int) / 256 % 256), .int .u8 ((x : Int) % 256)] 5)) w.heap.size 5 (Value.slice (some ⟨w.heap.size, 0, none⟩) 4 4) (four x) := by
    unfold OwnB four
    simp only [Lib.byteCells, List.map_cons, List.map_nil, ← e1, ← e2, ← e3, ← e4]
    exact h
  exact run_string_own _ 53 9 5 Tryd.underlying53 Tryd.underlying5 Tryd.underlying9 _ hown

set_option maxRecDepth 100000 in
set_option maxHeartbeats 400000 in
theorem wordText_any (x : Nat) (hx : x < 4294967296) (w : World) :
    Calls Tryd.prog 34 #[.int .u32 x] w fun e w' => e = .returned (.string ⟨(four x).toArray⟩) ∧ Below w.heap.size w w' := by
  have hr := four_read x hx w
  go_enter Tryd.func34, Tryd.ntmps34
  go_wp2
  go_ret
  exact ⟨rfl, (Below.refl _ _).alloc (Nat.le_refl _) _⟩

set_option maxRecDepth 100000 in
set_option maxHeartbeats 400000 in
theorem specFour_any (x : Nat) (hx : x < 4294967296) (w : World) :
    Calls Tryd.prog 20 #[.int .u32 x] w fun e w' => e = .returned (.string ⟨(four x).toArray⟩) ∧ Below w.heap.size w w' := by
  have hr := four_read x hx w
  go_enter Tryd.func20, Tryd.ntmps20
  go_wp2
  go_ret
  exact ⟨rfl, (Below.refl _ _).alloc (Nat.le_refl _) _⟩

end Go.Proofs.YtdhacjpdlmnlmarDoor
namespace Go.Proofs.YtdhacjpdlmnlmarDoor
open Go.RowKit

/-- A text and its sum, in bytes. -/
def sealedOf (l : List UInt8) : List UInt8 := l ++ four (sumL 4294967295 l)
theorem sealedOf_lt (l : List UInt8) : sumL 4294967295 l < 4294967296 := sumL_lt l _ (by omega)

theorem join_text (s : ByteArray) (l : List UInt8) : s ++ (⟨l.toArray⟩ : ByteArray) = ⟨(s.data.toList ++ l).toArray⟩ := by
  apply ByteArray.ext
  simp

theorem implSealed_no (s : ByteArray) (hs : 20000 < s.size) (w : World) :
    Calls Tryd.prog 27 #[.string s] w fun e w' => e = .returned (.tuple #[.string ⟨#[]⟩, .bool false]) ∧ Below w.heap.size w w' := by
  have h1 : 20000 < (s.size : Int) := by omega
  go_enter Tryd.func27, Tryd.ntmps27
  go_wp2
  go_ret2
  exact ⟨rfl, Below.refl _ _⟩

set_option maxRecDepth 100000 in
set_option maxHeartbeats 400000 in
theorem implSealed_yes (s : ByteArray) (hs : s.size ≤ 20000) (w : World) (ht : Laid w) :
    Calls Tryd.prog 27 #[.string s] w fun e w' => e = .returned (.tuple #[.string ⟨(sealedOf s.data.toList).toArray⟩, .bool true]) ∧ Below w.heap.size w w' := by
  have h1 : ¬ 20000 < (s.size : Int) := by omega
  have h2 : ¬ 9223372036854775807 < s.size + (four (sumL 4294967295 s.data.toList)).length := by rw [four_length]; omega
  have H1 := Lib.hid (implSumOf_any s (by omega) w ht)
  have H2 := Lib.hid (wordText_any (sumL 4294967295 s.data.toList) (sealedOf_lt _))
  clear ht
  go_enter Tryd.func27, Tryd.ntmps27
  go_wp2_with fail
  refine (H1.out).mono ?_
  rintro e w1 ⟨rfl, rfl⟩
  go_wp2_with fail
  refine (H2.out _).mono ?_
  rintro e w2 ⟨rfl, hb⟩
  go_wp2
  go_ret2
  exact ⟨by rw [join_text]; rfl, hb⟩

theorem specSealed_no (s : ByteArray) (hs : 20000 < s.size) (w : World) :
    Calls Tryd.prog 26 #[.string s] w fun e w' => e = .returned (.tuple #[.string ⟨#[]⟩, .bool false]) ∧ Below w.heap.size w w' := by
  have h1 : 20000 < (s.size : Int) := by omega
  go_enter Tryd.func26, Tryd.ntmps26
  go_wp2
  go_ret2
  exact ⟨rfl, Below.refl _ _⟩

set_option maxRecDepth 100000 in
set_option maxHeartbeats 400000 in
theorem specSealed_yes (s : ByteArray) (hs : s.size ≤ 20000) (w : World) :
    Calls Tryd.prog 26 #[.string s] w fun e w' => e = .returned (.tuple #[.string ⟨(sealedOf s.data.toList).toArray⟩, .bool true]) ∧ Below w.heap.size w w' := by
  have h1 : ¬ 20000 < (s.size : Int) := by omega
  have h2 : ¬ 9223372036854775807 < s.size + (four (sumL 4294967295 s.data.toList)).length := by rw [four_length]; omega
  have H1 := Lib.hid (specSumOf_any s (by omega) w)
  have H2 := Lib.hid (specFour_any (sumL 4294967295 s.data.toList) (sealedOf_lt _))
  go_enter Tryd.func26, Tryd.ntmps26
  go_wp2_with fail
  refine (H1.out).mono ?_
  rintro e w1 ⟨rfl, rfl⟩
  go_wp2_with fail
  refine (H2.out _).mono ?_
  rintro e w2 ⟨rfl, hb⟩
  go_wp2
  go_ret2
  exact ⟨by rw [join_text]; rfl, hb⟩

theorem Sealed_both (s : ByteArray) : ∃ (t : ByteArray) (b : Bool),
    (∀ w, Laid w → Calls Tryd.prog 27 #[.string s] w fun e w' => e = .returned (.tuple #[.string t, .bool b]) ∧ Below w.heap.size w w') ∧
    (∀ w, Calls Tryd.prog 26 #[.string s] w fun e w' => e = .returned (.tuple #[.string t, .bool b]) ∧ Below w.heap.size w w') := by
  by_cases hs : s.size ≤ 20000
  · exact ⟨_, _, fun w ht => implSealed_yes s hs w ht, fun w => specSealed_yes s hs w⟩
  · exact ⟨_, _, fun w _ => implSealed_no s (by omega) w, fun w => specSealed_no s (by omega) w⟩

end Go.Proofs.YtdhacjpdlmnlmarDoor
