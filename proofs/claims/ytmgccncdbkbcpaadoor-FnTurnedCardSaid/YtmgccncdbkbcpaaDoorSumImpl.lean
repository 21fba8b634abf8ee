/-
  The program's sums by what they answer, where the table of half bytes holds what the program's text lays.
-/
import Derived.Test.YtmgccncdbkbcpaaDoorRows
import Derived.Test.YtmgccncdbkbcpaaDoorKit
import Derived.Test.YtmgccncdbkbcpaaDoorPlainSumHalf
import Derived.Test.YtmgccncdbkbcpaaDoorPlainHex
import Derived.Lib.LaidTab
import Derived.Lib.SmallJoins
import Derived.Deep.RegionHeld3
import Derived.BigQuiet
import Derived.Deep.QuietTactic
import Derived.Deep.LoopGhost
import Derived.Deep.DeepCutAuto
namespace Go.Proofs.YtmgccncdbkbcpaaDoor
open Go.RowKit

/-- The table of half bytes is laid. -/
def Laid (w : World) : Prop := Lib.TabIs Tryd.prog w "loop.example/g00193/impl.halfSums" .u32 halfTab
theorem gHalf : Tryd.prog.globalNamed "loop.example/g00193/impl.halfSums" = some 0 := by kernel_rfl
theorem Laid.stays {w w' : World} {B : Nat} (h : Laid w) (hb : Below B w w') (hB : w.heap.size ≤ B) : Laid w' := Joins.tab_stays gHalf h hb hB
theorem Laid.cell {w : World} (h : Laid w) (k : Nat) (hk : k < 16) : w.cell? ⟨0, k, none⟩ = some (.int .u32 ((halves 4 k : Nat) : Int)) := by
  have h1 := Lib.TabIs.cell h gHalf k hk
  rw [h1, List.getD_eq_getElem?_getD, halfTab_at k hk]
  rfl

set_option maxRecDepth 100000 in
set_option maxHeartbeats 400000 in
theorem afterHalf_any (x : Nat) (hx : x < 4294967296) (w : World) (ht : Laid w) :
    Calls Tryd.prog 38 #[.int .u32 x] w fun e w' => e = .returned (.int .u32 (halves 4 x : Nat)) ∧ w' = w := by
  obtain ⟨k, hk, hand, T, hcell, hxor⟩ : ∃ k : Nat, (k : Int) < 16 ∧ bits .and .u32 (x : Int) 15 = (k : Int) ∧ ∃ T : Nat, w.cell? ⟨0, k, none⟩ = some (.int .u32 (T : Int)) ∧ bits .xor .u32 ((x : Int) / 16) (T : Int) = ((halves 4 x : Nat) : Int) := by
    refine ⟨x % 16, by omega, and_u32 x hx, halves 4 (x % 16), ht.cell _ (Nat.mod_lt _ (by omega)), ?_⟩
    have e : (x : Int) / 16 = ((x / 16 : Nat) : Int) := by omega
    rw [e, xor_u32 _ _ (by omega) (halves_lt 4 _ (by omega)), ← halves_four]
  clear ht
  go_enter Tryd.func38, Tryd.ntmps38
  go_wp2
  go_ret
  exact ⟨rfl, rfl⟩

set_option maxRecDepth 100000 in
set_option maxHeartbeats 400000 in
theorem withByte_any (x : Nat) (b : UInt8) (hx : x < 4294967296) (w : World) (ht : Laid w) :
    Calls Tryd.prog 34 #[.int .u32 x, .int .u8 b.toNat] w fun e w' => e = .returned (.int .u32 (sumB x b : Nat)) ∧ w' = w := by
  have hb : b.toNat < 4294967296 := by have := b.toNat_lt; omega
  have hy : x ^^^ b.toNat < 4294967296 := Nat.xor_lt_two_pow (n := 32) hx hb
  have hxor : bits .xor .u32 (x : Int) ((b.toNat : Int) % 4294967296) = ((x ^^^ b.toNat : Nat) : Int) := by
    rw [← xor_u32 x b.toNat hx hb]
    congr 1
    omega
  have HT := Lib.hid ht
  have H1 := Lib.hid (afterHalf_any (x ^^^ b.toNat) hy)
  have H2 := Lib.hid (afterHalf_any (halves 4 (x ^^^ b.toNat)) (halves_lt 4 _ hy))
  clear ht hb
  go_enter Tryd.func34, Tryd.ntmps34
  go_wp2_with fail
  refine (H1.out _ HT.out).mono ?_
  rintro e w1 ⟨rfl, rfl⟩
  go_wp2_with fail
  refine (H2.out _ HT.out).mono ?_
  rintro e w2 ⟨rfl, rfl⟩
  go_wp2_with fail
  go_ret
  exact ⟨rfl, rfl⟩

set_option maxRecDepth 100000 in
set_option maxHeartbeats 400000 in
theorem implSumMore_any (x : Nat) (hx : x < 4294967296) (s : ByteArray) (hs : s.size ≤ 1099511627776) (w : World) (ht : Laid w) :
    Calls Tryd.prog 20 #[.int .u32 x, .string s] w fun e w' => e = .returned (.int .u32 (sumL x s.data.toList : Nat)) ∧ w' = w := by
  have HT := Lib.hid ht
  clear ht
  go_enter Tryd.func20, Tryd.ntmps20
  go_wp2
  go_loopg [5, 10] s.size (fun g v c wr => ∃ k : Nat, k + g = s.size ∧ c = .int .i64 k ∧ v = .int .u32 (sumL x (s.data.toList.take k) : Nat) ∧ wr = w)
  case atStart => exact ⟨0, by omega, rfl, rfl, rfl⟩
  case round =>
    obtain ⟨k, hkg, rfl, rfl, rfl⟩ := hrel
    have hy := sumL_lt (s.data.toList.take k) x hx
    cases gk with
    | zero =>
      have hkz : ¬ ((k : Int) < (s.size : Int)) := by omega
      have he : s.data.toList.take k = s.data.toList := List.take_of_length_le (by simp; omega)
      rw [he]
      rw [he] at hy
      go_wp2
      go_ret
      exact ⟨rfl, rfl⟩
    | succ g =>
      have hlt : k < s.size := by omega
      have e1 : sumL x (s.data.toList.take (k + 1)) = sumB (sumL x (s.data.toList.take k)) s[k] := by rw [take_snoc s k hlt, sumL_snoc]
      have E1 := Lib.hid e1
      clear e1
      generalize sumL x (s.data.toList.take k) = y at hy E1 ⊢
      have H1 := Lib.hid (withByte_any y s[k] hy)
      go_wp2_with fail
      refine (H1.out _ HT.out).mono ?_
      rintro e w1 ⟨rfl, rfl⟩
      go_wp2
      go_roundg g
      case measure => omega
      case rel => exact ⟨k + 1, by omega, by go_num, by rw [E1.out], rfl⟩

set_option maxHeartbeats 400000 in
theorem implSumOf_any (s : ByteArray) (hs : s.size ≤ 1099511627776) (w : World) (ht : Laid w) :
    Calls Tryd.prog 21 #[.string s] w fun e w' => e = .returned (.int .u32 (sumL 4294967295 s.data.toList : Nat)) ∧ w' = w := by
  have H1 := Lib.hid (implSumMore_any 4294967295 (by omega) s hs w ht)
  clear ht
  go_enter Tryd.func21, Tryd.ntmps21
  go_wp2_with fail
  refine (H1.out).mono ?_
  rintro e w1 ⟨rfl, rfl⟩
  go_wp2
  go_ret
  exact ⟨rfl, rfl⟩

end Go.Proofs.YtmgccncdbkbcpaaDoor
