/-
  Whether two sums are the same: the program's, and the given one.
-/
import Derived.Test.YtogmmilfdolpnaaDoorRows
import Derived.Test.YtogmmilfdolpnaaDoorXorByte
import Derived.Deep.RegionHeld3
import Derived.BigQuiet
import Derived.Deep.QuietTactic
import Derived.Deep.LoopGhost
import Derived.Deep.DeepCutAuto
namespace Go.Proofs.YtogmmilfdolpnaaDoor
open Go.RowKit

set_option maxRecDepth 100000 in
set_option maxHeartbeats 1600000 in
theorem implSameMac_any (a b : ByteArray) (hz : a.size ≤ 1000000000) (w : World) :
    Calls Tryd.prog 40 #[.string a, .string b] w fun e w' => e = .returned (.bool (a.toList == b.toList)) ∧ Below w.heap.size w w' := by
  by_cases hab : (a.size : Int) = (b.size : Int)
  · have HE := Lib.hid (diffUp_eq a b (by omega))
    generalize (a.toList == b.toList) = o at HE ⊢
    go_enter Tryd.func40, Tryd.ntmps40
    go_wp2_with fail
    go_loopw [5, 14] (fun d i wr => ∃ n : Nat, n ≤ a.size ∧ i = .int .i64 (n : Int) ∧ d = .int .u8 ((diffUp a.data.toList b.data.toList n).toNat : Nat) ∧ Below w.heap.size w wr) (fun _ i _ => a.size - (intOf i).toNat)
    case atStart =>
      exact ⟨0, by omega, rfl, rfl, Below.refl _ _⟩
    case round =>
      obtain ⟨n, hn, rfl, rfl, hnx⟩ := hrel
      have HN := Lib.hid hnx
      clear hnx
      by_cases hlt : (n : Int) < (a.size : Int)
      · obtain ⟨x, XX⟩ : ∃ x : UInt8, Hid (x = a.data.toList.getD n 0) := ⟨_, rfl⟩
        obtain ⟨y, YY⟩ : ∃ y : UInt8, Hid (y = b.data.toList.getD n 0) := ⟨_, rfl⟩
        obtain ⟨d, DD⟩ : ∃ d : UInt8, Hid (d = diffUp a.data.toList b.data.toList n) := ⟨_, rfl⟩
        have hbn : (n : Int) < (b.size : Int) := by omega
        have hnz : (n : Int) < 1000000000 := by omega
        have hx : (a[n]'(by omega)) = x := by rw [XX.out]; exact text_byte a n (by omega)
        have hy : (b[n]'(by omega)) = y := by rw [YY.out]; exact text_byte b n (by omega)
        have h1 := xor_bytes x y
        have h2 := or_bytes d (x ^^^ y)
        have HD : Hid (d ||| (x ^^^ y) = diffUp a.data.toList b.data.toList (n + 1)) := by rw [DD.out, XX.out, YY.out]; rfl
        obtain ⟨z, ZZ⟩ : ∃ z : UInt8, Hid (z = x ^^^ y) := ⟨_, rfl⟩
        obtain ⟨d2, D2⟩ : ∃ z : UInt8, Hid (z = d ||| (x ^^^ y)) := ⟨_, rfl⟩
        rw [← D2.out] at h2 HD
        rw [← ZZ.out] at h1 h2
        rw [← DD.out]
        go_wp2_with fail
        go_quiet (fail)
        go_wp2_with fail
        go_roundw
        case rel => exact ⟨n + 1, by omega, by go_num, by rw [HD.out], below_drewN HN.out _⟩
        case measure => simp [intOf]; omega
      · have hna : n = a.size := by omega
        subst hna
        have he := HE.out
        go_wp2_with fail
        go_ret
        exact ⟨rfl, HN.out⟩
  · have he : (a.toList == b.toList) = false := by
      rw [Bool.eq_false_iff]
      intro h
      have h2 := congrArg List.length (eq_of_beq h)
      rw [ByteArray.toList_eq, ByteArray.toList_eq] at h2
      simp at h2
      omega
    rw [he]
    go_enter Tryd.func40, Tryd.ntmps40
    go_wp2_with fail
    go_ret
    exact ⟨rfl, Below.refl _ _⟩

end Go.Proofs.YtogmmilfdolpnaaDoor
