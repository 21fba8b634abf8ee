/-
  The program's signatures as values and as bytes: what is right, SigText, ReadSig.
-/
import Derived.Test.YtogmmilfdolpnalDoorCheckSpec
import Derived.Test.YtogmmilfdolpnalDoorSigEq
import Derived.Deep.RegionHeld3
import Derived.BigQuiet
import Derived.Deep.QuietTactic
namespace Go.Proofs.YtogmmilfdolpnalDoor
open Go.RowKit

/-- What a number leaves modulo Order, not below 0. -/
def modO (a : Int) : Nat := (a % 1073741789).toNat
theorem modO_lt (a : Int) : modO a < 1073741789 := by unfold modO; omega
theorem modO_int (a : Int) : (modO a : Int) = a % 1073741789 := by unfold modO; omega
theorem modO_in (n : Nat) (h : n < 1073741789) : modO (n : Int) = n := by unfold modO; omega
theorem modO_nat (n : Nat) : modO (n : Int) = n % 1073741789 := by unfold modO; omega
theorem modO_out (a : Int) (h : a < 0 ∨ 1073741788 < a) : (a == (modO a : Int)) = false := by
  have := modO_lt a
  rw [beq_eq_false_iff_ne]
  omega
theorem tmodO_cases (a : Int) : ∃ r : Int, a.tmod 1073741789 = r ∧ -1073741789 < r ∧ r < 1073741789 ∧ (r < 0 → r + 1073741789 = (modO a : Int)) ∧ (¬ r < 0 → r = (modO a : Int)) := by
  refine ⟨_, rfl, ?_, ?_, ?_, ?_⟩
  · have := Int.lt_tmod_of_pos a (show (0 : Int) < 1073741789 by omega); omega
  · exact Int.tmod_lt_of_pos a (by omega)
  · intro h
    have e := Int.tmod_def a 1073741789
    rw [modO_int]
    have h2 := Int.lt_tmod_of_pos a (show (0 : Int) < 1073741789 by omega)
    generalize a.tdiv 1073741789 = q at e
    omega
  · intro h
    have e := Int.tmod_def a 1073741789
    rw [modO_int]
    have h2 := Int.tmod_lt_of_pos a (show (0 : Int) < 1073741789 by omega)
    generalize a.tdiv 1073741789 = q at e
    omega

theorem byte_sig (s : ByteArray) (k : Nat) (h : k < s.size) : s.data.toList.getD k 0 = s[k] := by
  rw [List.getD_eq_getElem?_getD, List.getElem?_eq_getElem (by simpa using h)]
  rfl
theorem fourBack_head (s : ByteArray) (hs : 3 < s.size) : fourBack (s.extract 0 4).data.toList = fourNum s[0] s[1] s[2] s[3] := by
  have e : ∀ k, k < 4 → (s.extract 0 4).data.toList.getD k 0 = s.data.toList.getD k 0 := by
    intro k hk
    rw [ByteArray.data_extract, Array.toList_extract, List.extract_eq_take_drop]
    show (List.take 4 s.data.toList).getD k 0 = _
    rw [List.getD_eq_getElem?_getD, List.getD_eq_getElem?_getD, List.getElem?_take, if_pos hk]
  unfold fourBack
  rw [e 0 (by omega), e 1 (by omega), e 2 (by omega), e 3 (by omega), byte_sig s 0 (by omega), byte_sig s 1 (by omega), byte_sig s 2 (by omega), byte_sig s 3 (by omega)]

set_option maxRecDepth 100000 in
set_option maxHeartbeats 800000 in
theorem textWord_head (s : ByteArray) (hs : 3 < s.size) (w : World) :
    Calls Tryd.prog 52 #[.string s] w fun e w' => e = .returned (.int .u32 (fourBack (s.extract 0 4).data.toList : Nat)) ∧ Below w.heap.size w w' := by
  rw [fourBack_head s hs]
  have h0 : (0 : Int) < (s.size : Int) := by omega
  have h1 : (1 : Int) < (s.size : Int) := by omega
  have h2 : (2 : Int) < (s.size : Int) := by omega
  have h3 : (3 : Int) < (s.size : Int) := by omega
  have g0 : 0 < s.size := by omega
  have g1 : 1 < s.size := by omega
  have g2 : 2 < s.size := by omega
  go_enter Tryd.func52, Tryd.ntmps52
  go_wp2
  go_quiet (fail)
  go_wp2
  go_ret
  refine ⟨congrArg (fun z => Ending.returned (.int .u32 z)) ?_, below_drewN (Below.refl _ _) _⟩
  unfold fourNum
  exact word_or _ _ _ _ (UInt8.toNat_lt _) (UInt8.toNat_lt _) (UInt8.toNat_lt _) (UInt8.toNat_lt _)

theorem PV.alloc {w : World} {t : TypeId} {a b : Value} {X : World} (h : PV w t a b X) (o : Obj) : PV w t a b (X.alloc o) := h.next ((Below.refl _ _).alloc (Nat.le_refl _) o)
end Go.Proofs.YtogmmilfdolpnalDoor
