/-
  The given ReadDecimal by its answer; the given ReadAddr.
  The given test of a range, by what it answers.
  The given AddrOk and AddrText; how many addresses a prefix has.
-/
import Derived.Test.YtphmomlgmnllkadJ13
import Derived.Test.YtphmomlgmnllkadRows
import Derived.Test.YtphmomlgmnllkadJ03
namespace Go.Proofs.Ytphmomlgmnllkad
open Go.RowKit

/-- What numbers read so far make. -/
def byteVal (ns : List Nat) : Nat := ns.foldl (fun o n => 256 * o + n) 0
theorem byteVal_snoc (ns : List Nat) (n : Nat) : byteVal (ns ++ [n]) = 256 * byteVal ns + n := by simp [byteVal]
theorem byteVal_next (v n k : Nat) (hv : v < 256 ^ k) (hn : n < 256) : 256 * v + n < 256 ^ (k + 1) := by
  rw [Nat.pow_succ]
  omega
theorem four_of (ns : List Nat) (h : ns.length = 4) : ∃ a b c d, ns = [a, b, c, d] := by
  match ns, h with
  | [a, b, c, d], _ => exact ⟨a, b, c, d, rfl⟩
/-- A part that is no number of one byte: the text is no address. -/
theorem no_addr (l : List UInt8) (ps : List (List UInt8)) (hc : cutAt 46 [] l = ps) (i : Nat) (hi : i < 4) (h : ∀ m, m < 256 → Lib.decDigits m ≠ ps.getD i []) (a : Nat) (ha : a ≤ 4294967295) : l ≠ addrL a := by
  intro e
  rw [e, cut_addr] at hc
  subst hc
  match i, hi with
  | 0, _ => exact h _ (by omega) rfl
  | 1, _ => exact h _ (by omega) rfl
  | 2, _ => exact h _ (by omega) rfl
  | 3, _ => exact h _ (by omega) rfl
theorem no_addr_count (l : List UInt8) (h : (cutAt 46 [] l).length ≠ 4) (a : Nat) : l ≠ addrL a := by
  intro e
  rw [e, cut_addr] at h
  exact h rfl
theorem yes_addr (l : List UInt8) (ns : List Nat) (h4 : ns.length = 4) (hn : ∀ n ∈ ns, n < 256) (hm : ns.map Lib.decDigits = cutAt 46 [] l) : l = addrL (byteVal ns) ∧ byteVal ns ≤ 4294967295 := by
  obtain ⟨a, b, c, d, rfl⟩ := four_of ns h4
  obtain ⟨x, hx, hl, he⟩ := addr_parts l _ _ _ _ hm.symm a b c d (hn a (by simp)) (hn b (by simp)) (hn c (by simp)) (hn d (by simp)) rfl rfl rfl rfl
  have e : byteVal [a, b, c, d] = x := by
    rw [he]
    simp [byteVal]
  rw [e]
  exact ⟨hl, hx⟩
/-- How reading an address ends. -/
def AddrEnd (s : ByteArray) (e : Ending) : Prop :=
  (∃ a, a ≤ 4294967295 ∧ s.data.toList = addrL a ∧ e = .returned (.tuple #[.int .i64 (a : Nat), .bool true])) ∨ ((∀ a, a ≤ 4294967295 → s.data.toList ≠ addrL a) ∧ e = .returned (.tuple #[.int .i64 0, .bool false]))

end Go.Proofs.Ytphmomlgmnllkad
namespace Go.Proofs.Ytphmomlgmnllkad
open Go.RowKit

theorem inRange_yes (x a b : Int) (h0 : a ≤ x) (h1 : x ≤ b) (w : World) :
    Calls Try.prog 38 #[.int .i64 x, .int .i64 a, .int .i64 b] w fun e w' => e = .returned (.bool true) ∧ w' = w := by
  go_enter Try.func38, Try.ntmps38
  go_wp2
  go_ret
  exact ⟨rfl, rfl⟩

theorem inRange_no (x a b : Int) (h : x < a ∨ b < x) (w : World) :
    Calls Try.prog 38 #[.int .i64 x, .int .i64 a, .int .i64 b] w fun e w' => e = .returned (.bool false) ∧ w' = w := by
  by_cases hx : x < a
  · go_enter Try.func38, Try.ntmps38
    go_wp2
    go_ret
    exact ⟨rfl, rfl⟩
  · have h0 : a ≤ x := by omega
    have h1 : decide (x ≤ b) = false := decide_eq_false (by omega)
    clear h hx
    go_enter Try.func38, Try.ntmps38
    go_wp2
    go_ret
    exact ⟨rfl, rfl⟩

end Go.Proofs.Ytphmomlgmnllkad
namespace Go.Proofs.Ytphmomlgmnllkad
open Go.RowKit

theorem specAddrOk_yes (a : Int) (h0 : 0 ≤ a) (h1 : a ≤ 4294967295) (w : World) :
    Calls Try.prog 37 #[.int .i64 a] w fun e w' => e = .returned (.bool true) ∧ w' = w := by
  have H := Lib.hid (inRange_yes a 0 4294967295 h0 h1)
  clear h0 h1
  go_enter Try.func37, Try.ntmps37
  go_wp2_with fail
  refine (H.out _).mono ?_
  rintro e w1 ⟨rfl, rfl⟩
  go_wp2_with fail
  go_ret
  exact ⟨rfl, rfl⟩
theorem specAddrOk_no (a : Int) (h : a < 0 ∨ 4294967295 < a) (w : World) :
    Calls Try.prog 37 #[.int .i64 a] w fun e w' => e = .returned (.bool false) ∧ w' = w := by
  have H := Lib.hid (inRange_no a 0 4294967295 h)
  clear h
  go_enter Try.func37, Try.ntmps37
  go_wp2_with fail
  refine (H.out _).mono ?_
  rintro e w1 ⟨rfl, rfl⟩
  go_wp2_with fail
  go_ret
  exact ⟨rfl, rfl⟩
theorem dec_few (n : Nat) (h : n < 1000) : (⟨(Lib.decDigits n).toArray⟩ : ByteArray).size ≤ 3 := by
  show (Lib.decDigits n).toArray.size ≤ 3
  rw [List.size_toArray]
  exact dec_length 3 n (by omega) (by omega)
theorem addr_texts (a : Nat) : addrP a = (⟨(Lib.decDigits (a / 16777216)).toArray⟩ : ByteArray) ++ ⟨#[46]⟩ ++ ⟨(Lib.decDigits (a / 65536 % 256)).toArray⟩ ++ ⟨#[46]⟩ ++ ⟨(Lib.decDigits (a / 256 % 256)).toArray⟩ ++ ⟨#[46]⟩ ++ ⟨(Lib.decDigits (a % 256)).toArray⟩ := by
  unfold addrP addrL
  rw [joinAt_four]
  apply ByteArray.ext
  apply Array.ext'
  simp

set_option maxRecDepth 100000 in
set_option maxHeartbeats 400000 in
theorem specSize_any (n : Nat) (hn : n ≤ 32) (w : World) :
    Calls Try.prog 39 #[.int .i64 n] w fun e w' => e = .returned (.int .i64 (sizeP n : Nat)) ∧ w' = w := by
  go_enter Try.func39, Try.ntmps39
  go_wp2_with fail
  go_loop [3, 4] (fun o c => ∃ i v : Nat, i ≤ 32 - n ∧ c = .int .i64 (n + i : Nat) ∧ Hid (v = 2 ^ i) ∧ v ≤ 4294967296 ∧ o = .int .i64 v) (fun _ c => 32 - (intOf c).toNat)
  case atStart => exact ⟨0, 1, by omega, rfl, rfl, by omega, rfl⟩
  case round =>
    obtain ⟨i, v, hi, rfl, HV, hv, rfl⟩ := hrel
    by_cases hlt : n + i < 32
    · have hlt' : ((n + i : Nat) : Int) < 32 := by omega
      have hv2 : 2 * v ≤ 4294967296 := by
        have h := HV.out
        have h2 : 2 ^ (i + 1) ≤ 2 ^ 32 := Nat.pow_le_pow_right (n := 2) (by omega) (by omega)
        rw [Nat.pow_succ] at h2
        omega
      go_wp2_with fail
      go_round
      case rel => exact ⟨i + 1, 2 * v, by omega, by go_num, by show _ = _; rw [HV.out, Nat.pow_succ, Nat.mul_comm], hv2, by go_num⟩
      case measure => simp [intOf]; omega
    · have hlt' : ¬ (((n + i : Nat) : Int) < 32) := by omega
      have hiv : v = sizeP n := by
        rw [HV.out]
        unfold sizeP
        congr 1
        omega
      have HI := Lib.hid hiv
      clear hiv
      go_wp2_with fail
      go_ret
      rw [HI.out]
      exact ⟨rfl, rfl⟩

end Go.Proofs.Ytphmomlgmnllkad
