/-
  A right channel; the given functions that look at parts of one.
-/
import Derived.Test.YthljmjbmmgligarJ14
import Derived.Test.YthljmjbmmgligarJ10
import Derived.Deep.LoopGhost
namespace Go.Proofs.Ythljmjbmmgligar
open Go.RowKit

def TextsOk (xs : List ByteArray) : Prop := ∀ x ∈ xs, x.size ≤ 120
def SentAt (next : Int) (ss : List PendingD) (i : Nat) (x : PendingD) : Prop := (1 ≤ x.1 ∧ x.1 ≤ next) ∧ (0 < i → ∀ y, ss[i - 1]? = some y → y.1 < x.1) ∧ (0 ≤ x.2.2.1 ∧ x.2.2.1 ≤ 1000000000) ∧ (1 ≤ x.2.2.2 ∧ x.2.2.2 ≤ 8) ∧ x.2.1.size ≤ 120
def SentOk (next : Int) (ss : List PendingD) : Prop := ss.length ≤ 4 ∧ ∀ i x, ss[i]? = some x → SentAt next ss i x
def EarlyAt (got : Int) (es : List EarlyD) (i : Nat) (x : EarlyD) : Prop := (got + 2 ≤ x.1 ∧ x.1 ≤ got + 4) ∧ (0 < i → ∀ y, es[i - 1]? = some y → y.1 < x.1) ∧ x.2.size ≤ 120
def EarlyOk (got : Int) (es : List EarlyD) : Prop := ∀ i x, es[i]? = some x → EarlyAt got es i x
def OwedOk (got : Int) (os : List Int) : Prop := ∀ x ∈ os, 1 ≤ x ∧ x ≤ got + 4
/-- A right channel. -/
structure ChanP (me peer next got : Int) (qs : List ByteArray) (ss : List PendingD) (es : List EarlyD) (os : List Int) (xs : List ByteArray) : Prop where
  meR : 1 ≤ me ∧ me ≤ 99
  peerR : 1 ≤ peer ∧ peer ≤ 99
  nextR : 0 ≤ next ∧ next ≤ 1000
  few : qs.length ≤ 30
  queue : TextsOk qs
  sent : SentOk next ss
  gotR : 0 ≤ got ∧ got ≤ 1000
  many : (xs.length : Int) = got
  out : TextsOk xs
  owes : os.length ≤ 4
  early : EarlyOk got es
  owed : OwedOk got os

set_option maxRecDepth 100000 in
set_option maxHeartbeats 800000 in
theorem specTexts_any (xs : List ByteArray) (v : Value) (b : Bool) (hb : b = true ↔ TextsOk xs) (hl : xs.length ≤ 100000000) (w : World) (h : layStringS.rd w [v] xs) :
    Calls Try.prog 48 #[v] w fun e w' => e = .returned (.bool b) ∧ w' = w := by
  obtain ⟨ao, cp, rfl⟩ := rows_form h
  have HR := Lib.hid h
  have HB := Lib.hid hb
  clear h hb
  go_enter Try.func48, Try.ntmps48
  go_wp2_with fail
  go_loop [3] (fun c => ∃ j : Nat, j ≤ xs.length ∧ c = .int .i64 j ∧ Hid (∀ i, (hi : i < xs.length) → i < j → xs[i].size ≤ 120)) (fun c => xs.length - (intOf c).toNat)
  case atStart => exact ⟨0, Nat.zero_le _, rfl, fun i _ h => absurd h (by omega)⟩
  case round =>
    obtain ⟨j, hj, rfl, HA⟩ := hrel
    by_cases hlt : j < xs.length
    · have hlt' : (j : Int) < (xs.length : Int) := by omega
      have HX : Hid (¬ (xs[j].size ≤ 120) → b = false) := fun h => by
        cases b with
        | false => rfl
        | true => exact absurd (HB.out.1 rfl _ (List.getElem_mem hlt)) h
      have HNX : Hid (xs[j].size ≤ 120 → ∀ i, (hi : i < xs.length) → i < j + 1 → xs[i].size ≤ 120) := fun hx i hi h => by
        rcases Nat.lt_or_ge i j with h2 | h2
        · exact HA.out i hi h2
        · have : i = j := by omega
          subst this
          exact hx
      obtain ⟨g, off, cs, rfl, hg, hr, hc⟩ := rows_elem HR.out j _ (List.getElem?_eq_getElem hlt)
      generalize xs[j] = x at hr HX HNX
      rw [layString_rd] at hr
      subst hr
      have c0 : w.cell? ⟨g, off + j, none⟩ = some (.string x) := (by have h9 := hc 0 _ rfl; rw [str_k] at h9; exact h9)
      clear hc
      by_cases hx : x.size ≤ 120
      · have HJ := Lib.hid (HNX.out hx)
        have k1 : ¬ ((120 : Int) < (x.size : Int)) := by omega
        go_wp2_with fail
        go_round
        case rel => exact ⟨j + 1, by omega, by go_num, HJ⟩
        case measure => simp [intOf]; omega
      · obtain rfl := HX.out hx
        have k1 : (120 : Int) < (x.size : Int) := by omega
        go_wp2_with fail
        go_ret
        exact ⟨rfl, rfl⟩
    · have hlt' : ¬ ((j : Int) < (xs.length : Int)) := by omega
      obtain rfl : b = true := HB.out.2 (fun x hx => by
        obtain ⟨i, hi, rfl⟩ := List.getElem_of_mem hx
        exact HA.out i hi (by omega))
      go_wp2_with fail
      go_ret
      exact ⟨rfl, rfl⟩

set_option maxRecDepth 100000 in
set_option maxHeartbeats 800000 in
theorem specChanIn_any (xs : List Int) (x : Int) (v : Value) (b : Bool) (hb : b = true ↔ x ∈ xs) (hl : xs.length ≤ 100000000) (w : World) (h : layIntS.rd w [v] xs) :
    Calls Try.prog 67 #[v, .int .i64 x] w fun e w' => e = .returned (.bool b) ∧ w' = w := by
  obtain ⟨ao, cp, rfl⟩ := rows_form h
  have HR := Lib.hid h
  have HB := Lib.hid hb
  clear h hb
  go_enter Try.func67, Try.ntmps67
  go_wp2_with fail
  go_loop [5] (fun c => ∃ j : Nat, j ≤ xs.length ∧ c = .int .i64 j ∧ Hid (∀ i, (hi : i < xs.length) → i < j → xs[i] ≠ x)) (fun c => xs.length - (intOf c).toNat)
  case atStart => exact ⟨0, Nat.zero_le _, rfl, fun i _ h => absurd h (by omega)⟩
  case round =>
    obtain ⟨j, hj, rfl, HA⟩ := hrel
    by_cases hlt : j < xs.length
    · have hlt' : (j : Int) < (xs.length : Int) := by omega
      obtain ⟨g, off, cap, hv, hg, hcell⟩ := ints_get HR.out j hlt
      simp only [Value.slice.injEq] at hv
      obtain ⟨rfl, -, rfl⟩ := hv
      have HX : Hid (xs[j] = x → b = true) := fun h => HB.out.2 (h ▸ List.getElem_mem hlt)
      have HNX : Hid (xs[j] ≠ x → ∀ i, (hi : i < xs.length) → i < j + 1 → xs[i] ≠ x) := fun hx i hi h => by
        rcases Nat.lt_or_ge i j with h2 | h2
        · exact HA.out i hi h2
        · have : i = j := by omega
          subst this
          exact hx
      generalize xs[j] = y at hcell HX HNX
      by_cases hx : y = x
      · obtain rfl := HX.out hx
        have k1 : (y == x) = true := by rw [beq_iff_eq]; exact hx
        clear hx
        go_wp2_with fail
        go_ret
        exact ⟨rfl, rfl⟩
      · have HJ := Lib.hid (HNX.out hx)
        have k1 : (y == x) = false := by rw [beq_eq_false_iff_ne]; exact hx
        clear hx
        go_wp2_with fail
        go_round
        case rel => exact ⟨j + 1, by omega, by go_num, HJ⟩
        case measure => simp [intOf]; omega
    · have hlt' : ¬ ((j : Int) < (xs.length : Int)) := by omega
      obtain rfl : b = false := by
        cases b with
        | false => rfl
        | true =>
          obtain ⟨i, hi, he⟩ := List.getElem_of_mem (HB.out.1 rfl)
          exact absurd he (HA.out i hi (by omega))
      go_wp2_with fail
      go_ret
      exact ⟨rfl, rfl⟩

set_option maxRecDepth 100000 in
set_option maxHeartbeats 800000 in
theorem specPower_any (n : Nat) (hn : n ≤ 20) (w : World) :
    Calls Try.prog 62 #[.int .i64 n] w fun e w' => e = .returned (.int .i64 ((2 ^ n : Nat) : Int)) ∧ w' = w := by
  go_enter Try.func62, Try.ntmps62
  go_wp2_with fail
  go_loop [3, 4] (fun o c => ∃ j m : Nat, j ≤ n ∧ c = .int .i64 j ∧ o = .int .i64 (m : Int) ∧ Hid (m = 2 ^ j)) (fun _ c => n - (intOf c).toNat)
  case atStart => exact ⟨0, 1, Nat.zero_le _, rfl, rfl, rfl⟩
  case round =>
    obtain ⟨j, m, hj, rfl, rfl, HM⟩ := hrel
    have hm : m ≤ 1048576 := by
      rw [HM.out]
      exact Nat.le_trans (Nat.pow_le_pow_right (by omega) (show j ≤ 20 by omega)) (by decide)
    by_cases hlt : j < n
    · have hlt' : (j : Int) < (n : Int) := by omega
      go_wp2_with fail
      go_round
      case rel => exact ⟨j + 1, 2 * m, by omega, by go_num, by go_num, by show _ = _; rw [HM.out, Nat.pow_succ, Nat.mul_comm]⟩
      case measure => simp [intOf]; omega
    · have hlt' : ¬ ((j : Int) < (n : Int)) := by omega
      obtain rfl : j = n := by omega
      go_wp2_with fail
      go_ret
      exact ⟨ret_int (by rw [HM.out]; simp), rfl⟩

end Go.Proofs.Ythljmjbmmgligar
