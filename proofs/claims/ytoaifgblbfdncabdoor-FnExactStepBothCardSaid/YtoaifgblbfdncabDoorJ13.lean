/-
  The given SeenOk and IsFresh.
-/
import Derived.Test.YtoaifgblbfdncabDoorJ12
import Derived.BigQuiet
import Derived.Deep.QuietTactic
namespace Go.Proofs.YtoaifgblbfdncabDoor
open Go.RowKit

/-- An element of a row of ints, by its cell. -/
theorem ints_at {w : World} {a : Option Addr} {n c : Nat} {xs : List Int} (h : layIntS.rd w [.slice a n c] xs) {j : Nat} (hj : j < xs.length) {g off : Nat} (ha : a = some ⟨g, off, none⟩) : w.cell? ⟨g, off + j, none⟩ = some (.int .i64 xs[j]) := by
  obtain ⟨g2, off2, c2, hv, -, hc⟩ := ints_get h j hj
  simp only [Value.slice.injEq] at hv
  obtain ⟨rfl, -, -⟩ := hv
  simp only [Option.some.injEq, Addr.mk.injEq, and_true] at ha
  obtain ⟨rfl, rfl⟩ := ha
  exact hc

set_option maxRecDepth 100000 in
set_option maxHeartbeats 3200000 in
theorem specSeenOk_bool (xs : List Int) (v : Value) (b : Bool) (hb : b = true ↔ SeenP xs) (hl : xs.length ≤ 100000000) (w : World) (h : layIntS.rd w [v] xs) :
    Calls Tryd.prog 66 #[v] w fun e w' => e = .returned (.bool b) ∧ Below w.heap.size w w' := by
  rw [seenP_iff] at hb
  obtain ⟨ao, cp, rfl⟩ := rows_form h
  have HR := Lib.hid h
  have HB := Lib.hid hb
  have HF : Hid (¬ SeenTo xs xs.length → b = false) := Lib.hid (fun h => by
    cases b with
    | false => rfl
    | true => exact absurd (hb.1 rfl).1 h)
  clear h hb
  go_enter Tryd.func66, Tryd.ntmps66
  go_wp2_with fail
  go_loopw [3] (fun c wr => ∃ j : Nat, j ≤ xs.length ∧ c = .int .i64 j ∧ Hid (SeenTo xs j) ∧ Hid (Below w.heap.size w wr)) (fun c _ => xs.length - (intOf c).toNat)
  case atStart => exact ⟨0, Nat.zero_le _, rfl, Lib.hid (fun i _ h => absurd h (by omega)), Lib.hid (Below.refl _ _)⟩
  case round =>
    obtain ⟨j, hj, rfl, HA, HW⟩ := hrel
    by_cases hlt : j < xs.length
    · have hlt' : (j : Int) < (xs.length : Int) := by omega
      have hl0 : (0 : Int) < (xs.length : Int) := by omega
      have HRW := layIntS.below HR.out HW.out
      obtain ⟨g, off, c2, hv, -, c0⟩ := ints_get HRW j hlt
      simp only [Value.slice.injEq] at hv
      obtain ⟨rfl, -, rfl⟩ := hv
      have d0 := ints_at HRW (show 0 < xs.length by omega) rfl
      have d1 : wr.cell? ⟨g, off, none⟩ = some (.int .i64 (xs[0]'(by omega))) := d0
      obtain ⟨p, hpe⟩ : ∃ p : Int, (hj2 : j - 1 < xs.length) → xs[j - 1] = p := ⟨xs.getD (j - 1) 0, fun h => by rw [List.getD_eq_getElem?_getD, List.getElem?_eq_getElem h]; rfl⟩
      have hpv : 0 < j → ∀ i : Nat, i = j - 1 → wr.cell? ⟨g, off + i, none⟩ = some (.int .i64 p) := fun h0 i hi => by
        subst hi
        rw [← hpe (by omega)]
        exact ints_at HRW (show j - 1 < xs.length by omega) rfl
      have htop : topZ xs = xs[0]'(by omega) := top_get (by omega)
      have hfirst : 0 < j → 1 ≤ xs[0]'(by omega) ∧ xs[0]'(by omega) ≤ 1000000000 := fun h0 => (HA.out 0 (by omega) h0).1
      have hzero : j = 0 → xs[0]'(by omega) = xs[j] := fun h0 => by subst h0; rfl
      have HX : Hid (¬ ((1 ≤ xs[j] ∧ xs[j] ≤ 1000000000) ∧ (0 < j → xs[j] < p) ∧ xs[0]'(by omega) - 6 < xs[j]) → b = false) := Lib.hid (fun h => HF.out fun hw => h (by rw [← htop]; have := hw j hlt hlt; exact ⟨this.1, fun h0 => by rw [← hpe (by omega)]; exact this.2.1 h0, this.2.2⟩))
      have HNX : Hid ((1 ≤ xs[j] ∧ xs[j] ≤ 1000000000) → (0 < j → xs[j] < p) → xs[0]'(by omega) - 6 < xs[j] → SeenTo xs (j + 1)) := Lib.hid (fun h1 h2 h3 => seenTo_next hlt HA.out h1 (fun h0 => by rw [hpe (by omega)]; exact h2 h0) (by rw [htop]; exact h3))
      clear HRW htop hpe
      generalize (xs[0]'(by omega)) = t at *
      generalize xs[j] = x at *
      by_cases h1 : 1 ≤ x ∧ x ≤ 1000000000
      rotate_left
      · obtain rfl := HX.out (fun h => h1 h.1)
        have K1 := Lib.hid (inRange_no x 1 1000000000 (by omega))
        clear HX HNX h1 hpv hfirst hzero
        go_wp2_with fail
        go_quiet ((go_at_call 30; exact Calls.quiet_of_same (K1.out _)))
        go_wp2_with fail
        go_ret
        exact ⟨rfl, below_drewN HW.out _⟩
      have K1 := Lib.hid (inRange_yes x 1 1000000000 h1.1 h1.2)
      have ht : 1 ≤ t ∧ t ≤ 1000000000 := by
        rcases Nat.eq_zero_or_pos j with h0 | h0
        · rw [hzero h0]; exact h1
        · exact hfirst h0
      have hwt : IntKind.i64.wrap (t - 6) = t - 6 := by rw [IntKind.wrap_i64]; omega
      rcases Nat.eq_zero_or_pos j with h0 | h0
      · have hx : t = x := hzero h0
        have h00 : ¬ ((0 : Int) < (j : Int)) := by omega
        have h01 : ¬ (0 < j) := by omega
        have hle : ¬ (x ≤ t - 6) := by omega
        have HJ := Lib.hid (HNX.out h1 (fun h => absurd h (by omega)) (by omega))
        clear HX HNX hpv hfirst hzero hx h0
        go_wp2_with fail
        go_quiet ((go_at_call 30; exact Calls.quiet_of_same (K1.out _)))
        go_wp2_with fail
        go_roundw
        case rel => exact ⟨j + 1, by omega, by go_num, HJ, Lib.hid (below_drewN HW.out _)⟩
        case measure => simp [intOf]; omega
      · have h0' : (0 : Int) < (j : Int) := by omega
        obtain ⟨i, hi⟩ : ∃ i : Nat, i = j - 1 := ⟨_, rfl⟩
        have hwi : IntKind.i64.wrap ((j : Int) - 1) = (i : Int) := by rw [IntKind.wrap_i64]; omega
        have hil : (i : Int) < (xs.length : Int) := by omega
        have p0 := hpv h0 i hi
        clear hpv hfirst hzero hi
        by_cases hp : x < p
        rotate_left
        · obtain rfl := HX.out (fun h => hp (h.2.1 h0))
          have hp' : decide (p ≤ x) = true := decide_eq_true (by omega)
          clear HX HNX hp
          go_wp2_with fail
          go_quiet ((go_at_call 30; exact Calls.quiet_of_same (K1.out _)))
          go_wp2_with fail
          go_ret
          exact ⟨rfl, below_drewN HW.out _⟩
        have hp' : decide (p ≤ x) = false := decide_eq_false (by omega)
        by_cases hf : t - 6 < x
        rotate_left
        · obtain rfl := HX.out (fun h => hf h.2.2)
          have hf' : decide (x ≤ t - 6) = true := decide_eq_true (by omega)
          clear HX HNX hp hf
          go_wp2_with fail
          go_quiet ((go_at_call 30; exact Calls.quiet_of_same (K1.out _)))
          go_wp2_with fail
          go_ret
          exact ⟨rfl, below_drewN HW.out _⟩
        · have hf' : decide (x ≤ t - 6) = false := decide_eq_false (by omega)
          have HJ := Lib.hid (HNX.out h1 (fun _ => hp) hf)
          clear HX HNX hp hf
          go_wp2_with fail
          go_quiet ((go_at_call 30; exact Calls.quiet_of_same (K1.out _)))
          go_wp2_with fail
          go_roundw
          case rel => exact ⟨j + 1, by omega, by go_num, HJ, Lib.hid (below_drewN HW.out _)⟩
          case measure => simp [intOf]; omega
    · have hlt' : ¬ ((j : Int) < (xs.length : Int)) := by omega
      obtain rfl : j = xs.length := by omega
      have hd : decide ((xs.length : Int) ≤ 6) = b := by
        cases b with
        | true => exact decide_eq_true (by have := (HB.out.1 rfl).2; omega)
        | false => exact decide_eq_false (fun h => by have := HB.out.2 ⟨HA.out, by omega⟩; cases this)
      go_wp2_with fail
      go_ret
      exact ⟨rfl, HW.out⟩

end Go.Proofs.YtoaifgblbfdncabDoor
