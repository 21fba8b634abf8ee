/-
  The given Greeting.
-/
import Derived.Test.YtkjjdoadjhjmbauGreatDoorJ39
import Derived.Deep.LoopGhost
namespace Go.Proofs.YtkjjdoadjhjmbauGreatDoor
open Go.RowKit

set_option maxRecDepth 100000 in
set_option maxHeartbeats 3200000 in
theorem specGreeting_no (seeds : List ByteArray) (events : List Int) (v u : Value) (hP : ¬ GreetP seeds events) (_ : seeds.length ≤ 100000000) (_ : events.length ≤ 100000000) (w : World) (hv : layStringS.rd w [v] seeds) (hu : layIntS.rd w [u] events) :
    Calls Tryz.prog 11 #[v, u] w fun e w' => GreetRet [] false w e w' := by
  obtain ⟨ao, cp, rfl⟩ := rows_form hv
  obtain ⟨bo, dp, rfl⟩ := rows_form hu
  have HU := Lib.hid hu
  have HP := Lib.hid hP
  clear hv hu hP
  obtain ⟨b, hb⟩ : ∃ b : Bool, b = true ↔ (seeds.length = 4 ∧ events.length ≤ 60) := by
    by_cases h : seeds.length = 4 ∧ events.length ≤ 60
    · exact ⟨true, ⟨fun _ => h, fun _ => rfl⟩⟩
    · exact ⟨false, ⟨fun e => (by cases e), fun e => absurd e h⟩⟩
  have HB := Lib.hid hb
  clear hb
  go_enter Tryz.func11, Tryz.ntmps11
  go_upto_region 1 with fail
  go_cut [6] (fun z wx => z = .bool b ∧ wx = w)
  case first =>
    by_cases h4 : seeds.length = 4
    · have k4 : ((seeds.length : Int) == 4) = true := by rw [h4]; rfl
      by_cases h6 : events.length ≤ 60
      · have k6 : (events.length : Int) ≤ 60 := by omega
        obtain rfl : b = true := HB.out.2 ⟨h4, h6⟩
        clear h4
        go_wp2_with fail
        go_meet
        exact ⟨rfl, rfl⟩
      · have k6 : decide ((events.length : Int) ≤ 60) = false := decide_eq_false (by omega)
        obtain rfl : b = false := by
          cases b with
          | false => rfl
          | true => exact absurd (HB.out.1 rfl).2 h6
        clear h4
        go_wp2_with fail
        go_meet
        exact ⟨rfl, rfl⟩
    · have k4 : ((seeds.length : Int) == 4) = false := by rw [beq_eq_false_iff_ne]; omega
      obtain rfl : b = false := by
        cases b with
        | false => rfl
        | true => exact absurd (HB.out.1 rfl).1 h4
      go_wp2_with fail
      go_meet
      exact ⟨rfl, rfl⟩
  case rest =>
    obtain ⟨rfl, hwc⟩ := hcut
    have hwc' := hwc.symm
    subst hwc'
    clear hwc
    go_wp2_with fail
    go_loop [6, 7] (fun z c => ∃ (j : Nat) (d : Bool), j ≤ events.length ∧ c = .int .i64 j ∧ z = .bool d ∧ Hid (d = true → b = true ∧ ∀ i, (hi : i < events.length) → i < j → 0 ≤ events[i])) (fun _ c => events.length - (intOf c).toNat)
    case atStart => exact ⟨0, b, Nat.zero_le _, rfl, rfl, fun h => ⟨h, fun i _ h => absurd h (by omega)⟩⟩
    case round =>
      obtain ⟨j, d, hj, rfl, rfl, HD⟩ := hrel
      have HE : Hid (j = events.length → d = false) := Lib.hid (fun e => by
        cases d with
        | false => rfl
        | true =>
          obtain ⟨h1, h2⟩ := HD.out rfl
          refine absurd ⟨HB.out.1 h1, fun x hx => ?_⟩ HP.out
          obtain ⟨i, hi, rfl⟩ := List.getElem_of_mem hx
          exact h2 i hi (by omega))
      by_cases hlt : j < events.length
      · have hlt' : (j : Int) < (events.length : Int) := by omega
        cases d with
        | false =>
          go_wp2_with fail
          exact bodyPost_ret (v := .tuple #[.slice (some ⟨w.heap.size, 0, none⟩) 0 0, .bool false]) (by simp [results, Tryz.results11, go_sem]) rfl ⟨_, [w.heap.size], rfl, by simp, flat_lit w _ (Nat.le_refl _), (Below.refl _ _).alloc (Nat.le_refl _) _⟩
        | true =>
          have hx := List.getElem?_eq_getElem hlt
          have HNX : Hid (0 ≤ events[j] → ∀ i, (hi : i < events.length) → i < j + 1 → 0 ≤ events[i]) := Lib.hid (fun h0 i hi h => by
            rcases Nat.lt_or_ge i j with h2 | h2
            · exact (HD.out rfl).2 i hi h2
            · have : i = j := by omega
              subst this
              exact h0)
          have HB2 := Lib.hid (HD.out rfl).1
          obtain ⟨g, off, cs, rfl, hg, hr, hc⟩ := rows_elem HU.out j _ hx
          generalize events[j] = x at hr HNX
          have hr' : cs = [.int .i64 x] := hr
          subst hr'
          have c0 : w.cell? ⟨g, off + j, none⟩ = some (.int .i64 x) := (by have h9 := hc 0 _ rfl; rw [show j * Lay.int.k = j from Nat.mul_one j] at h9; exact h9)
          clear hc hx HE HD
          by_cases h0 : 0 ≤ x
          · have HJ := Lib.hid (HNX.out h0)
            go_wp2_with fail
            go_round
            case rel => exact ⟨j + 1, true, by omega, by go_num, rfl, fun _ => ⟨HB2.out, HJ.out⟩⟩
            case measure => simp [intOf]; omega
          · have k0 : decide (0 ≤ x) = false := decide_eq_false h0
            clear h0
            go_wp2_with fail
            go_round
            case rel => exact ⟨j + 1, false, by omega, by go_num, rfl, fun h => (by cases h)⟩
            case measure => simp [intOf]; omega
      · have hlt' : ¬ ((j : Int) < (events.length : Int)) := by omega
        obtain rfl := HE.out (by omega)
        go_wp2_with fail
        exact bodyPost_ret (v := .tuple #[.slice (some ⟨w.heap.size, 0, none⟩) 0 0, .bool false]) (by simp [results, Tryz.results11, go_sem]) rfl ⟨_, [w.heap.size], rfl, by simp, flat_lit w _ (Nat.le_refl _), (Below.refl _ _).alloc (Nat.le_refl _) _⟩

end Go.Proofs.YtkjjdoadjhjmbauGreatDoor
