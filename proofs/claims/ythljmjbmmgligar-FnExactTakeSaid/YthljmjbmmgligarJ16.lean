/-
  The given l13Sent.
-/
import Derived.Test.YthljmjbmmgligarJ15
import Derived.BigQuiet
import Derived.Deep.QuietTactic
namespace Go.Proofs.Ythljmjbmmgligar
open Go.RowKit

theorem inRange_bool (x a b : Int) (c : Bool) (hc : c = true ↔ (a ≤ x ∧ x ≤ b)) (w : World) :
    Calls Try.prog 30 #[.int .i64 x, .int .i64 a, .int .i64 b] w fun e w' => e = .returned (.bool c) ∧ w' = w := by
  cases c with
  | true => exact inRange_yes x a b (hc.1 rfl).1 (hc.1 rfl).2 w
  | false =>
    have h : ¬ (a ≤ x ∧ x ≤ b) := fun h => by cases hc.2 h
    exact inRange_no x a b (by omega) w

set_option maxRecDepth 100000 in
set_option maxHeartbeats 6400000 in
theorem specSent_any (me peer next got : Int) (vq vs ve vo vx : Value) (ss : List PendingD) (b : Bool) (hb : b = true ↔ SentOk next ss) (hl : ss.length ≤ 100000000) (w : World) (h : layPendingS.rd w [vs] ss) :
    Calls Try.prog 49 #[.agg #[.int .i64 me, .int .i64 peer, .int .i64 next, vq, vs, .int .i64 got, ve, vo, vx]] w fun e w' => e = .returned (.bool b) ∧ Below w.heap.size w w' := by
  obtain ⟨sa, sc, rfl⟩ := rows_form h
  have HR := Lib.hid h
  have HB := Lib.hid hb
  have A0 := Lib.hid (VarA.new w ChanT #[.int .i64 me, .int .i64 peer, .int .i64 next, vq, .slice sa ss.length sc, .int .i64 got, ve, vo, vx])
  have B0 := Lib.hid ((Below.refl w.heap.size w).alloc (Nat.le_refl _) (.cells #[.int .i64 me, .int .i64 peer, .int .i64 next, vq, .slice sa ss.length sc, .int .i64 got, ve, vo, vx] ChanT))
  clear h hb
  go_enter Try.func49, Try.ntmps49
  go_upto_region 1 with fail
  generalize w.alloc (.cells #[.int .i64 me, .int .i64 peer, .int .i64 next, vq, .slice sa ss.length sc, .int .i64 got, ve, vo, vx] ChanT) = Y at *
  go_wp2_with fail
  go_loopw [3] (fun c wr => ∃ j : Nat, j ≤ ss.length ∧ c = .int .i64 j ∧ Hid (∀ i x, i < j → ss[i]? = some x → SentAt next ss i x) ∧ VarA w.heap.size ChanT #[.int .i64 me, .int .i64 peer, .int .i64 next, vq, .slice sa ss.length sc, .int .i64 got, ve, vo, vx] wr ∧ Below w.heap.size w wr) (fun c _ => ss.length - (intOf c).toNat)
  case atStart => exact ⟨0, Nat.zero_le _, rfl, fun i x h => absurd h (by omega), A0.out, B0.out⟩
  case round =>
    obtain ⟨j, hj, rfl, HA, hA, hBe⟩ := hrel
    have HV := Lib.hid hA
    have HBE := Lib.hid hBe
    clear hA hBe A0 B0
    have c4 : wr.cell? ⟨w.heap.size, 4, none⟩ = some (.slice sa ss.length sc) := HV.out.cell 4
    by_cases hlt : j < ss.length
    · have hlt' : (j : Int) < (ss.length : Int) := by omega
      have hx := List.getElem?_eq_getElem hlt
      have HX : Hid (¬ SentAt next ss j ss[j] → b = false) := fun h => by
        cases b with
        | false => rfl
        | true => exact absurd ((HB.out.1 rfl).2 _ _ hx) h
      have HNX : Hid (SentAt next ss j ss[j] → ∀ i x, i < j + 1 → ss[i]? = some x → SentAt next ss i x) := fun h i x hi hx2 => by
        rcases Nat.lt_or_ge i j with h2 | h2
        · exact HA.out i x h2 hx2
        · have : i = j := by omega
          subst this
          rw [hx] at hx2
          cases hx2
          exact h
      have HEL := Lib.hid (fun (i : Nat) x (hi : ss[i]? = some x) => rows_elem (layPendingS.below HR.out HBE.out) i x hi)
      obtain ⟨g, off, cs, rfl, hg, hr, hc⟩ := HEL.out j _ hx
      generalize ss[j] = x at hr HX HNX
      rw [layPending_rd] at hr
      subst hr
      obtain ⟨x0, x1, x2, x3⟩ := x
      have d0 : wr.cell? ⟨g, off + j * 4, none⟩ = some (.int .i64 x0) := hc 0 _ rfl
      have d1 : wr.cell? ⟨g, off + j * 4 + 1, none⟩ = some (.string x1) := hc 1 _ rfl
      have d2 : wr.cell? ⟨g, off + j * 4 + 2, none⟩ = some (.int .i64 x2) := hc 2 _ rfl
      have d3 : wr.cell? ⟨g, off + j * 4 + 3, none⟩ = some (.int .i64 x3) := hc 3 _ rfl
      have SV := Lib.hid (VarA.new wr PendingT #[.int .i64 x0, .string x1, .int .i64 x2, .int .i64 x3])
      have SB : Hid (Below wr.heap.size wr (wr.alloc (.cells #[.int .i64 x0, .string x1, .int .i64 x2, .int .i64 x3] PendingT))) := (Below.refl _ _).alloc (Nat.le_refl _) _
      obtain ⟨prev, HPR, hpv⟩ : ∃ p : Int, Hid (0 < j → ∀ y, ss[j - 1]? = some y → y.1 = p) ∧ (0 < j → wr.cell? ⟨g, off + (j - 1) * 4, none⟩ = some (.int .i64 p)) := by
        by_cases h0 : 0 < j
        · have hy := List.getElem?_eq_getElem (show j - 1 < ss.length by omega)
          obtain ⟨g', off', cs', e9, _, hr', hc'⟩ := HEL.out (j - 1) _ hy
          simp only [Option.some.injEq, Addr.mk.injEq, and_true] at e9
          obtain ⟨rfl, rfl⟩ := e9
          rw [layPending_rd] at hr'
          subst hr'
          exact ⟨(ss[j - 1]).1, fun _ y hy2 => by rw [hy] at hy2; cases hy2; rfl, fun _ => hc' 0 _ rfl⟩
        · exact ⟨0, fun h => absurd h h0, fun h => absurd h h0⟩
      clear hc hx HEL
      go_upto_region 5 with fail
      generalize wr.alloc (.cells #[.int .i64 x0, .string x1, .int .i64 x2, .int .i64 x3] PendingT) = W at *
      have HVW := Lib.hid (HV.out.next SB.out)
      have HBW := Lib.hid (HBE.out.trans (SB.out.mono HBE.out.size))
      have s0 : W.cell? ⟨wr.heap.size, 0, none⟩ = some (.int .i64 x0) := SV.out.cell 0
      have s1 : W.cell? ⟨wr.heap.size, 1, none⟩ = some (.string x1) := SV.out.cell 1
      have s2 : W.cell? ⟨wr.heap.size, 2, none⟩ = some (.int .i64 x2) := SV.out.cell 2
      have s3 : W.cell? ⟨wr.heap.size, 3, none⟩ = some (.int .i64 x3) := SV.out.cell 3
      have t2 : W.cell? ⟨w.heap.size, 2, none⟩ = some (.int .i64 next) := HVW.out.cell 2
      have t4 : W.cell? ⟨w.heap.size, 4, none⟩ = some (.slice (some ⟨g, off, none⟩) ss.length sc) := HVW.out.cell 4
      have hpw : 0 < j → W.cell? ⟨g, off + (j - 1) * 4, none⟩ = some (.int .i64 prev) := fun h0 => by
        rw [SB.out.cell (p := ⟨g, off + (j - 1) * 4, none⟩) (World.block_lt_of_cell? _ _ (hpv h0))]
        exact hpv h0
      clear hpv d0 d1 d2 d3 c4 SV SB HV HBE
      generalize wr.heap.size = q at *
      obtain ⟨b1, H1⟩ : ∃ c : Bool, c = true ↔ (1 ≤ x0 ∧ x0 ≤ next) := ⟨decide _, decide_eq_true_iff⟩
      obtain ⟨b3, H3⟩ : ∃ c : Bool, c = true ↔ (0 ≤ x2 ∧ x2 ≤ 1000000000) := ⟨decide _, decide_eq_true_iff⟩
      obtain ⟨b4, H4⟩ : ∃ c : Bool, c = true ↔ (1 ≤ x3 ∧ x3 ≤ 8) := ⟨decide _, decide_eq_true_iff⟩
      have K1 := Lib.hid (inRange_bool x0 1 next b1 H1)
      have K3 := Lib.hid (inRange_bool x2 0 1000000000 b3 H3)
      have K4 := Lib.hid (inRange_bool x3 1 8 b4 H4)
      have HAT : Hid (SentAt next ss j (x0, x1, x2, x3) ↔ (b1 = true ∧ (0 < j → prev < x0) ∧ b3 = true ∧ b4 = true ∧ x1.size ≤ 120)) := by
        show _ ↔ _
        rw [H1, H3, H4]
        constructor
        · rintro ⟨a1, a2, a3, a4, a5⟩
          refine ⟨a1, fun h0 => ?_, a3, a4, a5⟩
          have hy := List.getElem?_eq_getElem (show j - 1 < ss.length by omega)
          rw [← HPR.out h0 _ hy]
          exact a2 h0 _ hy
        · rintro ⟨a1, a2, a3, a4, a5⟩
          exact ⟨a1, fun h0 y hy => by rw [HPR.out h0 y hy]; exact a2 h0, a3, a4, a5⟩
      clear H1 H3 H4 HPR
      cases b1 with
      | false =>
        obtain rfl := HX.out (fun h => by cases (HAT.out.1 h).1)
        go_wp2_with fail
        go_quiet (first | (go_at_call_of 30 (Value.int IntKind.i64 x0); exact Calls.quiet_of_same (K1.out _)) | (go_at_call_of 30 (Value.int IntKind.i64 x2); exact Calls.quiet_of_same (K3.out _)) | (go_at_call_of 30 (Value.int IntKind.i64 x3); exact Calls.quiet_of_same (K4.out _)))
        go_wp2_with fail
        go_ret
        exact ⟨rfl, below_drewN HBW.out _⟩
      | true =>
        by_cases h0 : 0 < j
        · have p0 := hpw h0
          have h0' : (0 : Int) < (j : Int) := by omega
          obtain ⟨i, hi⟩ : ∃ i : Nat, i = j - 1 := ⟨_, rfl⟩
          have hwi : IntKind.i64.wrap ((j : Int) - 1) = (i : Int) := by rw [IntKind.wrap_i64]; omega
          have hil : (i : Int) < (ss.length : Int) := by omega
          rw [← hi] at p0
          clear hi
          by_cases hp : prev < x0
          · have hp' : ¬ (x0 ≤ prev) := by omega
            cases b3 with
            | false =>
              obtain rfl := HX.out (fun h => by cases (HAT.out.1 h).2.2.1)
              go_wp2_with fail
              go_quiet (first | (go_at_call_of 30 (Value.int IntKind.i64 x0); exact Calls.quiet_of_same (K1.out _)) | (go_at_call_of 30 (Value.int IntKind.i64 x2); exact Calls.quiet_of_same (K3.out _)) | (go_at_call_of 30 (Value.int IntKind.i64 x3); exact Calls.quiet_of_same (K4.out _)))
              go_wp2_with fail
              go_ret
              exact ⟨rfl, below_drewN HBW.out _⟩
            | true =>
              cases b4 with
              | false =>
                obtain rfl := HX.out (fun h => by cases (HAT.out.1 h).2.2.2.1)
                go_wp2_with fail
                go_quiet (first | (go_at_call_of 30 (Value.int IntKind.i64 x0); exact Calls.quiet_of_same (K1.out _)) | (go_at_call_of 30 (Value.int IntKind.i64 x2); exact Calls.quiet_of_same (K3.out _)) | (go_at_call_of 30 (Value.int IntKind.i64 x3); exact Calls.quiet_of_same (K4.out _)))
                go_wp2_with fail
                go_ret
                exact ⟨rfl, below_drewN HBW.out _⟩
              | true =>
                by_cases hs : x1.size ≤ 120
                · have hs' : ¬ ((120 : Int) < (x1.size : Int)) := by omega
                  have HJ := Lib.hid (HNX.out (HAT.out.2 ⟨rfl, (fun _ => hp), rfl, rfl, hs⟩))
                  go_wp2_with fail
                  go_quiet (first | (go_at_call_of 30 (Value.int IntKind.i64 x0); exact Calls.quiet_of_same (K1.out _)) | (go_at_call_of 30 (Value.int IntKind.i64 x2); exact Calls.quiet_of_same (K3.out _)) | (go_at_call_of 30 (Value.int IntKind.i64 x3); exact Calls.quiet_of_same (K4.out _)))
                  go_wp2_with fail
                  go_roundw
                  case rel => exact ⟨j + 1, by omega, by go_num, HJ, HVW.out.next (below_drewN (Below.refl _ _) _), below_drewN HBW.out _⟩
                  case measure => simp [intOf]; omega
                · have hs' : (120 : Int) < (x1.size : Int) := by omega
                  obtain rfl := HX.out (fun h => hs (HAT.out.1 h).2.2.2.2)
                  go_wp2_with fail
                  go_quiet (first | (go_at_call_of 30 (Value.int IntKind.i64 x0); exact Calls.quiet_of_same (K1.out _)) | (go_at_call_of 30 (Value.int IntKind.i64 x2); exact Calls.quiet_of_same (K3.out _)) | (go_at_call_of 30 (Value.int IntKind.i64 x3); exact Calls.quiet_of_same (K4.out _)))
                  go_wp2_with fail
                  go_ret
                  exact ⟨rfl, below_drewN HBW.out _⟩
          · have hp' : x0 ≤ prev := by omega
            obtain rfl := HX.out (fun h => hp ((HAT.out.1 h).2.1 h0))
            go_wp2_with fail
            go_quiet (first | (go_at_call_of 30 (Value.int IntKind.i64 x0); exact Calls.quiet_of_same (K1.out _)) | (go_at_call_of 30 (Value.int IntKind.i64 x2); exact Calls.quiet_of_same (K3.out _)) | (go_at_call_of 30 (Value.int IntKind.i64 x3); exact Calls.quiet_of_same (K4.out _)))
            go_wp2_with fail
            go_ret
            exact ⟨rfl, below_drewN HBW.out _⟩
        · have h0' : ¬ ((0 : Int) < (j : Int)) := by omega
          cases b3 with
          | false =>
            obtain rfl := HX.out (fun h => by cases (HAT.out.1 h).2.2.1)
            go_wp2_with fail
            go_quiet (first | (go_at_call_of 30 (Value.int IntKind.i64 x0); exact Calls.quiet_of_same (K1.out _)) | (go_at_call_of 30 (Value.int IntKind.i64 x2); exact Calls.quiet_of_same (K3.out _)) | (go_at_call_of 30 (Value.int IntKind.i64 x3); exact Calls.quiet_of_same (K4.out _)))
            go_wp2_with fail
            go_ret
            exact ⟨rfl, below_drewN HBW.out _⟩
          | true =>
            cases b4 with
            | false =>
              obtain rfl := HX.out (fun h => by cases (HAT.out.1 h).2.2.2.1)
              go_wp2_with fail
              go_quiet (first | (go_at_call_of 30 (Value.int IntKind.i64 x0); exact Calls.quiet_of_same (K1.out _)) | (go_at_call_of 30 (Value.int IntKind.i64 x2); exact Calls.quiet_of_same (K3.out _)) | (go_at_call_of 30 (Value.int IntKind.i64 x3); exact Calls.quiet_of_same (K4.out _)))
              go_wp2_with fail
              go_ret
              exact ⟨rfl, below_drewN HBW.out _⟩
            | true =>
              by_cases hs : x1.size ≤ 120
              · have hs' : ¬ ((120 : Int) < (x1.size : Int)) := by omega
                have HJ := Lib.hid (HNX.out (HAT.out.2 ⟨rfl, (fun h => absurd h h0), rfl, rfl, hs⟩))
                go_wp2_with fail
                go_quiet (first | (go_at_call_of 30 (Value.int IntKind.i64 x0); exact Calls.quiet_of_same (K1.out _)) | (go_at_call_of 30 (Value.int IntKind.i64 x2); exact Calls.quiet_of_same (K3.out _)) | (go_at_call_of 30 (Value.int IntKind.i64 x3); exact Calls.quiet_of_same (K4.out _)))
                go_wp2_with fail
                go_roundw
                case rel => exact ⟨j + 1, by omega, by go_num, HJ, HVW.out.next (below_drewN (Below.refl _ _) _), below_drewN HBW.out _⟩
                case measure => simp [intOf]; omega
              · have hs' : (120 : Int) < (x1.size : Int) := by omega
                obtain rfl := HX.out (fun h => hs (HAT.out.1 h).2.2.2.2)
                go_wp2_with fail
                go_quiet (first | (go_at_call_of 30 (Value.int IntKind.i64 x0); exact Calls.quiet_of_same (K1.out _)) | (go_at_call_of 30 (Value.int IntKind.i64 x2); exact Calls.quiet_of_same (K3.out _)) | (go_at_call_of 30 (Value.int IntKind.i64 x3); exact Calls.quiet_of_same (K4.out _)))
                go_wp2_with fail
                go_ret
                exact ⟨rfl, below_drewN HBW.out _⟩
    · have hlt' : ¬ ((j : Int) < (ss.length : Int)) := by omega
      obtain rfl : b = decide ((ss.length : Int) ≤ 4) := by
        rw [Bool.eq_iff_iff, HB.out, decide_eq_true_iff]
        exact ⟨fun h => by have := h.1; omega, fun h => ⟨by omega, fun i x hx => HA.out i x (by have := (List.getElem?_eq_some_iff.1 hx).1; omega) hx⟩⟩
      go_wp2_with fail
      go_ret
      exact ⟨rfl, HBE.out⟩

end Go.Proofs.Ythljmjbmmgligar
