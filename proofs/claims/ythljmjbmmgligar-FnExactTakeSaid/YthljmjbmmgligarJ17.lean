/-
  The given ChanOk.
-/
import Derived.Test.YthljmjbmmgligarJ16
import Derived.Deep.CutBlock
import Derived.Deep.DeepCutAuto
namespace Go.Proofs.Ythljmjbmmgligar
open Go.RowKit

/-- What is looked at first. -/
def ChanFront (me peer next got : Int) (qs : List ByteArray) (ss : List PendingD) (os : List Int) (xs : List ByteArray) : Prop :=
  (1 ≤ me ∧ me ≤ 99) ∧ (1 ≤ peer ∧ peer ≤ 99) ∧ (0 ≤ next ∧ next ≤ 1000) ∧ qs.length ≤ 30 ∧ TextsOk qs ∧ SentOk next ss ∧ (0 ≤ got ∧ got ≤ 1000) ∧ (xs.length : Int) = got ∧ TextsOk xs ∧ os.length ≤ 4
theorem chanP_iff {me peer next got : Int} {qs : List ByteArray} {ss : List PendingD} {es : List EarlyD} {os : List Int} {xs : List ByteArray} : ChanP me peer next got qs ss es os xs ↔ ChanFront me peer next got qs ss os xs ∧ EarlyOk got es ∧ OwedOk got os :=
  ⟨fun h => ⟨⟨h.meR, h.peerR, h.nextR, h.few, h.queue, h.sent, h.gotR, h.many, h.out, h.owes⟩, h.early, h.owed⟩, fun ⟨⟨a, b, c, d, e, f, g, i, j, k⟩, l, m⟩ => ⟨a, b, c, d, e, f, g, i, j, k, l, m⟩⟩

set_option maxRecDepth 100000 in
set_option maxHeartbeats 12800000 in
theorem specChanOk_bool (me peer next got : Int) (vq vs ve vo vx : Value) (qs : List ByteArray) (ss : List PendingD) (es : List EarlyD) (os : List Int) (xs : List ByteArray) (b : Bool) (hb : b = true ↔ ChanP me peer next got qs ss es os xs) (lq : qs.length ≤ 100000000) (ls : ss.length ≤ 100000000) (le : es.length ≤ 100000000) (lo : os.length ≤ 100000000) (lx : xs.length ≤ 100000000) (w : World) (hq : layStringS.rd w [vq] qs) (hs : layPendingS.rd w [vs] ss) (he : layEarlyS.rd w [ve] es) (ho : layIntS.rd w [vo] os) (hx : layStringS.rd w [vx] xs) :
    Calls Try.prog 14 #[.agg #[.int .i64 me, .int .i64 peer, .int .i64 next, vq, vs, .int .i64 got, ve, vo, vx]] w fun e w' => e = .returned (.bool b) ∧ Below w.heap.size w w' := by
  obtain ⟨qa, qc, rfl⟩ := rows_form hq
  obtain ⟨sa, sc, rfl⟩ := rows_form hs
  obtain ⟨ea, ec, rfl⟩ := rows_form he
  obtain ⟨oa, oc, rfl⟩ := rows_form ho
  obtain ⟨xa, xc, rfl⟩ := rows_form hx
  have HB := Lib.hid (hb.trans chanP_iff)
  have A0 := Lib.hid (VarA.new w ChanT #[.int .i64 me, .int .i64 peer, .int .i64 next, .slice qa qs.length qc, .slice sa ss.length sc, .int .i64 got, .slice ea es.length ec, .slice oa os.length oc, .slice xa xs.length xc])
  have B0 := Lib.hid ((Below.refl w.heap.size w).alloc (Nat.le_refl _) (.cells #[.int .i64 me, .int .i64 peer, .int .i64 next, .slice qa qs.length qc, .slice sa ss.length sc, .int .i64 got, .slice ea es.length ec, .slice oa os.length oc, .slice xa xs.length xc] ChanT))
  have HQ := Lib.hid hq
  have HS := Lib.hid hs
  have HE := Lib.hid he
  have HO := Lib.hid ho
  have HX := Lib.hid hx
  clear hb hq hs he ho hx
  go_enter Try.func14, Try.ntmps14
  go_upto_region 1 with fail
  generalize w.alloc (.cells #[.int .i64 me, .int .i64 peer, .int .i64 next, .slice qa qs.length qc, .slice sa ss.length sc, .int .i64 got, .slice ea es.length ec, .slice oa os.length oc, .slice xa xs.length xc] ChanT) = Y at *
  have c0 : Y.cell? ⟨w.heap.size, 0, none⟩ = some (.int .i64 me) := A0.out.cell 0
  have c1 : Y.cell? ⟨w.heap.size, 1, none⟩ = some (.int .i64 peer) := A0.out.cell 1
  have c2 : Y.cell? ⟨w.heap.size, 2, none⟩ = some (.int .i64 next) := A0.out.cell 2
  have c3 : Y.cell? ⟨w.heap.size, 3, none⟩ = some (.slice qa qs.length qc) := A0.out.cell 3
  have c4 : Y.cell? ⟨w.heap.size, 4, none⟩ = some (.slice sa ss.length sc) := A0.out.cell 4
  have c5 : Y.cell? ⟨w.heap.size, 5, none⟩ = some (.int .i64 got) := A0.out.cell 5
  have c6 : Y.cell? ⟨w.heap.size, 6, none⟩ = some (.slice ea es.length ec) := A0.out.cell 6
  have c7 : Y.cell? ⟨w.heap.size, 7, none⟩ = some (.slice oa os.length oc) := A0.out.cell 7
  have c8 : Y.cell? ⟨w.heap.size, 8, none⟩ = some (.slice xa xs.length xc) := A0.out.cell 8
  go_cut [63] (fun v wx => ∃ c : Bool, v = .bool c ∧ Hid (c = true → ¬ ChanFront me peer next got qs ss os xs) ∧ Hid (c = false → ChanFront me peer next got qs ss os xs) ∧ Hid (VarA w.heap.size ChanT #[.int .i64 me, .int .i64 peer, .int .i64 next, .slice qa qs.length qc, .slice sa ss.length sc, .int .i64 got, .slice ea es.length ec, .slice oa os.length oc, .slice xa xs.length xc] wx) ∧ Hid (Below w.heap.size w wx))
  case first =>
    by_cases hme : 1 ≤ me ∧ me ≤ 99
    rotate_left
    · have K := Lib.hid (inRange_no me 1 99 (by omega) Y)
      go_wp2_with fail
      refine (K.out).mono ?_
      rintro e Z9 ⟨rfl, hw⟩
      rw [hw]
      clear hw K Z9
      go_wp2_with fail
      go_meet
      exact ⟨true, rfl, (fun _ h => hme h.1), (fun h => by cases h), A0.out, B0.out⟩
    have K := Lib.hid (inRange_yes me 1 99 hme.1 hme.2 Y)
    go_wp2_with fail
    refine (K.out).mono ?_
    rintro e Z9 ⟨rfl, hw⟩
    rw [hw]
    clear hw K Z9
    by_cases hpe : 1 ≤ peer ∧ peer ≤ 99
    rotate_left
    · have K := Lib.hid (inRange_no peer 1 99 (by omega) Y)
      go_wp2_with fail
      refine (K.out).mono ?_
      rintro e Z9 ⟨rfl, hw⟩
      rw [hw]
      clear hw K Z9
      go_wp2_with fail
      go_meet
      exact ⟨true, rfl, (fun _ h => hpe h.2.1), (fun h => by cases h), A0.out, B0.out⟩
    have K := Lib.hid (inRange_yes peer 1 99 hpe.1 hpe.2 Y)
    go_wp2_with fail
    refine (K.out).mono ?_
    rintro e Z9 ⟨rfl, hw⟩
    rw [hw]
    clear hw K Z9
    by_cases hne : 0 ≤ next ∧ next ≤ 1000
    rotate_left
    · have K := Lib.hid (inRange_no next 0 1000 (by omega) Y)
      go_wp2_with fail
      refine (K.out).mono ?_
      rintro e Z9 ⟨rfl, hw⟩
      rw [hw]
      clear hw K Z9
      go_wp2_with fail
      go_meet
      exact ⟨true, rfl, (fun _ h => hne h.2.2.1), (fun h => by cases h), A0.out, B0.out⟩
    have K := Lib.hid (inRange_yes next 0 1000 hne.1 hne.2 Y)
    go_wp2_with fail
    refine (K.out).mono ?_
    rintro e Z9 ⟨rfl, hw⟩
    rw [hw]
    clear hw K Z9
    by_cases hfe : qs.length ≤ 30
    rotate_left
    · have f_few : ((30 : Int) < (qs.length : Int)) := by omega
      go_wp2_with fail
      go_meet
      exact ⟨true, rfl, (fun _ h => hfe h.2.2.2.1), (fun h => by cases h), A0.out, B0.out⟩
    have f_few : ¬ ((30 : Int) < (qs.length : Int)) := by omega
    by_cases hqu : TextsOk qs
    rotate_left
    · have K := Lib.hid (specTexts_any qs (.slice qa qs.length qc) false ⟨fun e => (by cases e), fun e => absurd e hqu⟩ lq Y (layStringS.below HQ.out B0.out))
      go_wp2_with fail
      refine (K.out).mono ?_
      rintro e Z9 ⟨rfl, hw⟩
      rw [hw]
      clear hw K Z9
      go_wp2_with fail
      go_meet
      exact ⟨true, rfl, (fun _ h => hqu h.2.2.2.2.1), (fun h => by cases h), A0.out, B0.out⟩
    have K := Lib.hid (specTexts_any qs (.slice qa qs.length qc) true ⟨fun _ => hqu, fun _ => rfl⟩ lq Y (layStringS.below HQ.out B0.out))
    go_wp2_with fail
    refine (K.out).mono ?_
    rintro e Z9 ⟨rfl, hw⟩
    rw [hw]
    clear hw K Z9
    by_cases hse : SentOk next ss
    rotate_left
    · have K := Lib.hid (specSent_any me peer next got (.slice qa qs.length qc) (.slice sa ss.length sc) (.slice ea es.length ec) (.slice oa os.length oc) (.slice xa xs.length xc) ss false ⟨fun e => (by cases e), fun e => absurd e hse⟩ ls Y (layPendingS.below HS.out B0.out))
      go_wp2_with fail
      refine (K.out).mono ?_
      rintro e Z ⟨rfl, hbz⟩
      have A1 := Lib.hid (A0.out.next hbz)
      have B1 := Lib.hid (B0.out.trans (hbz.mono B0.out.size))
      clear hbz K
      go_wp2_with fail
      go_meet
      exact ⟨true, rfl, (fun _ h => hse h.2.2.2.2.2.1), (fun h => by cases h), A1.out, B1.out⟩
    have K := Lib.hid (specSent_any me peer next got (.slice qa qs.length qc) (.slice sa ss.length sc) (.slice ea es.length ec) (.slice oa os.length oc) (.slice xa xs.length xc) ss true ⟨fun _ => hse, fun _ => rfl⟩ ls Y (layPendingS.below HS.out B0.out))
    go_wp2_with fail
    refine (K.out).mono ?_
    rintro e Z ⟨rfl, hbz⟩
    have A1 := Lib.hid (A0.out.next hbz)
    have B1 := Lib.hid (B0.out.trans (hbz.mono B0.out.size))
    clear hbz K c0 c1 c2 c3 c4 c5 c6 c7 c8
    have z0 : Z.cell? ⟨w.heap.size, 0, none⟩ = some (.int .i64 me) := A1.out.cell 0
    have z1 : Z.cell? ⟨w.heap.size, 1, none⟩ = some (.int .i64 peer) := A1.out.cell 1
    have z2 : Z.cell? ⟨w.heap.size, 2, none⟩ = some (.int .i64 next) := A1.out.cell 2
    have z3 : Z.cell? ⟨w.heap.size, 3, none⟩ = some (.slice qa qs.length qc) := A1.out.cell 3
    have z4 : Z.cell? ⟨w.heap.size, 4, none⟩ = some (.slice sa ss.length sc) := A1.out.cell 4
    have z5 : Z.cell? ⟨w.heap.size, 5, none⟩ = some (.int .i64 got) := A1.out.cell 5
    have z6 : Z.cell? ⟨w.heap.size, 6, none⟩ = some (.slice ea es.length ec) := A1.out.cell 6
    have z7 : Z.cell? ⟨w.heap.size, 7, none⟩ = some (.slice oa os.length oc) := A1.out.cell 7
    have z8 : Z.cell? ⟨w.heap.size, 8, none⟩ = some (.slice xa xs.length xc) := A1.out.cell 8
    by_cases hgo : 0 ≤ got ∧ got ≤ 1000
    rotate_left
    · have K := Lib.hid (inRange_no got 0 1000 (by omega) Z)
      go_wp2_with fail
      refine (K.out).mono ?_
      rintro e Z9 ⟨rfl, hw⟩
      rw [hw]
      clear hw K Z9
      go_wp2_with fail
      go_meet
      exact ⟨true, rfl, (fun _ h => hgo h.2.2.2.2.2.2.1), (fun h => by cases h), A1.out, B1.out⟩
    have K := Lib.hid (inRange_yes got 0 1000 hgo.1 hgo.2 Z)
    go_wp2_with fail
    refine (K.out).mono ?_
    rintro e Z9 ⟨rfl, hw⟩
    rw [hw]
    clear hw K Z9
    by_cases hma : (xs.length : Int) = got
    rotate_left
    · have f_many : (((xs.length : Int)) != got) = true := by rw [bne_iff_ne]; exact hma
      go_wp2_with fail
      go_meet
      exact ⟨true, rfl, (fun _ h => hma h.2.2.2.2.2.2.2.1), (fun h => by cases h), A1.out, B1.out⟩
    have f_many : (((xs.length : Int)) != got) = false := by rw [hma]; simp
    by_cases hou : TextsOk xs
    rotate_left
    · have K := Lib.hid (specTexts_any xs (.slice xa xs.length xc) false ⟨fun e => (by cases e), fun e => absurd e hou⟩ lx Z (layStringS.below HX.out B1.out))
      go_wp2_with fail
      refine (K.out).mono ?_
      rintro e Z9 ⟨rfl, hw⟩
      rw [hw]
      clear hw K Z9
      go_wp2_with fail
      go_meet
      exact ⟨true, rfl, (fun _ h => hou h.2.2.2.2.2.2.2.2.1), (fun h => by cases h), A1.out, B1.out⟩
    have K := Lib.hid (specTexts_any xs (.slice xa xs.length xc) true ⟨fun _ => hou, fun _ => rfl⟩ lx Z (layStringS.below HX.out B1.out))
    go_wp2_with fail
    refine (K.out).mono ?_
    rintro e Z9 ⟨rfl, hw⟩
    rw [hw]
    clear hw K Z9
    by_cases how : os.length ≤ 4
    rotate_left
    · have f_owes : ((4 : Int) < (os.length : Int)) := by omega
      go_wp2_with fail
      go_meet
      exact ⟨true, rfl, (fun _ h => how h.2.2.2.2.2.2.2.2.2), (fun h => by cases h), A1.out, B1.out⟩
    have f_owes : ¬ ((4 : Int) < (os.length : Int)) := by omega
    go_wp2_with fail
    go_meet
    exact ⟨false, (by simp only [Value.bool.injEq, Bool.or_eq_false_iff, decide_eq_false_iff_not]; exact ⟨by omega, by omega⟩), (fun h => by cases h), (fun _ => ⟨hme, hpe, hne, hfe, hqu, hse, hgo, hma, hou, how⟩), A1.out, B1.out⟩
  case rest =>
    obtain ⟨c, rfl, HT, HF, HV, HBE⟩ := hcut
    generalize wc = V at *
    clear A0 B0 c0 c1 c2 c3 c4 c5 c6 c7 c8 HQ HS HX
    cases c with
    | true =>
      obtain rfl : b = false := by
        cases b with
        | false => rfl
        | true => exact absurd (HB.out.1 rfl).1 (HT.out rfl)
      go_wp2_with fail
      go_ret
      exact ⟨rfl, HBE.out⟩
    | false =>
      have HFR := Lib.hid (HF.out rfl)
      have hgot := HFR.out.2.2.2.2.2.2.1
      have hg2 : IntKind.i64.wrap (got + 2) = got + 2 := by rw [IntKind.wrap_i64]; omega
      have hg4 : IntKind.i64.wrap (got + 4) = got + 4 := by rw [IntKind.wrap_i64]; omega
      clear HT HF
      go_wp2_with fail
      go_loopw [3] (fun c wr => ∃ j : Nat, j ≤ es.length ∧ c = .int .i64 j ∧ Hid (∀ i x, i < j → es[i]? = some x → EarlyAt got es i x) ∧ VarA w.heap.size ChanT #[.int .i64 me, .int .i64 peer, .int .i64 next, .slice qa qs.length qc, .slice sa ss.length sc, .int .i64 got, .slice ea es.length ec, .slice oa os.length oc, .slice xa xs.length xc] wr ∧ Below w.heap.size w wr) (fun c _ => es.length - (intOf c).toNat)
      case atStart => exact ⟨0, Nat.zero_le _, rfl, fun i x h => absurd h (by omega), HV.out, HBE.out⟩
      case round =>
        obtain ⟨j, hj, rfl, HA, hA, hBe⟩ := hrel
        obtain ⟨W, hW⟩ : ∃ X, X = wr := ⟨_, rfl⟩
        subst hW
        have HVW := Lib.hid hA
        have HBW := Lib.hid hBe
        clear hA hBe HV HBE
        have t5 : W.cell? ⟨w.heap.size, 5, none⟩ = some (.int .i64 got) := HVW.out.cell 5
        have t6 : W.cell? ⟨w.heap.size, 6, none⟩ = some (.slice ea es.length ec) := HVW.out.cell 6
        by_cases hlt : j < es.length
        · have hlt' : (j : Int) < (es.length : Int) := by omega
          have hx := List.getElem?_eq_getElem hlt
          have HXX : Hid (¬ EarlyAt got es j es[j] → b = false) := fun h => by
            cases b with
            | false => rfl
            | true => exact absurd ((HB.out.1 rfl).2.1 _ _ hx) h
          have HNX : Hid (EarlyAt got es j es[j] → ∀ i x, i < j + 1 → es[i]? = some x → EarlyAt got es i x) := fun h i x hi hx2 => by
            rcases Nat.lt_or_ge i j with h2 | h2
            · exact HA.out i x h2 hx2
            · have : i = j := by omega
              subst this
              rw [hx] at hx2
              cases hx2
              exact h
          have HEL := Lib.hid (fun (i : Nat) x (hi : es[i]? = some x) => rows_elem (layEarlyS.below HE.out HBW.out) i x hi)
          obtain ⟨g, off, cs, rfl, hg, hr, hc⟩ := HEL.out j _ hx
          generalize es[j] = x at hr HXX HNX
          rw [layEarly_rd] at hr
          subst hr
          obtain ⟨x0, x1⟩ := x
          have d0 : W.cell? ⟨g, off + j * 2, none⟩ = some (.int .i64 x0) := hc 0 _ rfl
          have d1 : W.cell? ⟨g, off + j * 2 + 1, none⟩ = some (.string x1) := hc 1 _ rfl
          obtain ⟨prev, HPR, hpw⟩ : ∃ p : Int, Hid (0 < j → ∀ y, es[j - 1]? = some y → y.1 = p) ∧ (0 < j → W.cell? ⟨g, off + (j - 1) * 2, none⟩ = some (.int .i64 p)) := by
            by_cases h0 : 0 < j
            · have hy := List.getElem?_eq_getElem (show j - 1 < es.length by omega)
              obtain ⟨g', off', cs', e9, _, hr', hc'⟩ := HEL.out (j - 1) _ hy
              simp only [Option.some.injEq, Addr.mk.injEq, and_true] at e9
              obtain ⟨rfl, rfl⟩ := e9
              rw [layEarly_rd] at hr'
              subst hr'
              exact ⟨(es[j - 1]).1, fun _ y hy2 => by rw [hy] at hy2; cases hy2; rfl, fun _ => hc' 0 _ rfl⟩
            · exact ⟨0, fun h => absurd h h0, fun h => absurd h h0⟩
          clear hc hx HEL
          obtain ⟨b1, H1⟩ : ∃ c : Bool, c = true ↔ (got + 2 ≤ x0 ∧ x0 ≤ got + 4) := ⟨decide _, decide_eq_true_iff⟩
          have K1 := Lib.hid (inRange_bool x0 (got + 2) (got + 4) b1 H1)
          have HAT : Hid (EarlyAt got es j (x0, x1) ↔ (b1 = true ∧ (0 < j → prev < x0) ∧ x1.size ≤ 120)) := by
            show _ ↔ _
            rw [H1]
            constructor
            · rintro ⟨a1, a2, a3⟩
              refine ⟨a1, fun h0 => ?_, a3⟩
              have hy := List.getElem?_eq_getElem (show j - 1 < es.length by omega)
              rw [← HPR.out h0 _ hy]
              exact a2 h0 _ hy
            · rintro ⟨a1, a2, a3⟩
              exact ⟨a1, fun h0 y hy => by rw [HPR.out h0 y hy]; exact a2 h0, a3⟩
          clear H1 HPR
          cases b1 with
          | false =>
            obtain rfl := HXX.out (fun h => by cases (HAT.out.1 h).1)
            go_wp2_with fail
            go_quiet ((go_at_call 30; exact Calls.quiet_of_same (K1.out _)))
            go_wp2_with fail
            go_ret
            exact ⟨rfl, below_drewN HBW.out _⟩
          | true =>
            by_cases h0 : 0 < j
            · have p0 := hpw h0
              have h0' : (0 : Int) < (j : Int) := by omega
              obtain ⟨i, hi⟩ : ∃ i : Nat, i = j - 1 := ⟨_, rfl⟩
              have hwi : IntKind.i64.wrap ((j : Int) - 1) = (i : Int) := by rw [IntKind.wrap_i64]; omega
              have hil : (i : Int) < (es.length : Int) := by omega
              rw [← hi] at p0
              clear hi
              by_cases hp : prev < x0
              · have hp' : ¬ (x0 ≤ prev) := by omega
                by_cases hs : x1.size ≤ 120
                · have hs' : ¬ ((120 : Int) < (x1.size : Int)) := by omega
                  have HJ := Lib.hid (HNX.out (HAT.out.2 ⟨rfl, (fun _ => hp), hs⟩))
                  go_wp2_with fail
                  go_quiet ((go_at_call 30; exact Calls.quiet_of_same (K1.out _)))
                  go_wp2_with fail
                  go_roundw
                  case rel => exact ⟨j + 1, by omega, by go_num, HJ, HVW.out.next (below_drewN (Below.refl _ _) _), below_drewN HBW.out _⟩
                  case measure => simp [intOf]; omega
                · have hs' : (120 : Int) < (x1.size : Int) := by omega
                  obtain rfl := HXX.out (fun h => hs (HAT.out.1 h).2.2)
                  go_wp2_with fail
                  go_quiet ((go_at_call 30; exact Calls.quiet_of_same (K1.out _)))
                  go_wp2_with fail
                  go_ret
                  exact ⟨rfl, below_drewN HBW.out _⟩
              · have hp' : x0 ≤ prev := by omega
                obtain rfl := HXX.out (fun h => hp ((HAT.out.1 h).2.1 h0))
                go_wp2_with fail
                go_quiet ((go_at_call 30; exact Calls.quiet_of_same (K1.out _)))
                go_wp2_with fail
                go_ret
                exact ⟨rfl, below_drewN HBW.out _⟩
            · have h0' : ¬ ((0 : Int) < (j : Int)) := by omega
              by_cases hs : x1.size ≤ 120
              · have hs' : ¬ ((120 : Int) < (x1.size : Int)) := by omega
                have HJ := Lib.hid (HNX.out (HAT.out.2 ⟨rfl, (fun h => absurd h h0), hs⟩))
                go_wp2_with fail
                go_quiet ((go_at_call 30; exact Calls.quiet_of_same (K1.out _)))
                go_wp2_with fail
                go_roundw
                case rel => exact ⟨j + 1, by omega, by go_num, HJ, HVW.out.next (below_drewN (Below.refl _ _) _), below_drewN HBW.out _⟩
                case measure => simp [intOf]; omega
              · have hs' : (120 : Int) < (x1.size : Int) := by omega
                obtain rfl := HXX.out (fun h => hs (HAT.out.1 h).2.2)
                go_wp2_with fail
                go_quiet ((go_at_call 30; exact Calls.quiet_of_same (K1.out _)))
                go_wp2_with fail
                go_ret
                exact ⟨rfl, below_drewN HBW.out _⟩
        · have hlt' : ¬ ((j : Int) < (es.length : Int)) := by omega
          have HEA : Hid (EarlyOk got es) := fun i x hx => HA.out i x (by have := (List.getElem?_eq_some_iff.1 hx).1; omega) hx
          go_wp2_with fail
          clear HA t5 t6
          go_loopw [4] (fun c wr => ∃ k : Nat, k ≤ os.length ∧ c = .int .i64 k ∧ Hid (∀ i, (hi : i < os.length) → i < k → 1 ≤ os[i] ∧ os[i] ≤ got + 4) ∧ VarA w.heap.size ChanT #[.int .i64 me, .int .i64 peer, .int .i64 next, .slice qa qs.length qc, .slice sa ss.length sc, .int .i64 got, .slice ea es.length ec, .slice oa os.length oc, .slice xa xs.length xc] wr ∧ Below w.heap.size w wr) (fun c _ => os.length - (intOf c).toNat)
          case atStart => exact ⟨0, Nat.zero_le _, rfl, fun i _ h => absurd h (by omega), HVW.out, HBW.out⟩
          case round =>
            obtain ⟨k, hk, rfl, HA, hA, hBe⟩ := hrel
            have HVU := Lib.hid hA
            have HBU := Lib.hid hBe
            clear hA hBe HVW HBW
            have t5 : wr.cell? ⟨w.heap.size, 5, none⟩ = some (.int .i64 got) := HVU.out.cell 5
            have t7 : wr.cell? ⟨w.heap.size, 7, none⟩ = some (.slice oa os.length oc) := HVU.out.cell 7
            by_cases hlt2 : k < os.length
            · have hlt3 : (k : Int) < (os.length : Int) := by omega
              obtain ⟨g, off, cap, hv, hg, hcell⟩ := ints_get (layIntS.below HO.out HBU.out) k hlt2
              simp only [Value.slice.injEq] at hv
              obtain ⟨rfl, -, rfl⟩ := hv
              have HXX : Hid (¬ (1 ≤ os[k] ∧ os[k] ≤ got + 4) → b = false) := fun h => by
                cases b with
                | false => rfl
                | true => exact absurd ((HB.out.1 rfl).2.2 _ (List.getElem_mem hlt2)) h
              have HNX : Hid ((1 ≤ os[k] ∧ os[k] ≤ got + 4) → ∀ i, (hi : i < os.length) → i < k + 1 → 1 ≤ os[i] ∧ os[i] ≤ got + 4) := fun hx i hi h => by
                rcases Nat.lt_or_ge i k with h2 | h2
                · exact HA.out i hi h2
                · have : i = k := by omega
                  subst this
                  exact hx
              generalize os[k] = y at hcell HXX HNX
              by_cases hy : 1 ≤ y ∧ y ≤ got + 4
              · have K1 := Lib.hid (inRange_yes y 1 (got + 4) hy.1 hy.2)
                have HJ := Lib.hid (HNX.out hy)
                go_wp2_with fail
                go_quiet ((go_at_call 30; exact Calls.quiet_of_same (K1.out _)))
                go_wp2_with fail
                go_roundw
                case rel => exact ⟨k + 1, by omega, by go_num, HJ, HVU.out.next (below_drewN (Below.refl _ _) _), below_drewN HBU.out _⟩
                case measure => simp [intOf]; omega
              · have K1 := Lib.hid (inRange_no y 1 (got + 4) (by omega))
                obtain rfl := HXX.out hy
                go_wp2_with fail
                go_quiet ((go_at_call 30; exact Calls.quiet_of_same (K1.out _)))
                go_wp2_with fail
                go_ret
                exact ⟨rfl, below_drewN HBU.out _⟩
            · have hlt3 : ¬ ((k : Int) < (os.length : Int)) := by omega
              obtain rfl : b = true := HB.out.2 ⟨HFR.out, HEA.out, fun x hx => by
                obtain ⟨i, hi, rfl⟩ := List.getElem_of_mem hx
                exact HA.out i hi (by omega)⟩
              go_wp2_with fail
              go_ret
              exact ⟨rfl, HBU.out⟩

end Go.Proofs.Ythljmjbmmgligar
