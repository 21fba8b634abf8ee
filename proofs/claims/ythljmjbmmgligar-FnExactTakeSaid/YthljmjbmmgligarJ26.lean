/-
  The program's areEarlyRight.
  The program's isInReach and areOwedRight.
-/
import Derived.Test.YthljmjbmmgligarJ25
namespace Go.Proofs.Ythljmjbmmgligar
open Go.RowKit

set_option maxRecDepth 100000 in
set_option maxHeartbeats 6400000 in
theorem areEarlyRight_any (me peer next got : Int) (vq vs ve vo vx : Value) (es : List EarlyD) (b : Bool) (hb : b = true ↔ EarlyOk got es) (hg0 : 0 ≤ got) (hg1 : got ≤ 1000000) (hl : es.length ≤ 100000000) (w : World) (h : layEarlyS.rd w [ve] es) :
    Calls Try.prog 56 #[.agg #[.int .i64 me, .int .i64 peer, .int .i64 next, vq, vs, .int .i64 got, ve, vo, vx]] w fun e w' => e = .returned (.bool b) ∧ Below w.heap.size w w' := by
  obtain ⟨sa, sc, rfl⟩ := rows_form h
  have HR := Lib.hid h
  have HB := Lib.hid hb
  have A0 := Lib.hid (VarA.new w ChanT #[.int .i64 me, .int .i64 peer, .int .i64 next, vq, vs, .int .i64 got, .slice sa es.length sc, vo, vx])
  have B0 := Lib.hid ((Below.refl w.heap.size w).alloc (Nat.le_refl _) (.cells #[.int .i64 me, .int .i64 peer, .int .i64 next, vq, vs, .int .i64 got, .slice sa es.length sc, vo, vx] ChanT))
  clear h hb
  go_enter Try.func56, Try.ntmps56
  go_upto_region 1 with fail
  generalize w.alloc (.cells #[.int .i64 me, .int .i64 peer, .int .i64 next, vq, vs, .int .i64 got, .slice sa es.length sc, vo, vx] ChanT) = Y at *
  have c4 : Y.cell? ⟨w.heap.size, 6, none⟩ = some (.slice sa es.length sc) := A0.out.cell 6
  have c5 : Y.cell? ⟨w.heap.size, 5, none⟩ = some (.int .i64 got) := A0.out.cell 5
  go_wp2_with fail
  go_loopw [3, 12] (fun m c wr => ∃ (j : Nat) (z : Int), j ≤ es.length ∧ c = .int .i64 j ∧ m = .int .i64 z ∧ got + 2 ≤ z ∧ z ≤ 2000000000 ∧ Hid ((j = 0 → z = (got + 2)) ∧ (0 < j → ∀ y, es[j - 1]? = some y → z = y.1 + 1)) ∧ Hid (∀ i x, i < j → es[i]? = some x → EarlyAt got es i x) ∧ VarA w.heap.size ChanT #[.int .i64 me, .int .i64 peer, .int .i64 next, vq, vs, .int .i64 got, .slice sa es.length sc, vo, vx] wr ∧ Below w.heap.size w wr) (fun _ c _ => es.length - (intOf c).toNat)
  case atStart => exact ⟨0, (got + 2), Nat.zero_le _, rfl, by go_num, by omega, by omega, Lib.hid ⟨fun _ => rfl, fun h => absurd h (by omega)⟩, Lib.hid (fun i x h => absurd h (by omega)), A0.out, B0.out⟩
  case round =>
    obtain ⟨j, z, hj, rfl, rfl, hz1, hz2, HZ, HA, hA, hBe⟩ := hrel
    have HV := Lib.hid hA
    have HBE := Lib.hid hBe
    clear hA hBe A0 B0 c4 c5
    by_cases hlt : j < es.length
    · have hlt' : (j : Int) < (es.length : Int) := by omega
      have hx := List.getElem?_eq_getElem hlt
      have HX : Hid (¬ EarlyAt got es j es[j] → b = false) := fun h => by
        cases b with
        | false => rfl
        | true => exact absurd ((HB.out.1 rfl) _ _ hx) h
      have HNX : Hid (EarlyAt got es j es[j] → ∀ i x, i < j + 1 → es[i]? = some x → EarlyAt got es i x) := fun h i x hi hx2 => by
        rcases Nat.lt_or_ge i j with h2 | h2
        · exact HA.out i x h2 hx2
        · have : i = j := by omega
          subst this
          rw [hx] at hx2
          cases hx2
          exact h
      have HX1 : Hid (es[j + 1 - 1]? = some es[j]) := Lib.hid (by rw [Nat.add_sub_cancel]; exact hx)
      obtain ⟨g, off, cs, rfl, hg, hr, hc⟩ := rows_elem (layEarlyS.below HR.out HBE.out) j _ hx
      generalize es[j] = x at hr HX HNX HX1
      rw [layEarly_rd] at hr
      subst hr
      obtain ⟨x0, x1⟩ := x
      have d0 : wr.cell? ⟨g, off + j * 2, none⟩ = some (.int .i64 x0) := hc 0 _ rfl
      have d1 : wr.cell? ⟨g, off + j * 2 + 1, none⟩ = some (.string x1) := hc 1 _ rfl
      have SV := Lib.hid (VarA.new wr EarlyT #[.int .i64 x0, .string x1])
      have SB : Hid (Below wr.heap.size wr (wr.alloc (.cells #[.int .i64 x0, .string x1] EarlyT))) := (Below.refl _ _).alloc (Nat.le_refl _) _
      clear hc hx
      go_upto_region 5 with fail
      generalize wr.alloc (.cells #[.int .i64 x0, .string x1] EarlyT) = W at *
      have HVW := Lib.hid (HV.out.next SB.out)
      have HBW := Lib.hid (HBE.out.trans (SB.out.mono HBE.out.size))
      have s0 : W.cell? ⟨wr.heap.size, 0, none⟩ = some (.int .i64 x0) := SV.out.cell 0
      have s1 : W.cell? ⟨wr.heap.size, 1, none⟩ = some (.string x1) := SV.out.cell 1
      have t2 : W.cell? ⟨w.heap.size, 2, none⟩ = some (.int .i64 next) := HVW.out.cell 2
      have t5 : W.cell? ⟨w.heap.size, 5, none⟩ = some (.int .i64 got) := HVW.out.cell 5
      clear d0 d1 SV SB HV HBE
      generalize wr.heap.size = q at *
      obtain ⟨bb, HBB⟩ : ∃ c : Bool, Hid (c = true ↔ x1.size ≤ 120) := ⟨decide _, Lib.hid decide_eq_true_iff⟩
      have K := Lib.hid (isBody_bool x1 bb HBB.out)
      have HAT : Hid (EarlyAt got es j (x0, x1) ↔ (z ≤ x0 ∧ x0 ≤ got + 4 ∧ bb = true)) := Lib.hid (by
        rw [HBB.out]
        have hz := HZ.out
        constructor
        · rintro ⟨⟨a0, a1⟩, a2, a7⟩
          refine ⟨?_, a1, a7⟩
          by_cases h0 : 0 < j
          · have hy := List.getElem?_eq_getElem (show j - 1 < es.length by omega)
            have h1 := a2 h0 _ hy
            have h2 := hz.2 h0 _ hy
            show z ≤ x0
            have h3 : (es[j - 1]).1 < x0 := h1
            omega
          · have := hz.1 (by omega)
            show z ≤ x0
            have h3 : got + 2 ≤ x0 := a0
            omega
        · rintro ⟨a0, a1, a7⟩
          refine ⟨⟨by show got + 2 ≤ x0; omega, a1⟩, fun h0 y hy => ?_, a7⟩
          have h2 := hz.2 h0 y hy
          show y.1 < x0
          omega)
      by_cases hc0 : z ≤ x0
      · have hd0 : ¬ (x0 < z) := by omega
        by_cases hc1 : x0 ≤ got + 4
        · have hd1 : ¬ (got + 4 < x0) := by omega
          cases bb with
          | false =>
            obtain rfl := HX.out (fun h => by cases (HAT.out.1 h).2.2)
            go_wp2_with fail
            refine (K.out _).mono ?_
            rintro e w1 ⟨rfl, rfl⟩
            go_wp2_with fail
            go_ret
            exact ⟨rfl, HBW.out⟩
          | true =>
            have HJ := Lib.hid (HNX.out (HAT.out.2 ⟨hc0, hc1, rfl⟩))
            have HZ2 : Hid ((j + 1 = 0 → x0 + 1 = (got + 2)) ∧ (0 < j + 1 → ∀ y, es[j + 1 - 1]? = some y → x0 + 1 = y.1 + 1)) := Lib.hid ⟨fun h => absurd h (by omega), fun _ y hy => by rw [HX1.out] at hy; cases hy; rfl⟩
            have hzz : x0 + 1 ≤ 2000000000 := by omega
            have hzy : got + 2 ≤ x0 + 1 := by omega
            go_wp2_with fail
            refine (K.out _).mono ?_
            rintro e w1 ⟨rfl, rfl⟩
            go_wp2_with fail
            go_roundw
            case rel => exact ⟨j + 1, x0 + 1, by omega, by go_num, by go_num, hzy, hzz, HZ2, HJ, HVW.out, HBW.out⟩
            case measure => simp [intOf]; omega
        · have hd1 : got + 4 < x0 := by omega
          obtain rfl := HX.out (fun h => hc1 (HAT.out.1 h).2.1)
          go_wp2_with fail
          go_ret
          exact ⟨rfl, HBW.out⟩
      · have hd0 : x0 < z := by omega
        obtain rfl := HX.out (fun h => hc0 (HAT.out.1 h).1)
        go_wp2_with fail
        go_ret
        exact ⟨rfl, HBW.out⟩
    · have hlt' : ¬ ((j : Int) < (es.length : Int)) := by omega
      obtain rfl : b = true := HB.out.2 (fun i x hx => HA.out i x (by have := (List.getElem?_eq_some_iff.1 hx).1; omega) hx)
      go_wp2_with fail
      go_ret
      exact ⟨rfl, HBE.out⟩

end Go.Proofs.Ythljmjbmmgligar
namespace Go.Proofs.Ythljmjbmmgligar
open Go.RowKit

theorem isInReach_any (G : Nat) (got num : Int) (hg0 : 0 ≤ got) (hg1 : got ≤ 1000000) (b : Bool) (hb : b = true ↔ (1 ≤ num ∧ num ≤ got + 4)) (w : World) (h : w.cell? ⟨G, 5, none⟩ = some (.int .i64 got)) :
    Calls Try.prog 80 #[.pointer (some ⟨G, 0, none⟩), .int .i64 num] w fun e w' => e = .returned (.bool b) ∧ w' = w := by
  by_cases h1 : 1 ≤ num
  · have h1' : (1 : Int) ≤ num := h1
    by_cases h2 : num ≤ got + 4
    · obtain rfl := hb.2 ⟨h1, h2⟩
      clear hb
      go_enter Try.func80, Try.ntmps80
      go_wp2_with fail
      go_ret
      exact ⟨rfl, rfl⟩
    · obtain rfl : b = false := by
        cases b with
        | false => rfl
        | true => exact absurd (hb.1 rfl).2 h2
      clear hb
      go_enter Try.func80, Try.ntmps80
      go_wp2_with fail
      go_ret
      exact ⟨rfl, rfl⟩
  · obtain rfl : b = false := by
      cases b with
      | false => rfl
      | true => exact absurd (hb.1 rfl).1 h1
    clear hb
    go_enter Try.func80, Try.ntmps80
    go_wp2_with fail
    go_ret
    exact ⟨rfl, rfl⟩

set_option maxRecDepth 100000 in
set_option maxHeartbeats 1600000 in
theorem areOwedRight_any (me peer next got : Int) (vq vs ve vo vx : Value) (os : List Int) (b : Bool) (hb : b = true ↔ (os.length ≤ 4 ∧ OwedOk got os)) (hg0 : 0 ≤ got) (hg1 : got ≤ 1000000) (hl : os.length ≤ 100000000) (w : World) (h : layIntS.rd w [vo] os) :
    Calls Try.prog 57 #[.agg #[.int .i64 me, .int .i64 peer, .int .i64 next, vq, vs, .int .i64 got, ve, vo, vx]] w fun e w' => e = .returned (.bool b) ∧ Below w.heap.size w w' := by
  obtain ⟨oa, oc, rfl⟩ := rows_form h
  have HB := Lib.hid hb
  have A0 := Lib.hid (VarA.new w ChanT #[.int .i64 me, .int .i64 peer, .int .i64 next, vq, vs, .int .i64 got, ve, .slice oa os.length oc, vx])
  have B0 := Lib.hid ((Below.refl w.heap.size w).alloc (Nat.le_refl _) (.cells #[.int .i64 me, .int .i64 peer, .int .i64 next, vq, vs, .int .i64 got, ve, .slice oa os.length oc, vx] ChanT))
  have HR := Lib.hid (layIntS.below h B0.out)
  clear h hb
  go_enter Try.func57, Try.ntmps57
  go_upto_region 1 with fail
  generalize w.alloc (.cells #[.int .i64 me, .int .i64 peer, .int .i64 next, vq, vs, .int .i64 got, ve, .slice oa os.length oc, vx] ChanT) = Y at *
  have c7 : Y.cell? ⟨w.heap.size, 7, none⟩ = some (.slice oa os.length oc) := A0.out.cell 7
  have c5 : Y.cell? ⟨w.heap.size, 5, none⟩ = some (.int .i64 got) := A0.out.cell 5
  by_cases hfew : os.length ≤ 4
  case neg =>
    have hf1 : (4 : Int) < (os.length : Int) := by omega
    obtain rfl : b = false := by
      cases b with
      | false => rfl
      | true => exact absurd (HB.out.1 rfl).1 hfew
    go_wp2_with fail
    go_ret
    exact ⟨rfl, B0.out⟩
  have hf1 : ¬ ((4 : Int) < (os.length : Int)) := by omega
  go_wp2_with fail
  go_loop [12] (fun c => ∃ j : Nat, j ≤ os.length ∧ c = .int .i64 j ∧ Hid (∀ i, (hi : i < os.length) → i < j → 1 ≤ os[i] ∧ os[i] ≤ got + 4)) (fun c => os.length - (intOf c).toNat)
  case atStart => exact ⟨0, Nat.zero_le _, rfl, fun i _ h => absurd h (by omega)⟩
  case round =>
    obtain ⟨j, hj, rfl, HA⟩ := hrel
    by_cases hlt : j < os.length
    · have hlt' : (j : Int) < (os.length : Int) := by omega
      have HX : Hid (¬ (1 ≤ os[j] ∧ os[j] ≤ got + 4) → b = false) := fun h => by
        cases b with
        | false => rfl
        | true => exact absurd ((HB.out.1 rfl).2 _ (List.getElem_mem hlt)) h
      have HNX : Hid ((1 ≤ os[j] ∧ os[j] ≤ got + 4) → ∀ i, (hi : i < os.length) → i < j + 1 → 1 ≤ os[i] ∧ os[i] ≤ got + 4) := fun hx i hi h => by
        rcases Nat.lt_or_ge i j with h2 | h2
        · exact HA.out i hi h2
        · have : i = j := by omega
          subst this
          exact hx
      obtain ⟨g, off, cs, rfl, hg, hr, hc⟩ := rows_elem HR.out j _ (List.getElem?_eq_getElem hlt)
      generalize os[j] = x at hr HX HNX
      have hr' : cs = [.int .i64 x] := hr
      subst hr'
      have c0 : Y.cell? ⟨g, off + j, none⟩ = some (.int .i64 x) := (by have h9 := hc 0 _ rfl; rw [show j * Lay.int.k = j from Nat.mul_one j] at h9; exact h9)
      clear hc
      obtain ⟨bb, HBB⟩ : ∃ c : Bool, Hid (c = true ↔ (1 ≤ x ∧ x ≤ got + 4)) := ⟨decide _, Lib.hid decide_eq_true_iff⟩
      have K := Lib.hid (isInReach_any w.heap.size got x hg0 hg1 bb HBB.out Y c5)
      cases bb with
      | true =>
        have HJ := Lib.hid (HNX.out (HBB.out.1 rfl))
        go_wp2_with fail
        refine (K.out).mono ?_
        rintro e w1 ⟨rfl, rfl⟩
        go_wp2_with fail
        go_round
        case rel => exact ⟨j + 1, by omega, by go_num, HJ⟩
        case measure => simp [intOf]; omega
      | false =>
        obtain rfl := HX.out (fun h => by cases HBB.out.2 h)
        go_wp2_with fail
        refine (K.out).mono ?_
        rintro e w1 ⟨rfl, rfl⟩
        go_wp2_with fail
        go_ret
        exact ⟨rfl, B0.out⟩
    · have hlt' : ¬ ((j : Int) < (os.length : Int)) := by omega
      obtain rfl : b = true := HB.out.2 ⟨hfew, fun x hx => by
        obtain ⟨i, hi, rfl⟩ := List.getElem_of_mem hx
        exact HA.out i hi (by omega)⟩
      go_wp2_with fail
      go_ret
      exact ⟨rfl, B0.out⟩

end Go.Proofs.Ythljmjbmmgligar
