/-
  Who somebody is: the program's isWho.
  The program's isBody and areBodies.
  The program's areSentRight.
-/
import Derived.Test.YthljmjbmmgligarJ01
import Derived.Test.YthljmjbmmgligarRows
import Derived.Deep.DeepCutAuto
import Derived.Test.YthljmjbmmgligarJ15
namespace Go.Proofs.Ythljmjbmmgligar
open Go.RowKit

theorem isWho_yes (x : Int) (h0 : 1 ≤ x) (h1 : x ≤ 99) (w : World) : Calls Try.prog 31 #[.int .i64 x] w fun e w' => e = .returned (.bool true) ∧ w' = w := by
  go_enter Try.func31, Try.ntmps31
  go_wp2_with fail
  go_ret
  exact ⟨rfl, rfl⟩
theorem isWho_no (x : Int) (h : ¬ (1 ≤ x ∧ x ≤ 99)) (w : World) : Calls Try.prog 31 #[.int .i64 x] w fun e w' => e = .returned (.bool false) ∧ w' = w := by
  by_cases h0 : 1 ≤ x
  · have h1 : ¬ x ≤ 99 := fun h1 => h ⟨h0, h1⟩
    clear h
    go_enter Try.func31, Try.ntmps31
    go_wp2_with fail
    go_ret
    exact ⟨rfl, rfl⟩
  · clear h
    go_enter Try.func31, Try.ntmps31
    go_wp2_with fail
    go_ret
    exact ⟨rfl, rfl⟩
theorem isWho_any (x : Int) (b : Bool) (hb : b = true ↔ (1 ≤ x ∧ x ≤ 99)) (w : World) : Calls Try.prog 31 #[.int .i64 x] w fun e w' => e = .returned (.bool b) ∧ w' = w := by
  cases b with
  | true => exact isWho_yes x (hb.1 rfl).1 (hb.1 rfl).2 w
  | false => exact isWho_no x (fun h => by cases hb.2 h) w

end Go.Proofs.Ythljmjbmmgligar
namespace Go.Proofs.Ythljmjbmmgligar
open Go.RowKit

theorem isBody_bool (t : ByteArray) (b : Bool) (hb : b = true ↔ t.size ≤ 120) (w : World) :
    Calls Try.prog 60 #[.string t] w fun e w' => e = .returned (.bool b) ∧ w' = w := by
  cases b with
  | true =>
    have h1 : (t.size : Int) ≤ 120 := by have := hb.1 rfl; omega
    go_enter Try.func60, Try.ntmps60
    go_wp2_with fail
    go_ret
    exact ⟨rfl, rfl⟩
  | false =>
    have h1 : ¬ ((t.size : Int) ≤ 120) := fun h => by have := hb.2 (by omega); cases this
    go_enter Try.func60, Try.ntmps60
    go_wp2_with fail
    go_ret
    exact ⟨rfl, rfl⟩

set_option maxRecDepth 100000 in
set_option maxHeartbeats 800000 in
theorem areBodies_any (xs : List ByteArray) (v : Value) (b : Bool) (hb : b = true ↔ TextsOk xs) (hl : xs.length ≤ 100000000) (w : World) (h : layStringS.rd w [v] xs) :
    Calls Try.prog 54 #[v] w fun e w' => e = .returned (.bool b) ∧ w' = w := by
  obtain ⟨ao, cp, rfl⟩ := rows_form h
  have HR := Lib.hid h
  have HB := Lib.hid hb
  clear h hb
  go_enter Try.func54, Try.ntmps54
  go_wp2_with fail
  go_loop [7] (fun c => ∃ j : Nat, j ≤ xs.length ∧ c = .int .i64 j ∧ Hid (∀ i, (hi : i < xs.length) → i < j → xs[i].size ≤ 120)) (fun c => xs.length - (intOf c).toNat)
  case atStart => exact ⟨0, Nat.zero_le _, rfl, fun i _ h => absurd h (by omega)⟩
  case round =>
    obtain ⟨j, hj, rfl, HA⟩ := hrel
    by_cases hlt : j < xs.length
    · have hlt' : (j : Int) < (xs.length : Int) := by omega
      have HX : Hid (¬ (xs[j].size ≤ 120) → b = false) := fun h => by
        cases b with
        | false => rfl
        | true => exact absurd (HB.out.1 rfl _ (List.getElem_mem hlt)) h
      have HNX : Hid (xs[j].size ≤ 120 → ∀ i, (hi : i < xs.length) → i < j + 1 → xs[i].size ≤ 120) := fun hx i hi h => by
        rcases Nat.lt_or_ge i j with h2 | h2
        · exact HA.out i hi h2
        · have : i = j := by omega
          subst this
          exact hx
      obtain ⟨g, off, cs, rfl, hg, hr, hc⟩ := rows_elem HR.out j _ (List.getElem?_eq_getElem hlt)
      generalize xs[j] = x at hr HX HNX
      rw [layString_rd] at hr
      subst hr
      have c0 : w.cell? ⟨g, off + j, none⟩ = some (.string x) := (by have h9 := hc 0 _ rfl; rw [str_k] at h9; exact h9)
      clear hc
      obtain ⟨bb, HBB⟩ : ∃ c : Bool, Hid (c = true ↔ x.size ≤ 120) := ⟨decide _, Lib.hid decide_eq_true_iff⟩
      have K := Lib.hid (isBody_bool x bb HBB.out)
      cases bb with
      | true =>
        have HJ := Lib.hid (HNX.out (HBB.out.1 rfl))
        go_wp2_with fail
        refine (K.out _).mono ?_
        rintro e w1 ⟨rfl, rfl⟩
        go_wp2_with fail
        go_round
        case rel => exact ⟨j + 1, by omega, by go_num, HJ⟩
        case measure => simp [intOf]; omega
      | false =>
        obtain rfl := HX.out (fun h => by cases HBB.out.2 h)
        go_wp2_with fail
        refine (K.out _).mono ?_
        rintro e w1 ⟨rfl, rfl⟩
        go_wp2_with fail
        go_ret
        exact ⟨rfl, rfl⟩
    · have hlt' : ¬ ((j : Int) < (xs.length : Int)) := by omega
      obtain rfl : b = true := HB.out.2 (fun x hx => by
        obtain ⟨i, hi, rfl⟩ := List.getElem_of_mem hx
        exact HA.out i hi (by omega))
      go_wp2_with fail
      go_ret
      exact ⟨rfl, rfl⟩

end Go.Proofs.Ythljmjbmmgligar
namespace Go.Proofs.Ythljmjbmmgligar
open Go.RowKit

set_option maxRecDepth 100000 in
set_option maxHeartbeats 6400000 in
theorem areSentRight_any (me peer next got : Int) (vq vs ve vo vx : Value) (ss : List PendingD) (b : Bool) (hb : b = true ↔ SentOk next ss) (hn : next ≤ 1000000000) (hl : ss.length ≤ 100000000) (w : World) (h : layPendingS.rd w [vs] ss) :
    Calls Try.prog 55 #[.agg #[.int .i64 me, .int .i64 peer, .int .i64 next, vq, vs, .int .i64 got, ve, vo, vx]] w fun e w' => e = .returned (.bool b) ∧ Below w.heap.size w w' := by
  obtain ⟨sa, sc, rfl⟩ := rows_form h
  have HR := Lib.hid h
  have HB := Lib.hid hb
  have A0 := Lib.hid (VarA.new w ChanT #[.int .i64 me, .int .i64 peer, .int .i64 next, vq, .slice sa ss.length sc, .int .i64 got, ve, vo, vx])
  have B0 := Lib.hid ((Below.refl w.heap.size w).alloc (Nat.le_refl _) (.cells #[.int .i64 me, .int .i64 peer, .int .i64 next, vq, .slice sa ss.length sc, .int .i64 got, ve, vo, vx] ChanT))
  clear h hb
  go_enter Try.func55, Try.ntmps55
  go_upto_region 1 with fail
  generalize w.alloc (.cells #[.int .i64 me, .int .i64 peer, .int .i64 next, vq, .slice sa ss.length sc, .int .i64 got, ve, vo, vx] ChanT) = Y at *
  have c4 : Y.cell? ⟨w.heap.size, 4, none⟩ = some (.slice sa ss.length sc) := A0.out.cell 4
  have c5 : Y.cell? ⟨w.heap.size, 5, none⟩ = some (.int .i64 got) := A0.out.cell 5
  by_cases hfew : ss.length ≤ 4
  case neg =>
    have hf1 : (4 : Int) < (ss.length : Int) := by omega
    obtain rfl : b = false := by
      cases b with
      | false => rfl
      | true => exact absurd (HB.out.1 rfl).1 hfew
    go_wp2_with fail
    go_ret
    exact ⟨rfl, B0.out⟩
  have hf1 : ¬ ((4 : Int) < (ss.length : Int)) := by omega
  go_wp2_with fail
  go_loopw [3, 13] (fun m c wr => ∃ (j : Nat) (z : Int), j ≤ ss.length ∧ c = .int .i64 j ∧ m = .int .i64 z ∧ 1 ≤ z ∧ z ≤ 2000000000 ∧ Hid ((j = 0 → z = 1) ∧ (0 < j → ∀ y, ss[j - 1]? = some y → z = y.1 + 1)) ∧ Hid (∀ i x, i < j → ss[i]? = some x → SentAt next ss i x) ∧ VarA w.heap.size ChanT #[.int .i64 me, .int .i64 peer, .int .i64 next, vq, .slice sa ss.length sc, .int .i64 got, ve, vo, vx] wr ∧ Below w.heap.size w wr) (fun _ c _ => ss.length - (intOf c).toNat)
  case atStart => exact ⟨0, 1, Nat.zero_le _, rfl, rfl, by omega, by omega, Lib.hid ⟨fun _ => rfl, fun h => absurd h (by omega)⟩, Lib.hid (fun i x h => absurd h (by omega)), A0.out, B0.out⟩
  case round =>
    obtain ⟨j, z, hj, rfl, rfl, hz1, hz2, HZ, HA, hA, hBe⟩ := hrel
    have HV := Lib.hid hA
    have HBE := Lib.hid hBe
    clear hA hBe A0 B0 c4 c5
    by_cases hlt : j < ss.length
    · have hlt' : (j : Int) < (ss.length : Int) := by omega
      have hx := List.getElem?_eq_getElem hlt
      have HX : Hid (¬ SentAt next ss j ss[j] → b = false) := fun h => by
        cases b with
        | false => rfl
        | true => exact absurd ((HB.out.1 rfl).2 _ _ hx) h
      have HNX : Hid (SentAt next ss j ss[j] → ∀ i x, i < j + 1 → ss[i]? = some x → SentAt next ss i x) := fun h i x hi hx2 => by
        rcases Nat.lt_or_ge i j with h2 | h2
        · exact HA.out i x h2 hx2
        · have : i = j := by omega
          subst this
          rw [hx] at hx2
          cases hx2
          exact h
      have HX1 : Hid (ss[j + 1 - 1]? = some ss[j]) := Lib.hid (by rw [Nat.add_sub_cancel]; exact hx)
      obtain ⟨g, off, cs, rfl, hg, hr, hc⟩ := rows_elem (layPendingS.below HR.out HBE.out) j _ hx
      generalize ss[j] = x at hr HX HNX HX1
      rw [layPending_rd] at hr
      subst hr
      obtain ⟨x0, x1, x2, x3⟩ := x
      have d0 : wr.cell? ⟨g, off + j * 4, none⟩ = some (.int .i64 x0) := hc 0 _ rfl
      have d1 : wr.cell? ⟨g, off + j * 4 + 1, none⟩ = some (.string x1) := hc 1 _ rfl
      have d2 : wr.cell? ⟨g, off + j * 4 + 2, none⟩ = some (.int .i64 x2) := hc 2 _ rfl
      have d3 : wr.cell? ⟨g, off + j * 4 + 3, none⟩ = some (.int .i64 x3) := hc 3 _ rfl
      have SV := Lib.hid (VarA.new wr PendingT #[.int .i64 x0, .string x1, .int .i64 x2, .int .i64 x3])
      have SB : Hid (Below wr.heap.size wr (wr.alloc (.cells #[.int .i64 x0, .string x1, .int .i64 x2, .int .i64 x3] PendingT))) := (Below.refl _ _).alloc (Nat.le_refl _) _
      clear hc hx
      go_upto_region 7 with fail
      generalize wr.alloc (.cells #[.int .i64 x0, .string x1, .int .i64 x2, .int .i64 x3] PendingT) = W at *
      have HVW := Lib.hid (HV.out.next SB.out)
      have HBW := Lib.hid (HBE.out.trans (SB.out.mono HBE.out.size))
      have s0 : W.cell? ⟨wr.heap.size, 0, none⟩ = some (.int .i64 x0) := SV.out.cell 0
      have s1 : W.cell? ⟨wr.heap.size, 1, none⟩ = some (.string x1) := SV.out.cell 1
      have s2 : W.cell? ⟨wr.heap.size, 2, none⟩ = some (.int .i64 x2) := SV.out.cell 2
      have s3 : W.cell? ⟨wr.heap.size, 3, none⟩ = some (.int .i64 x3) := SV.out.cell 3
      have t2 : W.cell? ⟨w.heap.size, 2, none⟩ = some (.int .i64 next) := HVW.out.cell 2
      have t5 : W.cell? ⟨w.heap.size, 5, none⟩ = some (.int .i64 got) := HVW.out.cell 5
      clear d0 d1 d2 d3 SV SB HV HBE
      generalize wr.heap.size = q at *
      obtain ⟨bb, HBB⟩ : ∃ c : Bool, Hid (c = true ↔ x1.size ≤ 120) := ⟨decide _, Lib.hid decide_eq_true_iff⟩
      have K := Lib.hid (isBody_bool x1 bb HBB.out)
      have HAT : Hid (SentAt next ss j (x0, x1, x2, x3) ↔ (z ≤ x0 ∧ x0 ≤ next ∧ bb = true ∧ 0 ≤ x2 ∧ x2 ≤ 1000000000 ∧ 1 ≤ x3 ∧ x3 ≤ 8)) := Lib.hid (by
        rw [HBB.out]
        have hz := HZ.out
        constructor
        · rintro ⟨⟨a0, a1⟩, a2, ⟨a3, a4⟩, ⟨a5, a6⟩, a7⟩
          refine ⟨?_, a1, a7, a3, a4, a5, a6⟩
          by_cases h0 : 0 < j
          · have hy := List.getElem?_eq_getElem (show j - 1 < ss.length by omega)
            have h1 := a2 h0 _ hy
            have h2 := hz.2 h0 _ hy
            show z ≤ x0
            have h3 : (ss[j - 1]).1 < x0 := h1
            omega
          · have := hz.1 (by omega)
            show z ≤ x0
            have h3 : 1 ≤ x0 := a0
            omega
        · rintro ⟨a0, a1, a7, a3, a4, a5, a6⟩
          refine ⟨⟨by show 1 ≤ x0; omega, a1⟩, fun h0 y hy => ?_, ⟨a3, a4⟩, ⟨a5, a6⟩, a7⟩
          have h2 := hz.2 h0 y hy
          show y.1 < x0
          omega)
      by_cases hc0 : z ≤ x0
      · have hd0 : ¬ (x0 < z) := by omega
        by_cases hc1 : x0 ≤ next
        · have hd1 : ¬ (next < x0) := by omega
          cases bb with
          | false =>
            obtain rfl := HX.out (fun h => by cases (HAT.out.1 h).2.2.1)
            go_wp2_with fail
            refine (K.out _).mono ?_
            rintro e w1 ⟨rfl, rfl⟩
            go_wp2_with fail
            go_ret
            exact ⟨rfl, HBW.out⟩
          | true =>
            by_cases hc3 : 0 ≤ x2
            · have hd3 : ¬ (x2 < 0) := by omega
              by_cases hc4 : x2 ≤ 1000000000
              · have hd4 : ¬ ((1000000000 : Int) < x2) := by omega
                by_cases hc5 : 1 ≤ x3
                · have hd5 : ¬ (x3 < 1) := by omega
                  by_cases hc6 : x3 ≤ 8
                  · have hd6 : ¬ ((8 : Int) < x3) := by omega
                    have HJ := Lib.hid (HNX.out (HAT.out.2 ⟨hc0, hc1, rfl, hc3, hc4, hc5, hc6⟩))
                    have HZ2 : Hid ((j + 1 = 0 → x0 + 1 = 1) ∧ (0 < j + 1 → ∀ y, ss[j + 1 - 1]? = some y → x0 + 1 = y.1 + 1)) := Lib.hid ⟨fun h => absurd h (by omega), fun _ y hy => by rw [HX1.out] at hy; cases hy; rfl⟩
                    have hzz : x0 + 1 ≤ 2000000000 := by omega
                    have hzy : 1 ≤ x0 + 1 := by omega
                    go_wp2_with fail
                    refine (K.out _).mono ?_
                    rintro e w1 ⟨rfl, rfl⟩
                    go_wp2_with fail
                    go_roundw
                    case rel => exact ⟨j + 1, x0 + 1, by omega, by go_num, by go_num, hzy, hzz, HZ2, HJ, HVW.out, HBW.out⟩
                    case measure => simp [intOf]; omega
                  · have hd6 : (8 : Int) < x3 := by omega
                    obtain rfl := HX.out (fun h => hc6 (HAT.out.1 h).2.2.2.2.2.2)
                    go_wp2_with fail
                    refine (K.out _).mono ?_
                    rintro e w1 ⟨rfl, rfl⟩
                    go_wp2_with fail
                    go_ret
                    exact ⟨rfl, HBW.out⟩
                · have hd5 : x3 < 1 := by omega
                  obtain rfl := HX.out (fun h => hc5 (HAT.out.1 h).2.2.2.2.2.1)
                  go_wp2_with fail
                  refine (K.out _).mono ?_
                  rintro e w1 ⟨rfl, rfl⟩
                  go_wp2_with fail
                  go_ret
                  exact ⟨rfl, HBW.out⟩
              · have hd4 : (1000000000 : Int) < x2 := by omega
                obtain rfl := HX.out (fun h => hc4 (HAT.out.1 h).2.2.2.2.1)
                go_wp2_with fail
                refine (K.out _).mono ?_
                rintro e w1 ⟨rfl, rfl⟩
                go_wp2_with fail
                go_ret
                exact ⟨rfl, HBW.out⟩
            · have hd3 : x2 < 0 := by omega
              obtain rfl := HX.out (fun h => hc3 (HAT.out.1 h).2.2.2.1)
              go_wp2_with fail
              refine (K.out _).mono ?_
              rintro e w1 ⟨rfl, rfl⟩
              go_wp2_with fail
              go_ret
              exact ⟨rfl, HBW.out⟩
        · have hd1 : next < x0 := by omega
          obtain rfl := HX.out (fun h => hc1 (HAT.out.1 h).2.1)
          go_wp2_with fail
          go_ret
          exact ⟨rfl, HBW.out⟩
      · have hd0 : x0 < z := by omega
        obtain rfl := HX.out (fun h => hc0 (HAT.out.1 h).1)
        go_wp2_with fail
        go_ret
        exact ⟨rfl, HBW.out⟩
    · have hlt' : ¬ ((j : Int) < (ss.length : Int)) := by omega
      obtain rfl : b = true := HB.out.2 ⟨hfew, fun i x hx => HA.out i x (by have := (List.getElem?_eq_some_iff.1 hx).1; omega) hx⟩
      go_wp2_with fail
      go_ret
      exact ⟨rfl, HBE.out⟩

end Go.Proofs.Ythljmjbmmgligar
