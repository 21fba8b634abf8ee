/-
  A text that is drawn as another one, spoilt or not.
  The given OptionsOk.
-/
import Derived.Test.YtmgdhlodifkemadDoorJ05
import Derived.Deep.RegionHeld3
import Derived.BigQuiet
import Derived.Deep.QuietTactic
import Derived.Test.YtmgdhlodifkemadDoorJ12
import Derived.Deep.CutBlock
namespace Go.Proofs.YtmgdhlodifkemadDoor
open Go.RowKit

set_option maxRecDepth 100000 in
set_option maxHeartbeats 1600000 in
theorem spoilt_any {c : Nat} {a : Option Addr} {len cap : Nat} (s : ByteArray) (hs : s.size ≤ 1000) (w : World) (H : Cur c a len cap w) :
    Calls Tryd.prog 40 #[.pointer (some ⟨c, 0, none⟩), .string s] w fun e w' => ∃ t : ByteArray, t.size ≤ 1001 ∧ e = .returned (.string t) ∧ Cur c a len cap w' ∧ Only c w w' := by
  have HC := Lib.hid H
  clear H
  go_enter Tryd.func40, Tryd.ntmps40
  go_wp2_with fail
  refine (below_any 12 (by omega) (by omega) _ HC.out).mono ?_
  rintro e w1 ⟨x, x0, x1, rfl, hc1, ho1⟩
  have HC1 := Lib.hid hc1
  have HO1 := Lib.hid ho1
  clear hc1 ho1
  have h4 : x = 0 ∨ x = 1 ∨ x = 2 ∨ x = 3 ∨ 4 ≤ x := by omega
  rcases h4 with rfl | rfl | rfl | rfl | hx4
  · go_wp2_with fail
    refine (text_any 1 (by omega) _ HC1.out).mono ?_
    rintro e w2 ⟨l, hl, rfl, hc2, ho2⟩
    have HC2 := Lib.hid hc2
    have HO2 := Lib.hid (HO1.out.trans ho2)
    obtain ⟨A, hA, AA⟩ : ∃ A : ByteArray, A.size = 1 ∧ Hid (A = ⟨l.toArray⟩) := ⟨_, by show l.toArray.size = 1; simpa using hl, rfl⟩
    rw [← AA.out]
    have h9 : ¬ (9223372036854775807 < s.size + A.size) := by omega
    clear hc2 ho2 hl
    go_wp2_with fail
    go_ret
    exact ⟨s ++ A, by rw [ByteArray.size_append]; omega, rfl, HC2.out, HO2.out⟩
  · go_wp2_with fail
    refine (below_any ((s.size : Int) + 1) (by omega) (by omega) _ HC1.out).mono ?_
    rintro e w2 ⟨y, y0, y1, rfl, hc2, ho2⟩
    have HC2 := Lib.hid hc2
    have HO2 := Lib.hid (HO1.out.trans ho2)
    obtain ⟨k, rfl⟩ := Int.eq_ofNat_of_zero_le y0
    have hk : (k : Int) ≤ (s.size : Int) := by omega
    clear hc2 ho2
    go_wp2_with fail
    go_ret
    exact ⟨_, by rw [ByteArray.size_extract]; omega, rfl, HC2.out, HO2.out⟩
  · by_cases h0 : 0 < (s.size : Int)
    · go_wp2_with fail
      refine (below_any (s.size : Int) (by omega) (by omega) _ HC1.out).mono ?_
      rintro e w2 ⟨y, y0, y1, rfl, hc2, ho2⟩
      have S2 : Hid (Cur c a len cap w2 ∧ Only c w w2) := ⟨hc2, HO1.out.trans ho2⟩
      obtain ⟨k, rfl⟩ := Int.eq_ofNat_of_zero_le y0
      have hk : (k : Int) ≤ (s.size : Int) := by omega
      have hk1 : (k : Int) + 1 ≤ (s.size : Int) := by omega
      have hkw : IntKind.i64.wrap ((k : Int) + 1) = (k : Int) + 1 := by rw [IntKind.wrap_i64]; omega
      have hk3 : ((k : Int) + 1).toNat = k + 1 := by omega
      have hk4 : (0 : Int) ≤ (k : Int) + 1 := by omega
      obtain ⟨p1, hp1⟩ : ∃ p, s.extract 0 k = p := ⟨_, rfl⟩
      obtain ⟨p2, hp2⟩ : ∃ p, s.extract (k + 1) s.size = p := ⟨_, rfl⟩
      have q1 : p1.size ≤ s.size := by rw [← hp1, ByteArray.size_extract]; omega
      have q3 : p1.size + p2.size ≤ s.size := by rw [← hp1, ← hp2, ByteArray.size_extract, ByteArray.size_extract]; omega
      have K : Hid (∀ X, (Cur c a len cap X ∧ Only c w X) → Calls Tryd.prog 80 #[.pointer (some ⟨c, 0, none⟩), .int .i64 1] X fun e Y => ∃ B : ByteArray, B.size = 1 ∧ e = .returned (.string B) ∧ (Cur c a len cap Y ∧ Only c w Y)) := fun X hX => by
        refine (text_any 1 (by omega) X hX.1).mono ?_
        rintro e Y ⟨l, hl, rfl, hc, ho⟩
        exact ⟨⟨l.toArray⟩, by show l.toArray.size = 1; simpa using hl, rfl, hc, hX.2.trans ho⟩
      clear hc2 ho2
      go_wp2_with fail
      go_region_held3 (fun X => Cur c a len cap X ∧ Only c w X) (first | (with_reducible assumption) | (with_reducible exact ⟨Cur.below S2.out.1 (Below.drew (Below.refl _ _)), Only.trans S2.out.2 (Only.of_below (Below.drew (Below.refl _ _)))⟩)) (first | (go_at_call 80; refine (K.out _ (by assumption)).mono ?_; rintro e v1 ⟨B, hB, rfl, hS⟩; have m1 : ∀ X, (Op.stringOp .add p1 B).run Tryd.prog X = .ok (.string (p1 ++ B)) X := (fun X => run_string_add_sum X p1 B (by omega)); have m2 : ∀ X, (Op.stringOp .add (p1 ++ B) p2).run Tryd.prog X = .ok (.string (p1 ++ B ++ p2)) X := (fun X => run_string_add_sum X (p1 ++ B) p2 (by rw [ByteArray.size_append]; omega))))
      all_goals
        go_wp2_with fail
        go_ret
        exact ⟨p1 ++ B ++ p2, by rw [ByteArray.size_append, ByteArray.size_append]; omega, rfl, hS.1, hS.2⟩
    · go_wp2_with fail
      go_ret
      exact ⟨s, by omega, rfl, HC1.out, HO1.out⟩
  · by_cases h0 : 0 < (s.size : Int)
    · go_wp2_with fail
      refine (below_any (s.size : Int) (by omega) (by omega) _ HC1.out).mono ?_
      rintro e w2 ⟨y, y0, y1, rfl, hc2, ho2⟩
      have S2 : Hid (Cur c a len cap w2 ∧ Only c w w2) := ⟨hc2, HO1.out.trans ho2⟩
      obtain ⟨k, rfl⟩ := Int.eq_ofNat_of_zero_le y0
      have hk : (k : Int) ≤ (s.size : Int) := by omega
      have hk1 : (k : Int) + 1 ≤ (s.size : Int) := by omega
      have hkw : IntKind.i64.wrap ((k : Int) + 1) = (k : Int) + 1 := by rw [IntKind.wrap_i64]; omega
      have hk3 : ((k : Int) + 1).toNat = k + 1 := by omega
      have hk4 : (0 : Int) ≤ (k : Int) + 1 := by omega
      obtain ⟨p1, hp1⟩ : ∃ p, s.extract 0 k = p := ⟨_, rfl⟩
      obtain ⟨p2, hp2⟩ : ∃ p, s.extract (k + 1) s.size = p := ⟨_, rfl⟩
      have q1 : p1.size ≤ s.size := by rw [← hp1, ByteArray.size_extract]; omega
      have q3 : p1.size + p2.size ≤ s.size := by rw [← hp1, ← hp2, ByteArray.size_extract, ByteArray.size_extract]; omega
      have K : Hid (∀ X, (Cur c a len cap X ∧ Only c w X) → Calls Tryd.prog 80 #[.pointer (some ⟨c, 0, none⟩), .int .i64 1] X fun e Y => ∃ B : ByteArray, B.size = 1 ∧ e = .returned (.string B) ∧ (Cur c a len cap Y ∧ Only c w Y)) := fun X hX => by
        refine (text_any 1 (by omega) X hX.1).mono ?_
        rintro e Y ⟨l, hl, rfl, hc, ho⟩
        exact ⟨⟨l.toArray⟩, by show l.toArray.size = 1; simpa using hl, rfl, hc, hX.2.trans ho⟩
      clear hc2 ho2
      go_wp2_with fail
      go_region_held3 (fun X => Cur c a len cap X ∧ Only c w X) (first | (with_reducible assumption) | (with_reducible exact ⟨Cur.below S2.out.1 (Below.drew (Below.refl _ _)), Only.trans S2.out.2 (Only.of_below (Below.drew (Below.refl _ _)))⟩)) (first | (go_at_call 80; refine (K.out _ (by assumption)).mono ?_; rintro e v1 ⟨B, hB, rfl, hS⟩; have m1 : ∀ X, (Op.stringOp .add p1 B).run Tryd.prog X = .ok (.string (p1 ++ B)) X := (fun X => run_string_add_sum X p1 B (by omega)); have m2 : ∀ X, (Op.stringOp .add (p1 ++ B) p2).run Tryd.prog X = .ok (.string (p1 ++ B ++ p2)) X := (fun X => run_string_add_sum X (p1 ++ B) p2 (by rw [ByteArray.size_append]; omega))))
      all_goals
        go_wp2_with fail
        go_ret
        exact ⟨p1 ++ B ++ p2, by rw [ByteArray.size_append, ByteArray.size_append]; omega, rfl, hS.1, hS.2⟩
    · go_wp2_with fail
      go_ret
      exact ⟨s, by omega, rfl, HC1.out, HO1.out⟩
  · have d0 : ¬ (x = 0) := by omega
    have d1 : ¬ (x = 1) := by omega
    have d2 : ¬ (x = 2) := by omega
    have d3 : ¬ (x = 3) := by omega
    go_wp2_with fail
    go_ret
    exact ⟨s, by omega, rfl, HC1.out, HO1.out⟩

end Go.Proofs.YtmgdhlodifkemadDoor
namespace Go.Proofs.YtmgdhlodifkemadDoor
open Go.RowKit

set_option maxRecDepth 100000 in
set_option maxHeartbeats 3200000 in
theorem specOptionsOk_bool (z : Int) (v1 : Value) (ws : List ByteArray) (p : Bool) (b : Bool) (hb : b = true ↔ OptP z ws) (hl : ws.length ≤ 100000000) (hx : ∀ x ∈ ws, x.size ≤ 100000000) (w : World) (h : layStringS.rd w [v1] ws) :
    Calls Tryd.prog 57 #[.agg #[.int .i64 z, v1, .bool p]] w fun e w' => e = .returned (.bool b) ∧ Below w.heap.size w w' := by
  obtain ⟨ao, cp, rfl⟩ := rows_form h
  have hcap := rows_room h
  have HB := Lib.hid (hb.trans optP_iff)
  have HXS := Lib.hid hx
  have A0 := Lib.hid (VarA.new w OptionsT #[.int .i64 z, .slice ao ws.length cp, .bool p])
  have B0 := Lib.hid ((Below.refl w.heap.size w).alloc (Nat.le_refl _) (.cells #[.int .i64 z, .slice ao ws.length cp, .bool p] OptionsT))
  have HR := Lib.hid (layStringS.below h B0.out)
  clear hb h hx
  go_enter Tryd.func57, Tryd.ntmps57
  go_upto_region 1 with fail
  generalize w.alloc (.cells #[.int .i64 z, .slice ao ws.length cp, .bool p] OptionsT) = Y at *
  go_wp2_with fail
  go_loopw [3] (fun c wr => ∃ j : Nat, j ≤ ws.length ∧ c = .int .i64 j ∧ Hid (WaysTo ws j) ∧ VarA w.heap.size OptionsT #[.int .i64 z, .slice ao ws.length cp, .bool p] wr ∧ layStringS.rd wr [.slice ao ws.length cp] ws ∧ Below w.heap.size w wr) (fun c _ => ws.length - (intOf c).toNat)
  case atStart => exact ⟨0, Nat.zero_le _, rfl, fun i _ h => absurd h (by omega), A0.out, HR.out, B0.out⟩
  case round =>
    clear HR A0 B0
    obtain ⟨j, hj, rfl, HA, ha, hr0, hb0⟩ := hrel
    have A0 := Lib.hid ha
    have HR := Lib.hid hr0
    have B0 := Lib.hid hb0
    have c0 : wr.cell? ⟨w.heap.size, 0, none⟩ = some (.int .i64 z) := A0.out.cell 0
    have c1 : wr.cell? ⟨w.heap.size, 1, none⟩ = some (.slice ao ws.length cp) := A0.out.cell 1
    clear ha hr0 hb0
    by_cases hlt : j < ws.length
    · have hlt' : (j : Int) < (ws.length : Int) := by omega
      have hjc : (j : Int) ≤ (cp : Int) := by omega
      have HT := Lib.hid (rows_take HR.out j hj)
      have hs := HXS.out _ (List.getElem_mem hlt)
      have HX : Hid (¬ (WayP ws[j] ∧ ws[j] ∉ ws.take j) → b = false) := fun h => by
        cases b with
        | false => rfl
        | true => exact absurd ((HB.out.1 rfl).1 j hlt hlt) h
      have HNX : Hid (WayP ws[j] → ws[j] ∉ ws.take j → WaysTo ws (j + 1)) := fun h1 h2 => ways_next hlt HA.out h1 h2
      obtain ⟨g, off, cs, rfl, hg, hr, hc⟩ := rows_elem HR.out j _ (List.getElem?_eq_getElem hlt)
      have htl : (ws.take j).length = j := by rw [List.length_take]; omega
      generalize ws[j] = x at hr HX HNX hs
      rw [layString_rd] at hr
      subst hr
      have c3 : wr.cell? ⟨g, off + j, none⟩ = some (.string x) := (by have h9 := hc 0 _ rfl; rw [str_k] at h9; exact h9)
      clear hc
      by_cases hway : WayP x
      · have K1 := Lib.hid (specWay_any x true ⟨fun _ => hway, fun _ => rfl⟩ hs)
        by_cases hin : x ∈ ws.take j
        · obtain rfl := HX.out (fun h => h.2 hin)
          have K2 : Hid (∀ n : Nat, Calls Tryd.prog 58 #[.slice (some ⟨g, off, none⟩) j cp, .string x] (wr.drewN n) fun e w' => e = .returned (.bool true) ∧ w' = wr.drewN n) := Lib.hid (fun n => specHas_any (ws.take j) x _ true ⟨fun _ => hin, fun _ => rfl⟩ (by omega) _ (layStringS.below HT.out (below_drewN (Below.refl _ _) n)))
          clear hin hway htl
          go_wp2_with fail
          go_quiet (first | (go_at_call 92; exact Calls.quiet_of_same (K1.out _)) | (go_at_call 58; exact Calls.quiet_of_same (K2.out _)))
          go_wp2_with fail
          go_ret
          exact ⟨rfl, below_drewN B0.out _⟩
        · have HJ := Lib.hid (HNX.out hway hin)
          have K2 : Hid (∀ n : Nat, Calls Tryd.prog 58 #[.slice (some ⟨g, off, none⟩) j cp, .string x] (wr.drewN n) fun e w' => e = .returned (.bool false) ∧ w' = wr.drewN n) := Lib.hid (fun n => specHas_any (ws.take j) x _ false ⟨fun e => (by cases e), fun e => absurd e hin⟩ (by omega) _ (layStringS.below HT.out (below_drewN (Below.refl _ _) n)))
          clear hin hway htl
          go_wp2_with fail
          go_quiet (first | (go_at_call 92; exact Calls.quiet_of_same (K1.out _)) | (go_at_call 58; exact Calls.quiet_of_same (K2.out _)))
          go_wp2_with fail
          go_roundw
          case rel => exact ⟨j + 1, by omega, by go_num, HJ, A0.out.next (below_drewN (Below.refl _ _) _), layStringS.below HR.out (below_drewN (Below.refl _ _) _), below_drewN B0.out _⟩
          case measure => simp [intOf]; omega
      · obtain rfl := HX.out (fun h => hway h.1)
        have K1 := Lib.hid (specWay_any x false ⟨fun e => (by cases e), fun e => absurd e hway⟩ hs)
        clear hway htl
        go_wp2_with fail
        go_quiet (first | (go_at_call 92; exact Calls.quiet_of_same (K1.out _)))
        go_wp2_with fail
        go_ret
        exact ⟨rfl, below_drewN B0.out _⟩
    · have hlt' : ¬ ((j : Int) < (ws.length : Int)) := by omega
      have hje : j = ws.length := by omega
      have HALL := HA.out
      rw [hje] at HALL
      replace HA := Lib.hid HALL
      clear HALL
      by_cases hz : 20 ≤ z ∧ z ≤ 60
      · have K := Lib.hid (inRange_yes z 20 60 hz.1 hz.2 wr)
        go_wp2_with fail
        refine (K.out).mono ?_
        rintro e Z9 ⟨rfl, hw⟩
        rw [hw]
        clear hw K Z9
        by_cases hn : 1 ≤ (ws.length : Int) ∧ (ws.length : Int) ≤ 4
        · obtain rfl : b = true := HB.out.2 ⟨HA.out, hz, hn⟩
          have K := Lib.hid (inRange_yes (ws.length : Int) 1 4 hn.1 hn.2 wr)
          go_wp2_with fail
          refine (K.out).mono ?_
          rintro e Z9 ⟨rfl, hw⟩
          rw [hw]
          clear hw K Z9
          go_wp2_with fail
          go_ret
          exact ⟨rfl, B0.out⟩
        · obtain rfl : b = false := by
            cases b with
            | false => rfl
            | true => exact absurd (HB.out.1 rfl).2.2 hn
          have K := Lib.hid (inRange_no (ws.length : Int) 1 4 (by omega) wr)
          go_wp2_with fail
          refine (K.out).mono ?_
          rintro e Z9 ⟨rfl, hw⟩
          rw [hw]
          clear hw K Z9
          go_wp2_with fail
          go_ret
          exact ⟨rfl, B0.out⟩
      · obtain rfl : b = false := by
          cases b with
          | false => rfl
          | true => exact absurd (HB.out.1 rfl).2.1 hz
        have K := Lib.hid (inRange_no z 20 60 (by omega) wr)
        go_wp2_with fail
        refine (K.out).mono ?_
        rintro e Z9 ⟨rfl, hw⟩
        rw [hw]
        clear hw K Z9
        go_wp2_with fail
        go_ret
        exact ⟨rfl, B0.out⟩

end Go.Proofs.YtmgdhlodifkemadDoor
