/-
  The program's told: the numbers that a span has.
  The program's NoteSeen.
-/
import Derived.Test.YtoaifgblbfdncabGreatDoorJ35
import Derived.Test.YtoaifgblbfdncabGreatDoorJ15
namespace Go.Proofs.YtoaifgblbfdncabGreatDoor
open Go.RowKit

set_option maxRecDepth 100000 in
set_option maxHeartbeats 1600000 in
theorem told_any (r : Nat) (f : Int) (b : Nat) (hf0 : 0 ≤ f) (hf : f ≤ 1000000000) (hb : b < 64) (w : World) (H : VarP r SpanT (.int .i64 f) (.int .u8 (b : Int)) w) :
    Calls Tryz.prog 72 #[.pointer (some ⟨r, 0, none⟩)] w fun e w' => OutS layIntS w (toldZ f b 6) e w' := by
  obtain ⟨i0, hi0, hz0, hsz0, hby0⟩ := info_of infoInt
  obtain ⟨Q, HQ⟩ : ∃ Q : Ending → World → Prop, Hid (Q = fun e w' => OutS layIntS w (toldZ f b 6) e w') := ⟨_, Lib.hid rfl⟩
  rw [← HQ.out]
  have HV := Lib.hid H
  have hal : Below w.heap.size w (w.alloc (.cells #[] 3)) := (Below.refl _ _).alloc (Nat.le_refl _) _
  have O1 : Hid (layIntS.own (w.alloc (.cells #[] 3)) w.heap.size [w.heap.size] [.slice (some ⟨w.heap.size, 0, none⟩) 0 0] []) := Lib.hid (flat_lit w _ (Nat.le_refl _))
  have B1 := Lib.hid hal
  clear hal H
  go_enter Tryz.func72, Tryz.ntmps72
  go_upto_region 2 with fail
  generalize w.alloc (.cells #[] 3) = Y1 at *
  go_wp2_with fail
  go_loopw [3, 7] (fun t c wr => ∃ (j g k : Nat) (ys : List Int), j ≤ 6 ∧ c = .int .i64 j ∧ t = .slice (some ⟨g, 0, none⟩) ys.length k ∧ Hid (ys = toldZ f b j) ∧ Hid (layIntS.own wr w.heap.size [g] [.slice (some ⟨g, 0, none⟩) ys.length k] ys) ∧ Hid (Below w.heap.size w wr)) (fun _ c _ => 6 - (intOf c).toNat)
  case atStart => exact ⟨0, w.heap.size, 0, [], Nat.zero_le _, rfl, rfl, Lib.hid rfl, O1, B1⟩
  case round =>
    obtain ⟨j, g, k, ys, hj, rfl, rfl, HY, HO, HB⟩ := hrel
    clear O1 B1
    by_cases hlt : j < 6
    · have hlt' : (j : Int) < 6 := by omega
      have HVW := Lib.hid (HV.out.next HB.out)
      have c0 := HVW.out.c0
      have c1 := HVW.out.c1
      have hwt : IntKind.i64.wrap (f - (j : Int)) = f - (j : Int) := by rw [IntKind.wrap_i64]; omega
      have K := Lib.hid (fun (X : World) (h : X.cell? ⟨r, 0, none⟩ = some (.int .i64 f)) => bitOf_any r f (f - (j : Int)) j hlt (by omega) X h)
      have ha := bits_and_u8_nat b (2 ^ j) (by omega) (by
        have : (2 : Nat) ^ j < 2 ^ 6 := Nat.pow_lt_pow_right (by omega) (by omega)
        omega)
      have hq := bit_asked b j
      have hyl : ys.length + 1 ≤ 1000000000 := by
        rw [HY.out]
        have := told_len f b j
        omega
      have HN : Hid ((b.testBit j = true → ys ++ [f - (j : Int)] = toldZ f b (j + 1)) ∧ (b.testBit j = false → ys = toldZ f b (j + 1))) := Lib.hid ⟨fun h => by rw [told_yes h, HY.out], fun h => by rw [told_no h, HY.out]⟩
      have hwr : w.heap.size ≤ wr.heap.size := HB.out.size
      generalize (b &&& 2 ^ j : Nat) = q at ha hq
      generalize (2 ^ j : Nat) = p at K ha
      cases hbt : b.testBit j with
      | true =>
        rw [hbt] at hq
        have hq0 : ((q : Int) == 0) = false := by rw [beq_eq_false_iff_ne]; intro h; have := hq.1 (by omega); cases this
        have HTA := Lib.hid (HN.out.1 hbt)
        clear hq hbt HN
        go_wp2_with fail
        go_quiet ((go_at_call 77; exact Calls.quiet_of_same (K.out _ (by assumption))))
        have HBN : Below wr.heap.size wr (wr.drewN nq) := below_drewN (Below.refl _ _) _
        have HO4 := Lib.hid (layIntS.next HO.out HBN)
        have HB4 := Lib.hid (HB.out.trans (HBN.mono HB.out.size))
        have hwr2 : w.heap.size ≤ (wr.drewN nq).heap.size := Nat.le_trans hwr HBN.size
        clear HO HB HBN c0 c1 hwr HVW
        generalize wr.drewN nq = wz at *
        go_wp2_with (at_builtin; refine wpList_pushF wz rfl _ _ 22 rfl w.heap.size 3 i0 _ 8 Lay.int flatIntN Tryz.underlying22 hi0 hz0 hsz0 hby0 rfl (by omega) (.slice (some ⟨g, 0, none⟩) ys.length k) [g] ys (by rfl) HO4.out (f - (j : Int)) #[.int .i64 (f - (j : Int))] rfl (by rfl) hyl hwr2 ?_; intro v1 w3 hown1 hnn1 hgr1 hbe1; obtain ⟨m1, mc1, rfl, hblk, _, _⟩ := flat_some flatIntN hown1 hnn1; rw [hblk] at hown1)
        have HO3 := Lib.hid hown1
        have HB3 := Lib.hid (HB4.out.trans hbe1)
        clear hown1 hnn1 hgr1 hbe1 hblk HO4 HB4
        go_wp2_with fail
        go_roundw
        case rel => exact ⟨j + 1, m1, mc1, ys ++ [f - (j : Int)], by omega, by go_num, by rw [List.length_append]; rfl, HTA, HO3, HB3⟩
        case measure => simp [intOf]; omega
      | false =>
        rw [hbt] at hq
        obtain rfl : q = 0 := hq.2 rfl
        have HTA := Lib.hid (HN.out.2 hbt)
        clear hq hbt HN
        go_wp2_with fail
        go_quiet ((go_at_call 77; exact Calls.quiet_of_same (K.out _ (by assumption))))
        have HBN : Below wr.heap.size wr (wr.drewN nq) := below_drewN (Below.refl _ _) _
        have HO4 := Lib.hid (layIntS.next HO.out HBN)
        have HB4 := Lib.hid (HB.out.trans (HBN.mono HB.out.size))
        clear HO HB HBN c0 c1 hwr HVW
        generalize wr.drewN nq = wz at *
        go_wp2_with fail
        go_roundw
        case rel => exact ⟨j + 1, g, k, ys, by omega, by go_num, rfl, HTA, HO4, HB4⟩
        case measure => simp [intOf]; omega
    · have hlt' : ¬ ((j : Int) < 6) := by omega
      obtain rfl : j = 6 := by omega
      obtain rfl : ys = toldZ f b 6 := HY.out
      have E : Hid (Q (.returned (.slice (some ⟨g, 0, none⟩) (toldZ f b 6).length k)) wr) := by
        rw [HQ.out]
        exact Lib.hid ⟨_, [g], rfl, by simp, HO.out, HB.out⟩
      clear HY HO HB
      generalize toldZ f b 6 = ys at *
      go_wp2_with fail
      exact E.out

end Go.Proofs.YtoaifgblbfdncabGreatDoor
namespace Go.Proofs.YtoaifgblbfdncabGreatDoor
open Go.RowKit

set_option maxRecDepth 100000 in
set_option maxHeartbeats 3200000 in
theorem implNoteSeen_any (xs : List Int) (n : Int) (v : Value) (r : List Int) (hr : NoteIs xs n r) (hl : xs.length ≤ 10000000) (hwf : ∀ x ∈ xs, IntZ x) (_hwn : IntZ n) (w : World) (h : layIntS.rd w [v] xs) :
    Calls Tryz.prog 49 #[v, .int .i64 n] w fun e w' => OutS layIntS w r e w' := by
  obtain ⟨ao, cp, rfl⟩ := rows_form h
  obtain ⟨i0, hi0, hz0, hsz0, hby0⟩ := info_of infoInt
  have HR := Lib.hid h
  have HN := Lib.hid hr
  clear h hr
  obtain ⟨Q, HQ⟩ : ∃ Q : Ending → World → Prop, Hid (Q = fun e w' => OutS layIntS w r e w') := ⟨_, Lib.hid rfl⟩
  rw [← HQ.out]
  go_enter Tryz.func49, Tryz.ntmps49
  by_cases hs : SeenP xs
  rotate_left
  · obtain rfl : r = xs := by
      rcases HN.out with ⟨h, _⟩ | ⟨_, h⟩
      · exact absurd h.1 hs
      · exact h
    have K := Lib.hid (implSeenOk_bool r _ false ⟨fun e => (by cases e), fun e => absurd e hs⟩ (by omega) hwf w HR.out)
    clear hs HN hwf
    go_wp2_with fail
    refine (K.out).mono ?_
    rintro e Y ⟨rfl, hy⟩
    have B := Lib.hid hy
    have HRY := Lib.hid (layIntS.below HR.out hy)
    clear hy K HR
    have hbl : Below Y.heap.size Y (Y.alloc (.cells #[] 3)) := (Below.refl _ _).alloc (Nat.le_refl _) _
    go_wp2_with (at_builtin; refine wpList_copyF (Y.alloc (.cells #[] 3)) rfl _ _ 22 rfl Y.heap.size 3 i0 _ 8 Lay.int flatIntN Tryz.underlying22 hi0 hz0 hsz0 hby0 rfl (by omega) _ _ _ rfl (flat_lit Y _ (Nat.le_refl _)) (fun e => by cases e) _ r rfl (layIntS.below HRY.out hbl) (by simp; omega) (by simp) ?_; intro v1 w1 hown1 hnn1 hgr1 hbe1)
    have E : Hid (Q (.returned v1) w1) := by
      rw [HQ.out]
      exact Lib.hid ⟨v1, _, rfl, blk_dup v1, layIntS.lower hown1 B.out.size, B.out.trans ((hbl.trans hbe1).mono B.out.size)⟩
    clear hown1 hnn1 hgr1 hbe1 hbl
    go_wp2_with fail
    exact E.out
  · have HS := Lib.hid hs
    have K := Lib.hid (implSeenOk_bool xs _ true ⟨fun _ => hs, fun _ => rfl⟩ (by omega) hwf w HR.out)
    clear hs hwf
    go_wp2_with fail
    refine (K.out).mono ?_
    rintro e Y ⟨rfl, hy⟩
    have B := Lib.hid hy
    have K2 := Lib.hid (spanOf_any xs _ HS.out Y (layIntS.below HR.out hy))
    clear hy K HR
    go_wp2_with fail
    refine (K2.out).mono ?_
    rintro e Z ⟨f, c, rfl, hI, ⟨hf0, hf1⟩, hz⟩
    have B2 := Lib.hid (B.out.trans (hz.mono B.out.size))
    have HI := Lib.hid hI
    have hc := hI.lt
    clear hI hz K2 B
    have HV : Hid (VarP Z.heap.size SpanT (.int .i64 f) (.int .u8 (c : Int)) (Z.alloc (.cells #[.int .i64 f, .int .u8 (c : Int)] SpanT))) := Lib.hid (VarP.new Z SpanT _ _)
    have B3 : Hid (Below w.heap.size w (Z.alloc (.cells #[.int .i64 f, .int .u8 (c : Int)] SpanT))) := Lib.hid (B2.out.alloc B2.out.size _)
    have hwz := B2.out.size
    go_upto_region 4 with fail
    generalize Z.alloc (.cells #[.int .i64 f, .int .u8 (c : Int)] SpanT) = X at *
    have KT : Hid (∃ (t : Bool) (f2 : Int) (c2 : Nat), (0 ≤ f2 ∧ f2 ≤ 1000000000) ∧ c2 < 64 ∧ toldZ f2 c2 6 = r ∧ Calls Tryz.prog 71 #[.pointer (some ⟨Z.heap.size, 0, none⟩), .int .i64 n] X fun e w' => TakeEnd Z.heap.size f2 c2 t X e w') := Lib.hid (by
      rcases HN.out with ⟨hf, h⟩ | ⟨hf, h⟩
      · have hI2 := span_take HI.out hf (.inl ⟨hf, h⟩)
        have hr2 := (note_right hf (.inl ⟨hf, h⟩)).1
        have htop := HI.out.top
        have hfr := hf.2.2.2
        refine ⟨true, takeF f n, takeB f c n, span_range hr2 hI2, hI2.lt, span_told hr2 hI2, take_yes Z.heap.size f n c hf0 hf1 hc hf.2.1.1 hf.2.1.2 (by omega) (fun hlt => ?_) X HV.out⟩
        rw [Bool.eq_false_iff]
        intro he
        have h2 := (HI.out.bit _ (by omega)).1 he
        rw [show f - (((f - n).toNat : Nat) : Int) = n by omega] at h2
        exact hf.2.2.1 h2
      · exact ⟨false, f, c, ⟨hf0, hf1⟩, hc, by rw [h]; exact span_told HS.out HI.out, take_no Z.heap.size f n c hf0 hf1 hc (fun h3 => hf ((stand_fresh HS.out HI.out).1 h3)) X HV.out⟩)
    clear HN HS HI HV
    obtain ⟨t, f2, c2, ⟨hg0, hg1⟩, hc2, htold, hcall⟩ := KT.out
    have KC := Lib.hid hcall
    have HTO := Lib.hid htold
    clear KT hcall htold hf0 hf1 hc
    go_wp2_with fail
    refine (KC.out).mono ?_
    rintro e X2 ⟨rfl, hv, hch⟩
    have B4 := Lib.hid (B3.out.trans (hch.below (fun g hg => by rw [List.mem_singleton.1 hg]; exact hwz) B3.out.size))
    have K5 := Lib.hid (told_any Z.heap.size f2 c2 hg0 hg1 hc2 X2 hv)
    rw [HTO.out] at K5
    clear hv hch KC HTO B3 B2
    go_wp2_with fail
    refine (K5.out).mono ?_
    rintro e X3 ⟨v5, fp, rfl, hd, ho, hb⟩
    have E : Hid (Q (.returned v5) X3) := by
      rw [HQ.out]
      exact Lib.hid ⟨v5, fp, rfl, hd, layIntS.lower ho B4.out.size, B4.out.trans (hb.mono B4.out.size)⟩
    clear hd ho hb K5 B4
    go_wp2_with fail
    exact E.out

end Go.Proofs.YtoaifgblbfdncabGreatDoor
