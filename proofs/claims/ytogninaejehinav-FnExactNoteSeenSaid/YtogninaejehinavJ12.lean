/-
  The program's spanOf: right numbers as a first one and bits.
  The program's IsFresh (and SeenOk).
  The program's told: the numbers that a span has.
-/
import Derived.Test.YtogninaejehinavJ09
import Derived.Test.YtogninaejehinavJ11
namespace Go.Proofs.Ytogninaejehinav
open Go.RowKit

/-- The span that is made, in its variable, and the result's variable. -/
structure SP (w : World) (f : Int) (b : Nat) (X : World) : Prop where
  r : VarP w.heap.size SpanT (.int .i64 0) (.int .u8 0) X
  v : VarP (w.heap.size + 1) SpanT (.int .i64 f) (.int .u8 (b : Int)) X
  below : Below w.heap.size w X
theorem SP.next {w : World} {f : Int} {b : Nat} {X Y : World} (h : SP w f b X) (hb : Below X.heap.size X Y) : SP w f b Y := ⟨h.r.next hb, h.v.next hb, h.below.trans (hb.mono h.below.size)⟩
theorem SP.set0 {w : World} {f : Int} {b : Nat} {X : World} (h : SP w f b X) (x : Int) : SP w x b (X.setCell ⟨w.heap.size + 1, 0, none⟩ (.int .i64 x)) := ⟨h.r.only (Only.setCell 0 _) (by omega), h.v.set0 _, h.below.setCell (p := ⟨w.heap.size + 1, 0, none⟩) (by show w.heap.size ≤ w.heap.size + 1; omega) _⟩
theorem SP.set1 {w : World} {f : Int} {b : Nat} {X : World} (h : SP w f b X) (x : Nat) : SP w f x (X.setCell ⟨w.heap.size + 1, 1, none⟩ (.int .u8 (x : Int))) := ⟨h.r.only (Only.setCell 1 _) (by omega), h.v.set1 _, h.below.setCell (p := ⟨w.heap.size + 1, 1, none⟩) (by show w.heap.size ≤ w.heap.size + 1; omega) _⟩

/-- The next number in its place among the bits. -/
theorem span_next {xs : List Int} (hs : SeenP xs) {j : Nat} (hj : j < xs.length) {f f2 : Int} {b k : Nat} (h : SpanIs (xs.take j) f b) (h0 : j = 0 → f2 = xs[j]) (h1 : 0 < j → f2 = f) (hk : (f2 - xs[j]).toNat = k) : SpanIs (xs.take (j + 1)) f2 (b ||| 2 ^ k) ∧ k < 6 ∧ f2 - xs[j] = (k : Int) ∧ 0 ≤ f2 ∧ f2 ≤ 1000000000 := by
  have hx := hs.2.1 _ (List.getElem_mem hj)
  rcases Nat.eq_zero_or_pos j with e | e
  · subst e
    have h2 := h0 rfl
    obtain rfl : k = 0 := by omega
    obtain ⟨-, rfl⟩ := span_none (by rw [List.take_zero] at h; exact h)
    refine ⟨?_, by omega, by omega, by omega, by omega⟩
    rw [List.take_add_one, List.take_zero, List.getElem?_eq_getElem hj, h2]
    exact span_one _
  · have h2 := h1 e
    have hne : xs.take j ≠ [] := by
      intro h3
      have h4 := congrArg List.length h3
      rw [List.length_take, List.length_nil] at h4
      omega
    have hmem := top_mem hne
    have ht := h.top
    have h8 := List.length_pos_iff.2 hne
    have h3 := hs.2.1 _ (List.mem_of_mem_take hmem)
    have h5 : topZ (xs.take j) = topZ xs := by
      cases xs with
      | nil => exact absurd hj (by simp)
      | cons y l =>
        cases j with
        | zero => omega
        | succ j => rfl
    have h6 := top_most hs.2.2.1 _ (List.getElem_mem hj)
    have h7 := hs.2.2.2 _ (List.getElem_mem hj)
    subst h2
    refine ⟨?_, by omega, by omega, by omega, by omega⟩
    rw [List.take_add_one, List.getElem?_eq_getElem hj, ← hk]
    exact span_snoc h hne (by omega) (by omega)

set_option maxRecDepth 100000 in
set_option maxHeartbeats 1600000 in
theorem spanOf_any (xs : List Int) (v : Value) (hs : SeenP xs) (w : World) (h : layIntS.rd w [v] xs) :
    Calls Try.prog 33 #[v] w fun e w' => ∃ (f : Int) (b : Nat), e = .returned (.agg #[.int .i64 f, .int .u8 (b : Int)]) ∧ SpanIs xs f b ∧ (0 ≤ f ∧ f ≤ 1000000000) ∧ Below w.heap.size w w' := by
  obtain ⟨ao, cp, rfl⟩ := rows_form h
  have HR := Lib.hid h
  have HS := Lib.hid hs
  have hl : xs.length ≤ 6 := hs.1
  clear h hs
  obtain ⟨Q, HQ⟩ : ∃ Q : Ending → World → Prop, Hid (Q = fun e w' => ∃ (f : Int) (b : Nat), e = .returned (.agg #[.int .i64 f, .int .u8 (b : Int)]) ∧ SpanIs xs f b ∧ (0 ≤ f ∧ f ≤ 1000000000) ∧ Below w.heap.size w w') := ⟨_, Lib.hid rfl⟩
  rw [← HQ.out]
  go_enter Try.func33, Try.ntmps33
  have S0 : Hid (SP w 0 0 ((w.alloc (.cells #[.int .i64 0, .int .u8 0] SpanT)).alloc (.cells #[.int .i64 0, .int .u8 0] SpanT))) := Lib.hid ⟨(VarP.new w SpanT _ _).next ((Below.refl _ _).alloc (Nat.le_refl _) _), (by
    have h1 := VarP.new (w.alloc (.cells #[.int .i64 0, .int .u8 0] SpanT)) SpanT (.int .i64 0) (.int .u8 0)
    rwa [show (w.alloc (.cells #[.int .i64 0, .int .u8 0] SpanT)).heap.size = w.heap.size + 1 by simp] at h1), ((Below.refl w.heap.size w).alloc (Nat.le_refl _) _).alloc (by simp) _⟩
  go_upto_region 2 with fail
  generalize (w.alloc (.cells #[.int .i64 0, .int .u8 0] SpanT)).alloc (.cells #[.int .i64 0, .int .u8 0] SpanT) = Y1 at *
  go_wp2_with fail
  go_loopw [9] (fun c wr => ∃ (j : Nat) (f : Int) (b : Nat), j ≤ xs.length ∧ c = .int .i64 j ∧ 0 ≤ f ∧ f ≤ 1000000000 ∧ Hid (SpanIs (xs.take j) f b) ∧ Hid (SP w f b wr)) (fun c _ => xs.length - (intOf c).toNat)
  case atStart => exact ⟨0, 0, 0, Nat.zero_le _, rfl, by omega, by omega, Lib.hid (by rw [List.take_zero]; exact span_nil), S0⟩
  case round =>
    obtain ⟨j, f, b, hj, rfl, hf0, hf1, HI, HP⟩ := hrel
    clear S0
    by_cases hlt : j < xs.length
    · have hlt' : (j : Int) < (xs.length : Int) := by omega
      obtain ⟨g, off, c2, hv, -, x0⟩ := ints_get (layIntS.below HR.out HP.out.below) j hlt
      simp only [Value.slice.injEq] at hv
      obtain ⟨rfl, -, rfl⟩ := hv
      have hb := HI.out.lt
      rcases Nat.eq_zero_or_pos j with h0 | h0
      · obtain ⟨k, hk⟩ : ∃ k : Nat, (xs[j] - xs[j]).toNat = k := ⟨_, rfl⟩
        obtain ⟨hN, hk6, hfx, hf0', hf1'⟩ := span_next HS.out hlt HI.out (f2 := xs[j]) (fun _ => rfl) (fun e => by omega) hk
        have HN := Lib.hid hN
        have hp2 : (2 : Nat) ^ k < 2 ^ 6 := Nat.pow_lt_pow_right (by omega) hk6
        have ho := bits_or_u8_nat b (2 ^ k) (by omega) (by omega)
        have K0 := Lib.hid (fun (X : World) (h : X.cell? ⟨w.heap.size + 1, 0, none⟩ = some (.int .i64 (xs[j]))) => bitOf_any (w.heap.size + 1) (xs[j]) (xs[j]) k hk6 hfx X h)
        have hj0 : ((j : Int) == 0) = true := by rw [beq_iff_eq]; omega
        clear hN hk hfx HI h0
        generalize (b ||| 2 ^ k : Nat) = q at ho HN
        generalize (2 ^ k : Nat) = p at ho K0 hp2
        generalize xs[j] = x at *
        have HP2 := Lib.hid (HP.out.set0 x)
        have c0 := HP.out.v.c0
        have s0 := HP.out.v.free 0
        go_upto_region 7 with fail
        generalize wr.setCell ⟨w.heap.size + 1, 0, none⟩ (.int .i64 x) = Z at *
        have D : Hid (SP w x b Z.drew) := Lib.hid (HP2.out.next (Below.drew (Below.refl _ _)))
        have d0 := D.out.v.c0
        have d1 := D.out.v.c1
        have s1 := D.out.v.free 1
        have e0 := HP2.out.v.c0
        have e1 := HP2.out.v.c1
        have s2 := HP2.out.v.free 1
        have HF : Hid (SP w x q ((Z.setCell ⟨w.heap.size + 1, 1, none⟩ (.int .u8 (q : Int))).drew)) := Lib.hid (by
          have := D.out.set1 q
          exact this)
        clear HP HP2 D hp2 c0 s0 x0
        go_wp2_with fail
        go_region_with (first | (go_at_call 40; refine (K0.out _ (by assumption)).mono ?_; rintro e X ⟨rfl, rfl⟩))
        all_goals
          go_wp2_with fail
          go_roundw
          case rel => exact ⟨j + 1, x, q, by omega, by go_num, hf0', hf1', HN, HF⟩
          case measure => simp [intOf]; omega
      · obtain ⟨k, hk⟩ : ∃ k : Nat, (f - xs[j]).toNat = k := ⟨_, rfl⟩
        obtain ⟨hN, hk6, hfx, hf0', hf1'⟩ := span_next HS.out hlt HI.out (f2 := f) (fun e => by omega) (fun _ => rfl) hk
        have HN := Lib.hid hN
        have hp2 : (2 : Nat) ^ k < 2 ^ 6 := Nat.pow_lt_pow_right (by omega) hk6
        have ho := bits_or_u8_nat b (2 ^ k) (by omega) (by omega)
        have K0 := Lib.hid (fun (X : World) (h : X.cell? ⟨w.heap.size + 1, 0, none⟩ = some (.int .i64 f)) => bitOf_any (w.heap.size + 1) f (xs[j]) k hk6 hfx X h)
        have hj0 : ((j : Int) == 0) = false := by rw [beq_eq_false_iff_ne]; omega
        clear hN hk hfx hf0' hf1' HI
        generalize (b ||| 2 ^ k : Nat) = q at ho HN
        generalize (2 ^ k : Nat) = p at ho K0 hp2
        generalize xs[j] = x at *
        have D : Hid (SP w f b wr.drew) := Lib.hid (HP.out.next (Below.drew (Below.refl _ _)))
        have d0 := D.out.v.c0
        have d1 := D.out.v.c1
        have s1 := D.out.v.free 1
        have c0 := HP.out.v.c0
        have c1 := HP.out.v.c1
        have s2 := HP.out.v.free 1
        have HF : Hid (SP w f q ((wr.setCell ⟨w.heap.size + 1, 1, none⟩ (.int .u8 (q : Int))).drew)) := Lib.hid (by
          have := D.out.set1 q
          exact this)
        clear HP D hp2
        go_wp2_with fail
        go_region_with (first | (go_at_call 40; refine (K0.out _ (by assumption)).mono ?_; rintro e X ⟨rfl, rfl⟩))
        all_goals
          go_wp2_with fail
          go_roundw
          case rel => exact ⟨j + 1, f, q, by omega, by go_num, hf0, hf1, HN, HF⟩
          case measure => simp [intOf]; omega
    · have hlt' : ¬ ((j : Int) < (xs.length : Int)) := by omega
      obtain rfl : j = xs.length := by omega
      have E : Hid (Q (.returned (.agg #[.int .i64 f, .int .u8 (b : Int)])) ((wr.setCell ⟨w.heap.size, 0, none⟩ (.int .i64 f)).setCell ⟨w.heap.size, 1, none⟩ (.int .u8 (b : Int)))) := by
        rw [HQ.out]
        refine Lib.hid ⟨f, b, rfl, (by have := HI.out; rwa [List.take_length] at this), ⟨hf0, hf1⟩, (HP.out.below.setCell (p := ⟨w.heap.size, 0, none⟩) (Nat.le_refl _) _).setCell (p := ⟨w.heap.size, 1, none⟩) (Nat.le_refl _) _⟩
      have c0 := HP.out.v.c0
      have c1 := HP.out.v.c1
      have e0 := HP.out.r.c0
      have e1 := HP.out.r.c1
      have s0 := HP.out.r.free 0
      have s1 := HP.out.r.free 1
      have r0 := (HP.out.r.set2 (.int .i64 f) (.int .u8 (b : Int))).c0
      have r1 := (HP.out.r.set2 (.int .i64 f) (.int .u8 (b : Int))).c1
      clear HP HI
      go_wp2_with fail
      exact bodyPost_ret (v := .agg #[.int .i64 f, .int .u8 (b : Int)]) (by simp [results, Try.results33, go_sem, r0, r1]) rfl E.out

end Go.Proofs.Ytogninaejehinav
namespace Go.Proofs.Ytogninaejehinav
open Go.RowKit

theorem span_range {xs : List Int} {f : Int} {b : Nat} (hs : SeenP xs) (h : SpanIs xs f b) : 0 ≤ f ∧ f ≤ 1000000000 := by
  have ht := h.top
  by_cases e : xs = []
  · subst e
    have : topZ [] = 0 := rfl
    omega
  · have := hs.2.1 _ (top_mem e)
    omega

set_option maxRecDepth 100000 in
set_option maxHeartbeats 1600000 in
theorem implIsFresh_bool (xs : List Int) (n : Int) (v : Value) (b : Bool) (hb : b = true ↔ FreshP xs n) (hl : xs.length ≤ 100000000) (hwf : ∀ x ∈ xs, IntZ x) (_hwn : IntZ n) (w : World) (h : layIntS.rd w [v] xs) :
    Calls Try.prog 19 #[v, .int .i64 n] w fun e w' => e = .returned (.bool b) ∧ Below w.heap.size w w' := by
  obtain ⟨ao, cp, rfl⟩ := rows_form h
  have HF : Hid (¬ FreshP xs n → b = false) := Lib.hid (fun h => by
    cases b with
    | false => rfl
    | true => exact absurd (hb.1 rfl) h)
  go_enter Try.func19, Try.ntmps19
  by_cases hs : SeenP xs
  rotate_left
  · obtain rfl := HF.out (fun h => hs h.1)
    have K := Lib.hid (implSeenOk_bool xs _ false ⟨fun e => (by cases e), fun e => absurd e hs⟩ hl hwf w h)
    clear h hb HF hs hwf
    go_wp2_with fail
    refine (K.out).mono ?_
    rintro e Y ⟨rfl, hy⟩
    have B := Lib.hid hy
    clear hy K
    go_wp2_with fail
    go_ret
    exact ⟨rfl, B.out⟩
  have K := Lib.hid (implSeenOk_bool xs _ true ⟨fun _ => hs, fun _ => rfl⟩ hl hwf w h)
  have HR := Lib.hid h
  have HS := Lib.hid hs
  have HBF := Lib.hid hb
  clear h hwf HF hs hb
  go_wp2_with fail
  refine (K.out).mono ?_
  rintro e Y ⟨rfl, hy⟩
  have B := Lib.hid hy
  have K2 := Lib.hid (spanOf_any xs _ HS.out Y (layIntS.below HR.out hy))
  clear hy K HR
  go_wp2_with fail
  refine (K2.out).mono ?_
  rintro e Z ⟨f, c, rfl, hI, ⟨hf0, hf1⟩, hz⟩
  have B2 := Lib.hid (B.out.trans (hz.mono B.out.size))
  have HFR := Lib.hid (stand_fresh (n := n) HS.out hI)
  have hc := hI.lt
  clear hI hz K2 B
  have HV : Hid (VarP Z.heap.size SpanT (.int .i64 f) (.int .u8 (c : Int)) (Z.alloc (.cells #[.int .i64 f, .int .u8 (c : Int)] SpanT))) := Lib.hid (VarP.new Z SpanT _ _)
  have B3 : Hid (Below w.heap.size w (Z.alloc (.cells #[.int .i64 f, .int .u8 (c : Int)] SpanT))) := Lib.hid (B2.out.alloc B2.out.size _)
  go_upto_region 4 with fail
  generalize Z.alloc (.cells #[.int .i64 f, .int .u8 (c : Int)] SpanT) = X at *
  have K3 := Lib.hid (standOf_any Z.heap.size f n c hf0 hf1 hc X HV.out)
  have hst : decide (3 ≤ standN f c n) = b := by
    cases b with
    | true => exact decide_eq_true (HFR.out.2 (HBF.out.1 rfl))
    | false => exact decide_eq_false (fun h => by have := HBF.out.2 (HFR.out.1 h); cases this)
  clear HV HFR HBF B2
  generalize standN f c n = s at *
  go_wp2_with fail
  refine (K3.out).mono ?_
  rintro e X2 ⟨rfl, hx⟩
  have E := Lib.hid (B3.out.trans (hx.mono B3.out.size))
  clear K3 hx B3
  go_wp2_with fail
  go_ret
  exact ⟨rfl, E.out⟩

end Go.Proofs.Ytogninaejehinav
namespace Go.Proofs.Ytogninaejehinav
open Go.RowKit

set_option maxRecDepth 100000 in
set_option maxHeartbeats 1600000 in
theorem told_any (r : Nat) (f : Int) (b : Nat) (hf0 : 0 ≤ f) (hf : f ≤ 1000000000) (hb : b < 64) (w : World) (H : VarP r SpanT (.int .i64 f) (.int .u8 (b : Int)) w) :
    Calls Try.prog 36 #[.pointer (some ⟨r, 0, none⟩)] w fun e w' => OutS layIntS w (toldZ f b 6) e w' := by
  obtain ⟨i0, hi0, hz0, hsz0, hby0⟩ := info_of infoInt
  obtain ⟨Q, HQ⟩ : ∃ Q : Ending → World → Prop, Hid (Q = fun e w' => OutS layIntS w (toldZ f b 6) e w') := ⟨_, Lib.hid rfl⟩
  rw [← HQ.out]
  have HV := Lib.hid H
  have hal : Below w.heap.size w (w.alloc (.cells #[] 3)) := (Below.refl _ _).alloc (Nat.le_refl _) _
  have O1 : Hid (layIntS.own (w.alloc (.cells #[] 3)) w.heap.size [w.heap.size] [.slice (some ⟨w.heap.size, 0, none⟩) 0 0] []) := Lib.hid (flat_lit w _ (Nat.le_refl _))
  have B1 := Lib.hid hal
  clear hal H
  go_enter Try.func36, Try.ntmps36
  go_upto_region 2 with fail
  generalize w.alloc (.cells #[] 3) = Y1 at *
  go_wp2_with fail
  go_loopw [3, 7] (fun t c wr => ∃ (j g k : Nat) (ys : List Int), j ≤ 6 ∧ c = .int .i64 j ∧ t = .slice (some ⟨g, 0, none⟩) ys.length k ∧ Hid (ys = toldZ f b j) ∧ Hid (layIntS.own wr w.heap.size [g] [.slice (some ⟨g, 0, none⟩) ys.length k] ys) ∧ Hid (Below w.heap.size w wr)) (fun _ c _ => 6 - (intOf c).toNat)
  case atStart => exact ⟨0, w.heap.size, 0, [], Nat.zero_le _, rfl, rfl, Lib.hid rfl, O1, B1⟩
  case round =>
    obtain ⟨j, g, k, ys, hj, rfl, rfl, HY, HO, HB⟩ := hrel
    clear O1 B1
    by_cases hlt : j < 6
    · have hlt' : (j : Int) < 6 := by omega
      have HVW := Lib.hid (HV.out.next HB.out)
      have c0 := HVW.out.c0
      have c1 := HVW.out.c1
      have hwt : IntKind.i64.wrap (f - (j : Int)) = f - (j : Int) := by rw [IntKind.wrap_i64]; omega
      have K := Lib.hid (fun (X : World) (h : X.cell? ⟨r, 0, none⟩ = some (.int .i64 f)) => bitOf_any r f (f - (j : Int)) j hlt (by omega) X h)
      have ha := bits_and_u8_nat b (2 ^ j) (by omega) (by
        have : (2 : Nat) ^ j < 2 ^ 6 := Nat.pow_lt_pow_right (by omega) (by omega)
        omega)
      have hq := bit_asked b j
      have hyl : ys.length + 1 ≤ 1000000000 := by
        rw [HY.out]
        have := told_len f b j
        omega
      have HN : Hid ((b.testBit j = true → ys ++ [f - (j : Int)] = toldZ f b (j + 1)) ∧ (b.testBit j = false → ys = toldZ f b (j + 1))) := Lib.hid ⟨fun h => by rw [told_yes h, HY.out], fun h => by rw [told_no h, HY.out]⟩
      have hwr : w.heap.size ≤ wr.heap.size := HB.out.size
      generalize (b &&& 2 ^ j : Nat) = q at ha hq
      generalize (2 ^ j : Nat) = p at K ha
      cases hbt : b.testBit j with
      | true =>
        rw [hbt] at hq
        have hq0 : ((q : Int) == 0) = false := by rw [beq_eq_false_iff_ne]; intro h; have := hq.1 (by omega); cases this
        have HTA := Lib.hid (HN.out.1 hbt)
        clear hq hbt HN
        go_wp2_with fail
        go_quiet ((go_at_call 40; exact Calls.quiet_of_same (K.out _ (by assumption))))
        have HBN : Below wr.heap.size wr (wr.drewN nq) := below_drewN (Below.refl _ _) _
        have HO4 := Lib.hid (layIntS.next HO.out HBN)
        have HB4 := Lib.hid (HB.out.trans (HBN.mono HB.out.size))
        have hwr2 : w.heap.size ≤ (wr.drewN nq).heap.size := Nat.le_trans hwr HBN.size
        clear HO HB HBN c0 c1 hwr HVW
        generalize wr.drewN nq = wz at *
        go_wp2_with (at_builtin; refine wpList_pushF wz rfl _ _ 22 rfl w.heap.size 3 i0 _ 8 Lay.int flatIntN Try.underlying22 hi0 hz0 hsz0 hby0 rfl (by omega) (.slice (some ⟨g, 0, none⟩) ys.length k) [g] ys (by rfl) HO4.out (f - (j : Int)) #[.int .i64 (f - (j : Int))] rfl (by rfl) hyl hwr2 ?_; intro v1 w3 hown1 hnn1 hgr1 hbe1; obtain ⟨m1, mc1, rfl, hblk, _, _⟩ := flat_some flatIntN hown1 hnn1; rw [hblk] at hown1)
        have HO3 := Lib.hid hown1
        have HB3 := Lib.hid (HB4.out.trans hbe1)
        clear hown1 hnn1 hgr1 hbe1 hblk HO4 HB4
        go_wp2_with fail
        go_roundw
        case rel => exact ⟨j + 1, m1, mc1, ys ++ [f - (j : Int)], by omega, by go_num, by rw [List.length_append]; rfl, HTA, HO3, HB3⟩
        case measure => simp [intOf]; omega
      | false =>
        rw [hbt] at hq
        obtain rfl : q = 0 := hq.2 rfl
        have HTA := Lib.hid (HN.out.2 hbt)
        clear hq hbt HN
        go_wp2_with fail
        go_quiet ((go_at_call 40; exact Calls.quiet_of_same (K.out _ (by assumption))))
        have HBN : Below wr.heap.size wr (wr.drewN nq) := below_drewN (Below.refl _ _) _
        have HO4 := Lib.hid (layIntS.next HO.out HBN)
        have HB4 := Lib.hid (HB.out.trans (HBN.mono HB.out.size))
        clear HO HB HBN c0 c1 hwr HVW
        generalize wr.drewN nq = wz at *
        go_wp2_with fail
        go_roundw
        case rel => exact ⟨j + 1, g, k, ys, by omega, by go_num, rfl, HTA, HO4, HB4⟩
        case measure => simp [intOf]; omega
    · have hlt' : ¬ ((j : Int) < 6) := by omega
      obtain rfl : j = 6 := by omega
      obtain rfl : ys = toldZ f b 6 := HY.out
      have E : Hid (Q (.returned (.slice (some ⟨g, 0, none⟩) (toldZ f b 6).length k)) wr) := by
        rw [HQ.out]
        exact Lib.hid ⟨_, [g], rfl, by simp, HO.out, HB.out⟩
      clear HY HO HB
      generalize toldZ f b 6 = ys at *
      go_wp2_with fail
      exact E.out

end Go.Proofs.Ytogninaejehinav
