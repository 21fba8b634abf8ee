/-
  The program's functions on trees of bits.
-/
import Derived.Test.YtkfcoldjgijpcapTrieOkImpl
import Derived.Test.YtkfcoldjgijpcapLinkAll
import Derived.Test.YtkfcoldjgijpcapLinkWalks
import Derived.Test.YtkfcoldjgijpcapAddrImpl
namespace Go.Proofs.Ytkfcoldjgijpcap
open Go.RowKit

set_option maxRecDepth 100000 in
set_option maxHeartbeats 400000 in
theorem implTrieNew_any (w : World) : Calls Try.prog 9 #[] w fun e w' => OutT layTwigS w [tw0] e w' := by
  have hz : (w.alloc (.cells #[.slice (some ⟨w.heap.size + 1, 0, none⟩) 1 1] ItT)).heap.size = w.heap.size + 1 := by simp
  have O0 : layTwigS.own ((w.alloc (.cells #[.slice (some ⟨w.heap.size + 1, 0, none⟩) 1 1] ItT)).alloc (.cells #[.int .i64 0, .int .i64 0, .int .i64 0] TwigT)) w.heap.size [w.heap.size + 1] [.slice (some ⟨w.heap.size + 1, 0, none⟩) 1 1] [tw0] := by
    have h := World.ownsRow_lit (base := w.heap.size) (e := TwigT) (size := 3) (w.alloc (.cells #[.slice (some ⟨w.heap.size + 1, 0, none⟩) 1 1] ItT)) #[.int .i64 0, .int .i64 0, .int .i64 0] 1 (by omega) (by decide) rfl
    rw [hz] at h
    exact flat_own flatTwig h ⟨[_, _, _], [], rfl, layTwig_rd.2 rfl, rfl⟩
  have HO := Lib.hid O0
  have HB := Lib.hid (((Below.refl w.heap.size w).alloc (Nat.le_refl _) (.cells #[.slice (some ⟨w.heap.size + 1, 0, none⟩) 1 1] ItT)).alloc (by simp) (.cells #[.int .i64 0, .int .i64 0, .int .i64 0] TwigT))
  clear O0 hz
  go_enter Try.func9, Try.ntmps9
  go_wp2_with fail
  exact bodyPost_ret (v := .agg #[.slice (some ⟨w.heap.size + 1, 0, none⟩) 1 1]) (by simp [results, Try.results9, go_sem]) rfl ⟨[.slice (some ⟨w.heap.size + 1, 0, none⟩) 1 1], _, rfl, by simp, HO.out, HB.out⟩

set_option maxRecDepth 100000 in
set_option maxHeartbeats 800000 in
theorem copyOfTrie_any (v : Value) (t : List Tw) (w : World) (h : layTwigS.rd w [v] t) (hl : t.length ≤ 100000000) :
    Calls Try.prog 37 #[.agg #[v]] w fun e w' => ∃ g cp, e = .returned (.agg #[.slice (some ⟨g, 0, none⟩) t.length cp]) ∧ layTwigS.own w' w.heap.size [g] [.slice (some ⟨g, 0, none⟩) t.length cp] t ∧ Below w.heap.size w w' := by
  obtain ⟨ao, cp0, rfl⟩ := rows_form h
  obtain ⟨i0, hi, hz0, hsz0, hby0⟩ := info_of infoTwig
  have HR := Lib.hid h
  clear h
  have e1 : (w.alloc (.cells #[.slice ao t.length cp0] ItT)).heap.size = w.heap.size + 1 := by simp
  have V0 := Lib.hid ((VarA.new w ItT #[.slice ao t.length cp0]).alloc (.cells #[.slice none 0 0] ItT))
  have V1 := VarA.new (w.alloc (.cells #[.slice ao t.length cp0] ItT)) ItT #[.slice none 0 0]
  rw [e1] at V1
  have HV1 := Lib.hid V1
  have B0 := Lib.hid (((Below.refl w.heap.size w).alloc (Nat.le_refl _) (.cells #[.slice ao t.length cp0] ItT)).alloc (by simp) (.cells #[.slice none 0 0] ItT))
  clear e1 V1
  go_enter Try.func37, Try.ntmps37
  go_upto_region 1 with fail
  generalize (w.alloc (.cells #[.slice ao t.length cp0] ItT)).alloc (.cells #[.slice none 0 0] ItT) = Y0 at *
  have hb0 : w.heap.size + 1 + 1 ≤ Y0.heap.size := HV1.out.lt
  have hblow : Below Y0.heap.size Y0 (Y0.alloc (.cells #[] TwigT)) := (Below.refl _ _).alloc (Nat.le_refl _) _
  have c0 : Y0.cell? ⟨w.heap.size, 0, none⟩ = some (.slice ao t.length cp0) := V0.out.cell 0
  have c0' : (Y0.alloc (.cells #[] TwigT)).cell? ⟨w.heap.size, 0, none⟩ = some (.slice ao t.length cp0) := (V0.out.next hblow).cell 0
  go_wp2_with (at_builtin; refine wpList_copyF (Y0.alloc (.cells #[] TwigT)) rfl _ _ 22 rfl (w.heap.size + 1 + 1) TwigT i0 _ 24 layTwig flatTwig Try.underlying22 hi hz0 hsz0 hby0 rfl (by omega) _ _ _ rfl (flat_lit Y0 _ hb0) (fun e => by cases e) _ t rfl (layTwigS.below HR.out (B0.out.trans (hblow.mono B0.out.size))) (by simp; omega) (by simp; omega) ?_)
  intro v1 w1 hown1 hnn1 hgr1 hbe1
  obtain ⟨g1, cp1, rfl, hblk, hg1b, hg1l⟩ := flat_some flatTwig hown1 hnn1
  rw [hblk] at hown1
  have hc : Chg [Y0.heap.size] (Y0.alloc (.cells #[] TwigT)) w1 := Chg.grown hgr1 _ (fun k hk => by simp [Value.ownBlock] at hk; simp [hk])
  have R1 : VarA (w.heap.size + 1) ItT #[.slice none 0 0] w1 := ⟨(hc.block _ (by simp; omega) (by simp; omega)).trans (HV1.out.next hblow).row⟩
  have BB := Lib.hid ((B0.out.trans (hblow.mono B0.out.size)).trans (hbe1.mono (by omega)))
  have r0 : w1.cell? ⟨w.heap.size + 1, 0, none⟩ = some (.slice none 0 0) := R1.cell 0
  have r1 : w1.frozen? ⟨w.heap.size + 1, 0, none⟩ = false := R1.free 0
  have j0 := (R1.set 0 (.slice (some ⟨g1, 0, none⟩) t.length cp1)).cell 0
  have FIN : Hid (layTwigS.own (w1.setCell ⟨w.heap.size + 1, 0, none⟩ (.slice (some ⟨g1, 0, none⟩) t.length cp1)) w.heap.size [g1] [.slice (some ⟨g1, 0, none⟩) t.length cp1] t ∧ Below w.heap.size w (w1.setCell ⟨w.heap.size + 1, 0, none⟩ (.slice (some ⟨g1, 0, none⟩) t.length cp1))) :=
    ⟨layTwigS.lower (layTwigS.chg hown1 (Chg.cell _ _ _ _) (by simp; omega)) (by omega), BB.out.trans ((Chg.cell w1 _ 0 _).below (by simp) BB.out.size)⟩
  clear hown1 hgr1 hbe1 hc R1 hblk hnn1 hg1b hg1l c0 c0' hblow
  go_wp2_with fail
  exact bodyPost_ret (v := .agg #[.slice (some ⟨g1, 0, none⟩) t.length cp1]) (by simp [results, Try.results37, go_sem, j0]) rfl ⟨_, _, rfl, FIN.out.1, FIN.out.2⟩

set_option maxRecDepth 100000 in
set_option maxHeartbeats 800000 in
theorem implTrieFind_no (v : Value) (t : List Tw) (a : Int) (_hwa : (Lit.int .i64 a).wf = true) (w : World) (h : layTwigS.rd w [v] t) (hl : t.length ≤ 100000000) (hn : ¬ TrieOkP t ∨ (a < 0 ∨ 4294967295 < a)) :
    Calls Try.prog 21 #[.agg #[v], .int .i64 a] w fun e w' => e = .returned (.int .i64 0) ∧ Below w.heap.size w w' := by
  obtain ⟨ao, cp, rfl⟩ := rows_form h
  have A0 := Lib.hid (VarA.new w ItT #[.slice ao t.length cp])
  have BY := Lib.hid ((Below.refl w.heap.size w).alloc (Nat.le_refl _) (.cells #[.slice ao t.length cp] ItT))
  have H1 := Lib.hid (implTrieOk_any _ t _ (layTwigS.below h BY.out) hl)
  have HN := Lib.hid hn
  clear h hn
  go_enter Try.func21, Try.ntmps21
  go_upto_region 1 with fail
  generalize w.alloc (.cells #[.slice ao t.length cp] ItT) = Y0 at *
  have c0 : Y0.cell? ⟨w.heap.size, 0, none⟩ = some (.slice ao t.length cp) := A0.out.cell 0
  go_wp2_with fail
  refine (H1.out).mono ?_
  rintro e Y ⟨⟨hk, rfl⟩ | ⟨hk, rfl⟩, hb⟩
  · have H2 := Lib.hid (implAddrOk_no a (HN.out.resolve_left (fun h => h hk)))
    have HB := Lib.hid (BY.out.trans (hb.mono BY.out.size))
    clear hb hk
    go_wp2_with fail
    refine (H2.out _).mono ?_
    rintro e Y1 ⟨rfl, hb1⟩
    have HB1 := Lib.hid (HB.out.trans (hb1.mono HB.out.size))
    clear hb1
    go_wp2_with fail
    go_ret
    exact ⟨rfl, HB1.out⟩
  · have HB := Lib.hid (BY.out.trans (hb.mono BY.out.size))
    clear hb hk
    go_wp2_with fail
    go_ret
    exact ⟨rfl, HB.out⟩

set_option maxRecDepth 100000 in
set_option maxHeartbeats 800000 in
theorem implTrieFind_yes (v : Value) (t : List Tw) (a : Nat) (w : World) (h : layTwigS.rd w [v] t) (ht : TrieOkP t) (ha : a ≤ 4294967295) :
    Calls Try.prog 21 #[.agg #[v], .int .i64 a] w fun e w' => e = .returned (.int .i64 (findP t a)) ∧ Below w.heap.size w w' := by
  obtain ⟨ao, cp, rfl⟩ := rows_form h
  have A0 := Lib.hid (VarA.new w ItT #[.slice ao t.length cp])
  have BY := Lib.hid ((Below.refl w.heap.size w).alloc (Nat.le_refl _) (.cells #[.slice ao t.length cp] ItT))
  have H1 := Lib.hid (implTrieOk_any _ t _ (layTwigS.below h BY.out) (by have := ht.2; omega))
  have H2 := Lib.hid (implAddrOk_yes (a : Int) (by omega) (by omega))
  have HR := Lib.hid h
  have HT := Lib.hid ht
  obtain ⟨f, F⟩ : ∃ f, Hid (f = findP t a) := ⟨_, rfl⟩
  rw [← F.out]
  clear h ht
  go_enter Try.func21, Try.ntmps21
  go_upto_region 1 with fail
  generalize w.alloc (.cells #[.slice ao t.length cp] ItT) = Y0 at *
  have c0 : Y0.cell? ⟨w.heap.size, 0, none⟩ = some (.slice ao t.length cp) := A0.out.cell 0
  go_wp2_with fail
  refine (H1.out).mono ?_
  rintro e Y ⟨⟨hk, rfl⟩ | ⟨hk, rfl⟩, hb⟩
  rotate_left
  · exact absurd HT.out hk
  have A1 := Lib.hid (A0.out.next hb)
  have B1 := Lib.hid (BY.out.trans (hb.mono BY.out.size))
  clear hb hk A0 BY H1 c0
  go_wp2_with fail
  refine (H2.out _).mono ?_
  rintro e Y2 ⟨rfl, hb⟩
  have A2 := Lib.hid (A1.out.next hb)
  have B2 := Lib.hid (B1.out.trans (hb.mono B1.out.size))
  clear hb A1 B1 H2
  have c0 : Y2.cell? ⟨w.heap.size, 0, none⟩ = some (.slice ao t.length cp) := A2.out.cell 0
  have KL := Lib.hid (linksOf_any _ t Y2 (layTwigS.below HR.out B2.out) HT.out)
  go_wp2_with fail
  refine (KL.out).mono ?_
  rintro e Y3 ⟨v', bs, rfl, hbl, hN, hO, hb⟩
  have B3 := Lib.hid (B2.out.trans (hb.mono B2.out.size))
  have KF := Lib.hid (find_any Y2.heap.size v' t bs a Y3 hbl hN hO HT.out.1 ha)
  clear hN hO hb hbl KL c0
  go_wp2_with fail
  refine (KF.out).mono ?_
  rintro e Y4 ⟨rfl, hw⟩
  rw [hw]
  clear hw
  rw [← F.out]
  go_wp2_with fail
  go_ret
  exact ⟨rfl, B3.out⟩

/-- How a put ends: the answer is laid into the result. -/
theorem put_fin {w : World} {v : Value} {a n p : Int} {t r : List Tw} {b : Bool} {Y Z : World} {a4 : Option Addr} {c4 : Nat} {fp : List Nat} (h : TP w v a n Y) (hd : fp.Nodup) (ho : layTwigS.own Z Y.heap.size fp [.slice a4 r.length c4] r) (hb : Below Y.heap.size Y Z) (ht : PutTold t a n p r b) :
    PutGives t a n p w (.returned (.tuple #[.agg #[.slice a4 r.length c4], .bool b])) (Z.setCell ⟨w.heap.size + 1 + 1, 0, none⟩ (.slice a4 r.length c4)) := by
  have h1 := h.next hb
  have hlt := h.br.lt
  have hs := h.below.size
  refine ⟨_, fp, r, b, rfl, ht, hd, layTwigS.lower (layTwigS.chg ho (Chg.cell _ _ _ _) (fun g hg e => ?_)) hs, h1.below.trans ((Chg.cell Z _ 0 _).below (by simp; omega) h1.below.size)⟩
  have := (layTwigS.blocks ho g hg).1
  simp at e
  omega

set_option maxRecDepth 100000 in
set_option maxHeartbeats 1600000 in
theorem implTriePut_any (v : Value) (t : List Tw) (a n p : Int) (_hwa : (Lit.int .i64 a).wf = true) (_hwn : (Lit.int .i64 n).wf = true) (_hwp : (Lit.int .i64 p).wf = true) (w : World) (h : layTwigS.rd w [v] t) (hl : t.length ≤ 100000000) :
    Calls Try.prog 19 #[.agg #[v], .agg #[.int .i64 a, .int .i64 n], .int .i64 p] w fun e w' => PutGives t a n p w e w' := by
  obtain ⟨ao, cp0, rfl⟩ := rows_form h
  have HR := Lib.hid h
  clear h
  have T0 : TP w (.slice ao t.length cp0) a n (((w.alloc (.cells #[.slice ao t.length cp0] ItT)).alloc (.cells #[.int .i64 a, .int .i64 n] PfT)).alloc (.cells #[.slice none 0 0] ItT)) := by
    have e1 : (w.alloc (.cells #[.slice ao t.length cp0] ItT)).heap.size = w.heap.size + 1 := by simp
    have e2 : ((w.alloc (.cells #[.slice ao t.length cp0] ItT)).alloc (.cells #[.int .i64 a, .int .i64 n] PfT)).heap.size = w.heap.size + 1 + 1 := by simp
    have A1 := (VarA.new (w.alloc (.cells #[.slice ao t.length cp0] ItT)) PfT #[.int .i64 a, .int .i64 n]).alloc (.cells #[.slice none 0 0] ItT)
    have A2 := VarA.new ((w.alloc (.cells #[.slice ao t.length cp0] ItT)).alloc (.cells #[.int .i64 a, .int .i64 n] PfT)) ItT #[.slice none 0 0]
    rw [e1] at A1
    rw [e2] at A2
    exact ⟨((VarA.new w _ _).alloc _).alloc _, A1, A2, (((Below.refl w.heap.size w).alloc (Nat.le_refl _) _).alloc (by simp) _).alloc (by simp; omega) _⟩
  have H0 := Lib.hid T0
  clear T0
  -- what the calls find
  have HO := Lib.hid (fun Y (hY : TP w (.slice ao t.length cp0) a n Y) => implTrieOk_any _ t Y (layTwigS.below HR.out hY.below) hl)
  have HC := Lib.hid (fun Y (hY : TP w (.slice ao t.length cp0) a n Y) => copyOfTrie_any _ t Y (layTwigS.below HR.out hY.below) hl)
  go_enter Try.func19, Try.ntmps19
  go_upto_region 1 with fail
  generalize ((w.alloc (.cells #[.slice ao t.length cp0] ItT)).alloc (.cells #[.int .i64 a, .int .i64 n] PfT)).alloc (.cells #[.slice none 0 0] ItT) = Y0 at *
  have c0 : Y0.cell? ⟨w.heap.size, 0, none⟩ = some (.slice ao t.length cp0) := H0.out.bt.cell 0
  have K1 := Lib.hid (HO.out Y0 H0.out)
  go_wp2_with fail
  refine (K1.out).mono ?_
  rintro e Y1 ⟨hTold, hb⟩
  have H1 := Lib.hid (H0.out.next hb)
  clear hb H0 c0 K1 HO
  have c0 : Y1.cell? ⟨w.heap.size, 0, none⟩ = some (.slice ao t.length cp0) := H1.out.bt.cell 0
  have p0 : Y1.cell? ⟨w.heap.size + 1, 0, none⟩ = some (.int .i64 a) := H1.out.bp.cell 0
  have p1 : Y1.cell? ⟨w.heap.size + 1, 1, none⟩ = some (.int .i64 n) := H1.out.bp.cell 1
  rcases hTold with ⟨hok, rfl⟩ | ⟨hok, rfl⟩
  · have HOKT := Lib.hid hok
    clear hok
    by_cases hpo : PrefOk a n
    · have K2 := Lib.hid (implPrefixOk_yes a n hpo)
      have HPO := Lib.hid hpo
      go_wp2_with fail
      refine (K2.out _).mono ?_
      rintro e Y2 ⟨rfl, hb⟩
      have H2 := Lib.hid (H1.out.next hb)
      clear hb H1 c0 p0 p1 K2
      have c0 : Y2.cell? ⟨w.heap.size, 0, none⟩ = some (.slice ao t.length cp0) := H2.out.bt.cell 0
      by_cases hpt : 0 ≤ p ∧ p ≤ 99
      · have K3 := Lib.hid (isTwigTo_yes p hpt.1 hpt.2)
        have HPT := Lib.hid hpt
        obtain ⟨A, N, rfl, rfl, hA, hN, _⟩ := hpo.nats
        clear hpt hpo
        go_wp2_with fail
        refine (K3.out _).mono ?_
        rintro e Y3 ⟨rfl, hw⟩
        rw [hw]
        clear hw K3
        clear Y3
        have KL := Lib.hid (linksOf_any _ t Y2.drew (layTwigS.below HR.out H2.out.below.drew) HOKT.out)
        have HD : Hid (TP w (.slice ao t.length cp0) (A : Int) (N : Int) Y2.drew) := H2.out.next ((Below.refl _ Y2).drew)
        have SS : Hid (∀ X, TP w (.slice ao t.length cp0) (A : Int) (N : Int) X → X.cell? ⟨w.heap.size, 0, none⟩ = some (.slice ao t.length cp0) ∧ X.cell? ⟨w.heap.size + 1, 0, none⟩ = some (.int .i64 (A : Int)) ∧ X.cell? ⟨w.heap.size + 1, 1, none⟩ = some (.int .i64 (N : Int))) := fun X hX => ⟨hX.bt.cell 0, hX.bp.cell 0, hX.bp.cell 1⟩
        have hS0 := SS.out _ HD.out
        go_wp2_with fail
        go_region_held3 (fun X => X.cell? ⟨w.heap.size, 0, none⟩ = some (.slice ao t.length cp0) ∧ X.cell? ⟨w.heap.size + 1, 0, none⟩ = some (.int .i64 (A : Int)) ∧ X.cell? ⟨w.heap.size + 1, 1, none⟩ = some (.int .i64 (N : Int))) (first | (with_reducible assumption)) (first | (go_at_call 38; refine (KL.out).mono ?_; rintro e v1 ⟨tv, bs, rfl, hbl, hNd, hOw, hb1⟩; have HX1 := Lib.hid (HD.out.next hb1); have hS1 := SS.out _ HX1.out) | (go_at_call 39; refine (put_any Y2.drew.heap.size tv t bs A N p v1 hbl hNd hOw HOKT.out.1 HOKT.out.2 hA hN hb1.size).mono ?_; rintro e v2 ⟨tv2, bs2, rfl, hbl2, hNd2, hOw2, hb2⟩; have hb12 := hb1.trans hb2; have HX2 := Lib.hid (HD.out.next hb12); have hS2 := SS.out _ HX2.out))
        all_goals
          obtain ⟨po, pc, rfl, hpf⟩ := hOw2.row.form
          clear hpf hS0 hS1 hS2 hNd hOw hbl hb12 KL
          have hput := (putT_ok HOKT.out.1 (bitsP A N) (bitsP_bits _ _) p HPT.out.1 HPT.out.2).1
          by_cases h4 : bs2.length ≤ 400
          · have h4' : ¬ ((400 : Int) < (bs2.length : Int)) := by omega
            have HTD : Hid (PutTold t (A : Int) (N : Int) p (putT t (bitsP A N) p) true) := .inl ⟨rfl, ⟨HOKT.out, HPO.out, HPT.out⟩, by simp only [Int.toNat_natCast]; omega, by simp only [Int.toNat_natCast]⟩
            have KT := Lib.hid (told_any Y2.drew.heap.size (.slice po bs2.length pc) (putT t (bitsP A N) p) bs2 v2 hbl2 hNd2 hOw2 hput (by omega))
            clear hbl2 hNd2 hOw2 hput
            go_wp2_with fail
            refine (KT.out).mono ?_
            rintro e Z ⟨v4, fp, rfl, hd, hown, hb⟩
            obtain ⟨a4, c4, rfl⟩ := rows_form (layTwigS.read hown)
            have HZ := Lib.hid (HX2.out.next hb)
            have FIN := Lib.hid (put_fin HX2.out hd hown hb HTD.out)
            clear hown hb KT hd
            obtain ⟨r, HRR⟩ : ∃ r, Hid (r = putT t (bitsP A N) p) := ⟨_, rfl⟩
            rw [← HRR.out] at FIN ⊢
            have q0 : Z.cell? ⟨w.heap.size + 1 + 1, 0, none⟩ = some (.slice none 0 0) := HZ.out.br.cell 0
            have f0 : Z.frozen? ⟨w.heap.size + 1 + 1, 0, none⟩ = false := HZ.out.br.free 0
            have j0 := (HZ.out.br.set 0 (.slice a4 r.length c4)).cell 0
            go_wp2_with fail
            exact bodyPost_ret (v := .tuple #[.agg #[.slice a4 r.length c4], .bool true]) (by simp [results, Try.results19, go_sem, j0]) rfl FIN.out
          · have h4' : (400 : Int) < (bs2.length : Int) := by omega
            have HNO : Hid (¬ ((TrieOkP t ∧ PrefOk (A : Int) (N : Int) ∧ (0 ≤ p ∧ p ≤ 99)) ∧ (putT t (bitsP (A : Int).toNat (N : Int).toNat) p).length ≤ 400)) := fun h => by
              have h2 := h.2
              simp only [Int.toNat_natCast] at h2
              omega
            clear hbl2 hNd2 hOw2 hput
            have c0 : v2.cell? ⟨w.heap.size, 0, none⟩ = some (.slice ao t.length cp0) := HX2.out.bt.cell 0
            have KC := Lib.hid (HC.out v2 HX2.out)
            go_wp2_with fail
            refine (KC.out).mono ?_
            rintro e Z ⟨g, cq, rfl, hown, hb⟩
            have HZ := Lib.hid (HX2.out.next hb)
            have q0 : Z.cell? ⟨w.heap.size + 1 + 1, 0, none⟩ = some (.slice none 0 0) := HZ.out.br.cell 0
            have f0 : Z.frozen? ⟨w.heap.size + 1 + 1, 0, none⟩ = false := HZ.out.br.free 0
            have j0 := (HZ.out.br.set 0 (.slice (some ⟨g, 0, none⟩) t.length cq)).cell 0
            have FIN : Hid (PutGives t (A : Int) (N : Int) p w (.returned (.tuple #[.agg #[.slice (some ⟨g, 0, none⟩) t.length cq], .bool false])) (Z.setCell ⟨w.heap.size + 1 + 1, 0, none⟩ (.slice (some ⟨g, 0, none⟩) t.length cq))) := put_fin HX2.out (by simp) hown hb (.inr ⟨rfl, rfl, HNO.out⟩)
            clear hown hb KC
            go_wp2_with fail
            exact bodyPost_ret (v := .tuple #[.agg #[.slice (some ⟨g, 0, none⟩) t.length cq], .bool false]) (by simp [results, Try.results19, go_sem, j0]) rfl FIN.out
      · have K3 := Lib.hid (isTwigTo_no p hpt)
        have HNO : Hid (¬ ((TrieOkP t ∧ PrefOk a n ∧ (0 ≤ p ∧ p ≤ 99)) ∧ (putT t (bitsP a.toNat n.toNat) p).length ≤ 400)) := fun h => hpt h.1.2.2
        clear hpt hpo
        go_wp2_with fail
        refine (K3.out _).mono ?_
        rintro e Y3 ⟨rfl, hw⟩
        rw [hw]
        clear hw K3 c0
        clear Y3
        have c0 : Y2.cell? ⟨w.heap.size, 0, none⟩ = some (.slice ao t.length cp0) := H2.out.bt.cell 0
        have KC := Lib.hid (HC.out Y2 H2.out)
        go_wp2_with fail
        refine (KC.out).mono ?_
        rintro e Z ⟨g, cq, rfl, hown, hb⟩
        have HZ := Lib.hid (H2.out.next hb)
        have q0 : Z.cell? ⟨w.heap.size + 1 + 1, 0, none⟩ = some (.slice none 0 0) := HZ.out.br.cell 0
        have f0 : Z.frozen? ⟨w.heap.size + 1 + 1, 0, none⟩ = false := HZ.out.br.free 0
        have j0 := (HZ.out.br.set 0 (.slice (some ⟨g, 0, none⟩) t.length cq)).cell 0
        have FIN : Hid (PutGives t a n p w (.returned (.tuple #[.agg #[.slice (some ⟨g, 0, none⟩) t.length cq], .bool false])) (Z.setCell ⟨w.heap.size + 1 + 1, 0, none⟩ (.slice (some ⟨g, 0, none⟩) t.length cq))) := put_fin H2.out (by simp) hown hb (.inr ⟨rfl, rfl, HNO.out⟩)
        clear hown hb KC
        go_wp2_with fail
        exact bodyPost_ret (v := .tuple #[.agg #[.slice (some ⟨g, 0, none⟩) t.length cq], .bool false]) (by simp [results, Try.results19, go_sem, j0]) rfl FIN.out
    · have K2 := Lib.hid (implPrefixOk_no a n hpo)
      have HNO : Hid (¬ ((TrieOkP t ∧ PrefOk a n ∧ (0 ≤ p ∧ p ≤ 99)) ∧ (putT t (bitsP a.toNat n.toNat) p).length ≤ 400)) := fun h => hpo h.1.2.1
      clear hpo
      go_wp2_with fail
      refine (K2.out _).mono ?_
      rintro e Y2 ⟨rfl, hb⟩
      have H2 := Lib.hid (H1.out.next hb)
      clear hb H1 c0 p0 p1 K2
      have c0 : Y2.cell? ⟨w.heap.size, 0, none⟩ = some (.slice ao t.length cp0) := H2.out.bt.cell 0
      have KC := Lib.hid (HC.out Y2 H2.out)
      go_wp2_with fail
      refine (KC.out).mono ?_
      rintro e Z ⟨g, cq, rfl, hown, hb⟩
      have HZ := Lib.hid (H2.out.next hb)
      have q0 : Z.cell? ⟨w.heap.size + 1 + 1, 0, none⟩ = some (.slice none 0 0) := HZ.out.br.cell 0
      have f0 : Z.frozen? ⟨w.heap.size + 1 + 1, 0, none⟩ = false := HZ.out.br.free 0
      have j0 := (HZ.out.br.set 0 (.slice (some ⟨g, 0, none⟩) t.length cq)).cell 0
      have FIN : Hid (PutGives t a n p w (.returned (.tuple #[.agg #[.slice (some ⟨g, 0, none⟩) t.length cq], .bool false])) (Z.setCell ⟨w.heap.size + 1 + 1, 0, none⟩ (.slice (some ⟨g, 0, none⟩) t.length cq))) := put_fin H2.out (by simp) hown hb (.inr ⟨rfl, rfl, HNO.out⟩)
      clear hown hb KC
      go_wp2_with fail
      exact bodyPost_ret (v := .tuple #[.agg #[.slice (some ⟨g, 0, none⟩) t.length cq], .bool false]) (by simp [results, Try.results19, go_sem, j0]) rfl FIN.out
  · have HNO : Hid (¬ ((TrieOkP t ∧ PrefOk a n ∧ (0 ≤ p ∧ p ≤ 99)) ∧ (putT t (bitsP a.toNat n.toNat) p).length ≤ 400)) := fun h => hok h.1.1
    clear hok c0 p0 p1
    have c0 : Y1.cell? ⟨w.heap.size, 0, none⟩ = some (.slice ao t.length cp0) := H1.out.bt.cell 0
    have KC := Lib.hid (HC.out Y1 H1.out)
    go_wp2_with fail
    refine (KC.out).mono ?_
    rintro e Z ⟨g, cq, rfl, hown, hb⟩
    have HZ := Lib.hid (H1.out.next hb)
    have q0 : Z.cell? ⟨w.heap.size + 1 + 1, 0, none⟩ = some (.slice none 0 0) := HZ.out.br.cell 0
    have f0 : Z.frozen? ⟨w.heap.size + 1 + 1, 0, none⟩ = false := HZ.out.br.free 0
    have j0 := (HZ.out.br.set 0 (.slice (some ⟨g, 0, none⟩) t.length cq)).cell 0
    have FIN : Hid (PutGives t a n p w (.returned (.tuple #[.agg #[.slice (some ⟨g, 0, none⟩) t.length cq], .bool false])) (Z.setCell ⟨w.heap.size + 1 + 1, 0, none⟩ (.slice (some ⟨g, 0, none⟩) t.length cq))) := put_fin H1.out (by simp) hown hb (.inr ⟨rfl, rfl, HNO.out⟩)
    clear hown hb KC
    go_wp2_with fail
    exact bodyPost_ret (v := .tuple #[.agg #[.slice (some ⟨g, 0, none⟩) t.length cq], .bool false]) (by simp [results, Try.results19, go_sem, j0]) rfl FIN.out

end Go.Proofs.Ytkfcoldjgijpcap
