/-
  The program's TrieOk.
-/
import Derived.Test.YtkfcoldjgijpcapLinkAll
import Derived.Test.YtkfcoldjgijpcapTrieOkSpec
namespace Go.Proofs.Ytkfcoldjgijpcap
open Go.RowKit

/-- A table of counts of every place. -/
def ntab (f : Nat → Int) (n : Nat) : List Int := (List.range n).map f
theorem ntab_length (f : Nat → Int) (n : Nat) : (ntab f n).length = n := by simp [ntab]
theorem ntab_get (f : Nat → Int) (n m : Nat) (h : m < (ntab f n).length) : (ntab f n)[m] = f m := by simp [ntab]
theorem ntab_congr (f g : Nat → Int) (n : Nat) (h : ∀ m, m < n → f m = g m) : ntab f n = ntab g n := by
  unfold ntab
  exact List.map_congr_left fun m hm => h m (List.mem_range.1 hm)
theorem ntab_set (f : Nat → Int) (n m : Nat) (y : Int) : (ntab f n).set m y = ntab (fun j => if j = m then y else f j) n := by
  apply List.ext_getElem?
  intro i
  rw [List.getElem?_set]
  by_cases hi : m = i
  · subst hi
    rw [if_pos rfl, ntab_length]
    by_cases hm : m < n
    · rw [if_pos hm]
      simp [ntab, hm]
    · rw [if_neg hm, List.getElem?_eq_none (by rw [ntab_length]; omega)]
  · rw [if_neg hi]
    by_cases hn : i < n
    · simp [ntab, hn, Ne.symm hi]
    · rw [List.getElem?_eq_none (by rw [ntab_length]; omega), List.getElem?_eq_none (by rw [ntab_length]; omega)]

set_option maxRecDepth 100000 in
set_option maxHeartbeats 1600000 in
theorem implTrieOk_any (v : Value) (t : List Tw) (w : World) (h : layTwigS.rd w [v] t) (hl : t.length ≤ 100000000) :
    Calls Try.prog 16 #[.agg #[v]] w fun e w' => TrieTold t e ∧ Below w.heap.size w w' := by
  obtain ⟨ao, cp, rfl⟩ := rows_form h
  have HR := Lib.hid h
  clear h
  have A0 := Lib.hid (VarA.new w 24 #[.slice ao t.length cp])
  have BY := Lib.hid ((Below.refl w.heap.size w).alloc (Nat.le_refl _) (.cells #[.slice ao t.length cp] 24))
  by_cases hlen : 1 ≤ t.length ∧ t.length ≤ 400
  · have hz1 : ((t.length : Int) == 0) = false := by rw [beq_eq_false_iff_ne]; omega
    have hz2 : ¬ ((400 : Int) < (t.length : Int)) := by omega
    obtain ⟨i0, hi, hz0, hsz0, hby0⟩ := info_of infoInt
    go_enter Try.func16, Try.ntmps16
    go_upto_region 1 with fail
    generalize w.alloc (.cells #[.slice ao t.length cp] 24) = Y at *
    have c0 : Y.cell? ⟨w.heap.size, 0, none⟩ = some (.slice ao t.length cp) := A0.out.cell 0
    have hlt0 := A0.out.lt
    go_wp2_with (at_make; refine wpList_make_full _ rfl _ _ 63 rfl (w.heap.size + 1) 3 i0 (.int .i64 0) 1 Try.underlying63 hi hz0 hsz0 .i64 .i64 _ _ t.length rfl rfl rfl rfl (by rw [hby0]; omega) (by unfold maxLen; omega) hlt0 ?_)
    intro w1 hown1 hg1
    have hbel : Below Y.heap.size Y w1 := below_grown hg1 (fun k h => by cases h) (Nat.le_refl _)
    have hrep : List.replicate t.length (0 : Int) = ntab (fun j => cntT (t.take 0) j) t.length := by
      apply List.ext_getElem?
      intro i
      by_cases hi : i < t.length
      · simp [ntab, hi, cntT]
      · rw [List.getElem?_eq_none (by simp; omega), List.getElem?_eq_none (by rw [ntab_length]; omega)]
    have hown : layIntS.own w1 (w.heap.size + 1) [Y.heap.size] [.slice (some ⟨Y.heap.size, 0, none⟩) t.length t.length] (ntab (fun j => cntT (t.take 0) j) t.length) := by
      rw [← hrep]
      exact rows_made (cs := #[.int .i64 0]) (by rw [show t.length * Lay.int.k = t.length from Nat.mul_one _]; exact hown1) rfl (int_own.2 ⟨rfl, rfl⟩)
    have T0 := Lib.hid (⟨A0.out.next hbel, hown, by simp, BY.out.trans (hbel.mono BY.out.size)⟩ : TOI w (.slice ao t.length cp) (.slice (some ⟨Y.heap.size, 0, none⟩) t.length t.length) [Y.heap.size] (ntab (fun j => cntT (t.take 0) j) t.length) w1)
    clear hown1 hg1 hbel hrep hown c0 hlt0 A0 BY hz1 hz2
    generalize Y.heap.size = ga at *
    clear Y
    have c0 : w1.cell? ⟨w.heap.size, 0, none⟩ = some (.slice ao t.length cp) := T0.out.box.cell 0
    go_wp2_with fail
    go_loopw [27] (fun c wr => ∃ i : Nat, i ≤ t.length ∧ c = .int .i64 i ∧ (∀ j, j < i → TwigOk t.length j (atT t j)) ∧ TOI w (.slice ao t.length cp) (.slice (some ⟨ga, 0, none⟩) t.length t.length) [ga] (ntab (fun j => cntT (t.take i) j) t.length) wr) (fun c _ => t.length - (intOf c).toNat)
    case atStart => exact ⟨0, Nat.zero_le _, rfl, fun j hj => absurd hj (by omega), T0.out⟩
    case round =>
      clear T0 c0
      obtain ⟨i, hit, rfl, hok, hT⟩ := hrel
      have HOK := Lib.hid hok
      have HT := Lib.hid hT
      clear hok hT
      by_cases hlt : i < t.length
      · have hlt' : (i : Int) < (t.length : Int) := by omega
        have hat : t[i]? = some (atT t i) := by unfold atT; rw [List.getD_eq_getElem?_getD, List.getElem?_eq_getElem hlt]; rfl
        have HTK := Lib.hid (take_at t i hlt)
        obtain ⟨g, off, cs, rfl, hg, hr, hc⟩ := rows_elem (layTwigS.below HR.out HT.out.below) i _ hat
        have HAT : Hid (∀ tt, tt = atT t i → TwigOk t.length i tt → TwigOk t.length i (atT t i)) := fun tt e h => by rw [← e]; exact h
        have HNO : Hid (∀ tt, tt = atT t i → ¬ TwigOk t.length i tt → ¬ TrieOkP t) := fun tt e h hk => h (by rw [e]; exact ((trieR_iff t).1 hk.1).2.1 i hlt)
        obtain ⟨x, X⟩ : ∃ x, Hid (x = atT t i) := ⟨_, rfl⟩
        rw [← X.out, layTwig_rd] at hr
        subst hr
        rw [← X.out] at HTK
        obtain ⟨x0, x1, x2⟩ := x
        have d0 : wr.cell? ⟨g, off + i * 3, none⟩ = some (.int .i64 x0) := hc 0 _ rfl
        have d1 : wr.cell? ⟨g, off + i * 3 + 1, none⟩ = some (.int .i64 x1) := hc 1 _ rfl
        have d2 : wr.cell? ⟨g, off + i * 3 + 2, none⟩ = some (.int .i64 x2) := hc 2 _ rfl
        clear hc hat
        by_cases hto : 0 ≤ x2 ∧ x2 ≤ 99
        · have H2 := Lib.hid (isTwigTo_yes x2 hto.1 hto.2)
          have HTO := Lib.hid hto
          clear hto
          go_wp2_with fail
          refine (H2.out _).mono ?_
          rintro e Y ⟨rfl, rfl⟩
          have T1 := HT.out.next ((Below.refl wr.heap.size wr).alloc (Nat.le_refl _) (.cells #[.int .i64 x0, .int .i64 x1, .int .i64 x2] TwigT))
          have T2 := Lib.hid (T1.next ((Below.refl _ _).alloc (Nat.le_refl _) (.cells #[.int .i64 x0, .int .i64 x1] 3)))
          have K2 := VarA.new (wr.alloc (.cells #[.int .i64 x0, .int .i64 x1, .int .i64 x2] TwigT)) 3 #[.int .i64 x0, .int .i64 x1]
          have ez : (wr.alloc (.cells #[.int .i64 x0, .int .i64 x1, .int .i64 x2] TwigT)).heap.size = wr.heap.size + 1 := by simp
          rw [ez] at K2
          have KH := Lib.hid K2
          have HGK : Hid (ga < wr.heap.size + 1) := by
            have := (layIntS.blocks HT.out.own ga (by simp)).2
            show ga < wr.heap.size + 1
            omega
          clear T1 K2 ez
          go_wp2_with fail
          generalize (wr.alloc (.cells #[.int .i64 x0, .int .i64 x1, .int .i64 x2] TwigT)).alloc (.cells #[.int .i64 x0, .int .i64 x1] 3) = w2 at *
          generalize wr.heap.size + 1 = gk at *
          generalize wr.heap.size = gx at *
          clear d0 d1 d2 HT H2 hg
          clear wr
          go_loopw [42] (fun c wr => ∃ k : Nat, k ≤ 2 ∧ c = .int .i64 k ∧ (∀ q, q < k → kidOf (x0, x1, x2) q = 0 ∨ ((i : Int) + 1 ≤ kidOf (x0, x1, x2) q ∧ kidOf (x0, x1, x2) q ≤ (t.length : Int) - 1)) ∧ VarA gk 3 #[.int .i64 x0, .int .i64 x1] wr ∧ TOI w (.slice (some ⟨g, off, none⟩) t.length cp) (.slice (some ⟨ga, 0, none⟩) t.length t.length) [ga] (ntab (pc (t.take i) (x0, x1, x2) k) t.length) wr) (fun c _ => 2 - (intOf c).toNat)
          case atStart =>
            refine ⟨0, Nat.zero_le _, rfl, fun q hq => absurd hq (by omega), KH.out, ?_⟩
            rw [ntab_congr (pc (t.take i) (x0, x1, x2) 0) (fun j => cntT (t.take i) j) t.length (fun m _ => pc_zero _ _ _)]
            exact T2.out
          case round =>
            clear T2 KH
            obtain ⟨k, hk2, rfl, hkids, hV, hT⟩ := hrel
            have HKI := Lib.hid hkids
            have HV := Lib.hid hV
            have HT := Lib.hid hT
            clear hkids hV hT
            by_cases hk : k < 2
            · have hk' : (k : Int) < 2 := by omega
              have HPN := Lib.hid (fun j => pc_next (t.take i) (x0, x1, x2) k j hk)
              have ck : wr.cell? ⟨gk, k, none⟩ = some (.int .i64 (kidOf (x0, x1, x2) k)) := by
                rw [HV.out.cell k]
                match k, hk with
                | 0, _ => rfl
                | 1, _ => rfl
              have HBAD : Hid (¬ (kidOf (x0, x1, x2) k = 0 ∨ ((i : Int) + 1 ≤ kidOf (x0, x1, x2) k ∧ kidOf (x0, x1, x2) k ≤ (t.length : Int) - 1)) → ¬ TrieOkP t) := fun hb => HNO.out _ X.out (fun ho => hb (by
                match k, hk with
                | 0, _ => exact ho.2.1
                | 1, _ => exact ho.2.2))
              obtain ⟨kd, KD⟩ : ∃ kd, Hid (kd = kidOf (x0, x1, x2) k) := ⟨_, rfl⟩
              rw [← KD.out] at ck HBAD HPN
              by_cases hr : kd = 0 ∨ ((i : Int) + 1 ≤ kd ∧ kd ≤ (t.length : Int) - 1)
              · obtain ⟨m, rfl⟩ : ∃ m : Nat, kd = (m : Int) := ⟨kd.toNat, by omega⟩
                have hm1 : m < t.length := by omega
                have hm2 : (m : Int) < (t.length : Int) := by omega
                have HR2 := Lib.hid hr
                have hpc : 0 ≤ pc (t.take i) (x0, x1, x2) k m ∧ pc (t.take i) (x0, x1, x2) k m ≤ 100000 := by
                  have h1 := pc_bounds (t.take i) (x0, x1, x2) k m
                  rw [List.length_take] at h1
                  omega
                have HPM : Hid (∀ j, (if j = m then pc (t.take i) (x0, x1, x2) k m + 1 else pc (t.take i) (x0, x1, x2) k j) = pc (t.take i) (x0, x1, x2) (k + 1) j) := fun j => by
                  rw [HPN.out j]
                  by_cases hjm : j = m
                  · subst hjm; rw [if_pos rfl, if_pos rfl]
                  · rw [if_neg hjm, if_neg (by omega)]; omega
                obtain ⟨ga', cap', hv, hbg, hgl, hin, hcell, hfree, hown', hchg⟩ := ints_put HT.out.own HT.out.dup m (by rw [ntab_length]; exact hm1) (pc (t.take i) (x0, x1, x2) k m + 1)
                simp only [Value.slice.injEq, Option.some.injEq, Addr.mk.injEq, and_true] at hv
                obtain ⟨rfl, -, -⟩ := hv
                rw [ntab_get _ _ m _] at hcell
                rw [ntab_set _ _ m] at hown'
                have T3 : Hid (TOI w (.slice (some ⟨g, off, none⟩) t.length cp) (.slice (some ⟨ga, 0, none⟩) t.length t.length) [ga] (ntab (pc (t.take i) (x0, x1, x2) (k + 1)) t.length) (wr.setCell ⟨ga, m, none⟩ (.int .i64 (pc (t.take i) (x0, x1, x2) k m + 1)))) := by
                  rw [← ntab_congr _ _ t.length (fun j _ => HPM.out j)]
                  exact HT.out.put hown' hchg
                have HVN := Lib.hid (HV.out.off m (.int .i64 (pc (t.take i) (x0, x1, x2) k m + 1)) (q := ga) (by have := HGK.out; omega))
                have HKN : Hid (∀ q, q < k + 1 → kidOf (x0, x1, x2) q = 0 ∨ ((i : Int) + 1 ≤ kidOf (x0, x1, x2) q ∧ kidOf (x0, x1, x2) q ≤ (t.length : Int) - 1)) := fun q hq => by
                  rcases Nat.lt_or_ge q k with h | h
                  · exact HKI.out q h
                  · have e : q = k := by omega
                    subst e
                    rw [← KD.out]
                    exact HR2.out
                clear hown' hchg hbg hgl hin HPM HPN HBAD HT HV
                generalize pc (t.take i) (x0, x1, x2) k m = pm at *
                rcases hr with hz | hr
                · have g0 : ((m : Int) != 0) = false := by rw [hz]; rfl
                  clear hz
                  go_wp2_with fail
                  go_roundw
                  case rel => exact ⟨k + 1, by omega, by go_num, HKN.out, HVN.out, T3.out⟩
                  case measure => simp [intOf]; omega
                · have g0 : ((m : Int) != 0) = true := by rw [bne_iff_ne]; omega
                  have g1 : ¬ ((m : Int) ≤ (i : Int)) := by omega
                  have g2 : ¬ ((t.length : Int) ≤ (m : Int)) := by omega
                  clear hr
                  go_wp2_with fail
                  go_roundw
                  case rel => exact ⟨k + 1, by omega, by go_num, HKN.out, HVN.out, T3.out⟩
                  case measure => simp [intOf]; omega
              · have HN := Lib.hid (HBAD.out hr)
                have g0 : (kd != 0) = true := by rw [bne_iff_ne]; omega
                have hor : ¬ kd ≤ (i : Int) → (t.length : Int) ≤ kd := fun h => by omega
                clear hr
                by_cases g1 : kd ≤ (i : Int)
                · clear hor
                  go_wp2_with fail
                  go_ret
                  exact ⟨.inr ⟨HN.out, rfl⟩, HT.out.below⟩
                · have g2 := hor g1
                  clear hor
                  go_wp2_with fail
                  go_ret
                  exact ⟨.inr ⟨HN.out, rfl⟩, HT.out.below⟩
            · have hk' : ¬ ((k : Int) < 2) := by omega
              have e2 : k = 2 := by omega
              subst e2
              go_wp2_with fail
              go_roundw
              case rel =>
                refine ⟨i + 1, by omega, by go_num, fun j hj => ?_, ?_⟩
                · rcases Nat.lt_or_ge j i with h | h
                  · exact HOK.out j h
                  · have e : j = i := by omega
                    subst e
                    exact HAT.out _ X.out ⟨HTO.out, HKI.out 0 (by omega), HKI.out 1 (by omega)⟩
                · rw [HTK.out]
                  rw [ntab_congr (fun j => cntT (t.take i ++ [(x0, x1, x2)]) j) (pc (t.take i) (x0, x1, x2) 2) t.length (fun m _ => (pc_two _ _ _).symm)]
                  exact HT.out
              case measure => simp [intOf]; omega
        · have H2 := Lib.hid (isTwigTo_no x2 hto)
          have HN := Lib.hid (HNO.out _ X.out (fun hk => hto hk.1))
          clear hto
          have BB := Lib.hid (HT.out.next ((Below.refl wr.heap.size wr).alloc (Nat.le_refl _) (.cells #[.int .i64 x0, .int .i64 x1, .int .i64 x2] TwigT))).below
          go_wp2_with fail
          refine (H2.out _).mono ?_
          rintro e Y ⟨rfl, rfl⟩
          go_wp2_with fail
          go_ret
          exact ⟨.inr ⟨HN.out, rfl⟩, BB.out⟩
      · have hlt' : ¬ ((i : Int) < (t.length : Int)) := by omega
        have hie : i = t.length := by omega
        subst hie
        rw [List.take_length] at HT
        have hone1 : (1 : Int) ≤ (t.length : Int) := by omega
        have HB := Lib.hid HT.out.below
        have HC := Lib.hid (fun (m : Nat) (hm : m < (ntab (fun j => cntT t j) t.length).length) => ints_get (layIntS.read HT.out.own) m hm)
        clear HT
        go_wp2_with fail
        all_goals
          go_loop [70] (fun c => ∃ m : Nat, m + 1 ≤ t.length ∧ c = .int .i64 m ∧ ∀ j : Nat, 1 ≤ j → j ≤ m → cntT t j = 1) (fun c => t.length - (intOf c).toNat)
          case atStart => exact ⟨0, hlen.1, rfl, fun j h1 h2 => by omega⟩
          case round =>
            obtain ⟨m, hmt, rfl, hone⟩ := hrel
            have HONE := Lib.hid hone
            clear hone
            by_cases hlm : m + 1 < t.length
            · have hlm' : (m : Int) < ((t.length - 1 : Nat) : Int) := by omega
              have hlm2 : (m : Int) < (t.length : Int) - 1 := by omega
              obtain ⟨ga', off', cap', hv, hgl, hcell⟩ := HC.out (m + 1) (by rw [ntab_length]; exact hlm)
              simp only [Value.slice.injEq, Option.some.injEq, Addr.mk.injEq, and_true] at hv
              obtain ⟨⟨rfl, rfl⟩, -, -⟩ := hv
              rw [ntab_get _ _ (m + 1) _, Nat.zero_add, Nat.add_comm m 1] at hcell
              by_cases hc1 : cntT t ((1 + m : Nat) : Int) = 1
              · have HC1 := Lib.hid hc1
                rw [hc1] at hcell
                clear hc1
                go_wp2_with fail
                all_goals
                  go_round
                  case rel =>
                    refine ⟨m + 1, by omega, by go_num, fun j h1 h2 => ?_⟩
                    rcases Nat.lt_or_ge m j with h | h
                    · have e : j = 1 + m := by omega
                      subst e
                      exact HC1.out
                    · exact HONE.out j h1 h
                  case measure => simp [intOf]; omega
              · have HN : Hid (¬ TrieOkP t) := fun hk => hc1 (((trieR_iff t).1 hk.1).2.2 (1 + m) (by omega) (by omega))
                have g1 : (cntT t ((1 + m : Nat) : Int) != 1) = true := by rw [bne_iff_ne]; exact hc1
                generalize cntT t ((1 + m : Nat) : Int) = cm at *
                clear hc1
                go_wp2_with fail
                all_goals
                  go_ret
                  exact ⟨.inr ⟨HN.out, rfl⟩, HB.out⟩
            · have hlm' : ¬ ((m : Int) < ((t.length - 1 : Nat) : Int)) := by omega
              have hlm2 : ¬ ((m : Int) < (t.length : Int) - 1) := by omega
              have HY : Hid (TrieOkP t) := ⟨(trieR_iff t).2 ⟨hlen.1, HOK.out, fun j h1 h2 => HONE.out j h1 (by omega)⟩, hlen.2⟩
              go_wp2_with fail
              go_ret
              exact ⟨.inl ⟨HY.out, rfl⟩, HB.out⟩
  · have HN : Hid (¬ TrieOkP t) := fun hk => hlen ⟨hk.1.pos, hk.2⟩
    by_cases hz : t.length = 0
    · have hz1 : ((t.length : Int) == 0) = true := by rw [beq_iff_eq]; omega
      clear hlen hz
      go_enter Try.func16, Try.ntmps16
      go_upto_region 1 with fail
      generalize w.alloc (.cells #[.slice ao t.length cp] 24) = Y0 at *
      have c0 : Y0.cell? ⟨w.heap.size, 0, none⟩ = some (.slice ao t.length cp) := A0.out.cell 0
      go_wp2_with fail
      go_ret
      exact ⟨.inr ⟨HN.out, rfl⟩, BY.out⟩
    · have hz1 : ((t.length : Int) == 0) = false := by rw [beq_eq_false_iff_ne]; omega
      have hz2 : (400 : Int) < (t.length : Int) := by omega
      clear hlen hz
      go_enter Try.func16, Try.ntmps16
      go_upto_region 1 with fail
      generalize w.alloc (.cells #[.slice ao t.length cp] 24) = Y0 at *
      have c0 : Y0.cell? ⟨w.heap.size, 0, none⟩ = some (.slice ao t.length cp) := A0.out.cell 0
      go_wp2_with fail
      go_ret
      exact ⟨.inr ⟨HN.out, rfl⟩, BY.out⟩

end Go.Proofs.Ytkfcoldjgijpcap
