/-
  The given TrieOk.
-/
import Derived.Test.YtkfcoldjgijpcapTwigAll
import Derived.Test.YtkfcoldjgijpcapPlainTries
import Derived.Test.YtkfcoldjgijpcapInRange
namespace Go.Proofs.Ytkfcoldjgijpcap
open Go.RowKit

/-- What is told of a tree. -/
def TrieTold (t : List Tw) (e : Ending) : Prop := (TrieOkP t ∧ e = .returned (.bool true)) ∨ (¬ TrieOkP t ∧ e = .returned (.bool false))
/-- A table of counts: of the place 0 nothing is counted. -/
def ctab (f : Nat → Int) (n : Nat) : List Int := (List.range n).map fun m => if m = 0 then 0 else f m
theorem ctab_length (f : Nat → Int) (n : Nat) : (ctab f n).length = n := by simp [ctab]
theorem ctab_get (f : Nat → Int) (n m : Nat) (h0 : m ≠ 0) (h : m < (ctab f n).length) : (ctab f n)[m] = f m := by simp [ctab, h0]
theorem ctab_congr (f g : Nat → Int) (n : Nat) (h : ∀ m, m ≠ 0 → m < n → f m = g m) : ctab f n = ctab g n := by
  unfold ctab
  refine List.map_congr_left fun m hm => ?_
  have hm' := List.mem_range.1 hm
  by_cases h0 : m = 0
  · simp [h0]
  · simp [h0, h m h0 hm']
theorem ctab_set (f : Nat → Int) (n m : Nat) (h0 : m ≠ 0) (y : Int) : (ctab f n).set m y = ctab (fun j => if j = m then y else f j) n := by
  apply List.ext_getElem?
  intro i
  rw [List.getElem?_set]
  by_cases hi : m = i
  · subst hi
    rw [if_pos rfl, ctab_length]
    by_cases hm : m < n
    · rw [if_pos hm]
      simp [ctab, hm, h0]
    · rw [if_neg hm, List.getElem?_eq_none (by rw [ctab_length]; omega)]
  · rw [if_neg hi]
    by_cases hn : i < n
    · simp [ctab, hn, Ne.symm hi]
    · rw [List.getElem?_eq_none (by rw [ctab_length]; omega), List.getElem?_eq_none (by rw [ctab_length]; omega)]
/-- Counts of all twigs ahead, and of the first k places of the next one. -/
def pc (l : List Tw) (x : Tw) (k : Nat) (j : Nat) : Int := cntT l j + (if 0 < k ∧ kidOf x 0 = j then 1 else 0) + (if 1 < k ∧ kidOf x 1 = j then 1 else 0)
theorem pc_zero (l : List Tw) (x : Tw) (j : Nat) : pc l x 0 j = cntT l j := by simp [pc]
theorem pc_next (l : List Tw) (x : Tw) (k j : Nat) (hk : k < 2) : pc l x (k + 1) j = pc l x k j + (if kidOf x k = j then 1 else 0) := by
  unfold pc
  match k, hk with
  | 0, _ => simp
  | 1, _ => simp
theorem pc_two (l : List Tw) (x : Tw) (j : Nat) : pc l x 2 j = cntT (l ++ [x]) j := by
  rw [cntT_append]
  unfold pc cntT kidCnt cntT kidOf
  simp
  omega
theorem take_at (t : List Tw) (i : Nat) (hi : i < t.length) : t.take (i + 1) = t.take i ++ [atT t i] := by
  unfold atT
  rw [List.take_add_one, List.getD_eq_getElem?_getD, List.getElem?_eq_getElem hi]
  rfl
theorem cntT_le : ∀ (l : List Tw) (m : Int), cntT l m ≤ 2 * (l.length : Int)
  | [], _ => by simp [cntT]
  | x :: l, m => by
    have h1 := cntT_le l m
    have h2 : kidCnt x m ≤ 2 := by unfold kidCnt; split <;> split <;> omega
    show kidCnt x m + cntT l m ≤ _
    simp only [List.length_cons]
    omega
theorem pc_bounds (l : List Tw) (x : Tw) (k j : Nat) : 0 ≤ pc l x k j ∧ pc l x k j ≤ 2 * (l.length : Int) + 2 := by
  have h1 := cntT_nn l j
  have h2 := cntT_le l j
  unfold pc
  split <;> split <;> omega
/-- The tree's variable, the table, and what lies below. -/
structure TOI (w : World) (v av : Value) (fp : List Nat) (cs : List Int) (X : World) : Prop where
  box : VarA w.heap.size 24 #[v] X
  own : layIntS.own X (w.heap.size + 1) fp [av] cs
  dup : fp.Nodup
  below : Below w.heap.size w X
theorem TOI.next {w : World} {v av : Value} {fp : List Nat} {cs : List Int} {X Y : World} (h : TOI w v av fp cs X) (hb : Below X.heap.size X Y) : TOI w v av fp cs Y :=
  ⟨h.box.next hb, layIntS.next h.own hb, h.dup, h.below.trans (hb.mono h.below.size)⟩
theorem TOI.put {w : World} {v av : Value} {fp : List Nat} {cs cs' : List Int} {X Y : World} (h : TOI w v av fp cs X) (ho : layIntS.own Y (w.heap.size + 1) fp [av] cs') (hc : Chg fp X Y) : TOI w v av fp cs' Y := by
  have hb : ∀ g ∈ fp, w.heap.size + 1 ≤ g := fun g hg => (layIntS.blocks h.own g hg).1
  refine ⟨⟨?_⟩, ho, h.dup, h.below.trans (hc.below (fun g hg => by have := hb g hg; omega) h.below.size)⟩
  rw [hc.block _ h.box.lt (fun e => by have := hb _ e; omega)]
  exact h.box.row

set_option maxRecDepth 100000 in
set_option maxHeartbeats 1600000 in
theorem specTrieOk_any (v : Value) (t : List Tw) (w : World) (h : layTwigS.rd w [v] t) (hl : t.length ≤ 100000000) :
    Calls Try.prog 14 #[.agg #[v]] w fun e w' => TrieTold t e ∧ Below w.heap.size w w' := by
  obtain ⟨ao, cp, rfl⟩ := rows_form h
  have HR := Lib.hid h
  clear h
  have A0 := Lib.hid (VarA.new w 24 #[.slice ao t.length cp])
  have BY := Lib.hid ((Below.refl w.heap.size w).alloc (Nat.le_refl _) (.cells #[.slice ao t.length cp] 24))
  by_cases hlen : 1 ≤ t.length ∧ t.length ≤ 400
  · have H1 := Lib.hid (inRange_yes (t.length : Int) 1 400 (by omega) (by omega))
    obtain ⟨i0, hi, hz0, hsz0, hby0⟩ := info_of infoInt
    go_enter Try.func14, Try.ntmps14
    go_upto_region 1 with fail
    generalize w.alloc (.cells #[.slice ao t.length cp] 24) = Y0 at *
    have c0 : Y0.cell? ⟨w.heap.size, 0, none⟩ = some (.slice ao t.length cp) := A0.out.cell 0
    go_wp2_with fail
    refine (H1.out _).mono ?_
    rintro e Y ⟨rfl, rfl⟩
    have hlt0 := A0.out.lt
    go_wp2_with (at_make; refine wpList_make_full _ rfl _ _ 63 rfl (w.heap.size + 1) 3 i0 (.int .i64 0) 1 Try.underlying63 hi hz0 hsz0 .i64 .i64 _ _ t.length rfl rfl rfl rfl (by rw [hby0]; omega) (by unfold maxLen; omega) hlt0 ?_)
    intro w1 hown1 hg1
    have hbel : Below Y.heap.size Y w1 := below_grown hg1 (fun k h => by cases h) (Nat.le_refl _)
    have hrep : List.replicate t.length (0 : Int) = ctab (fun j => cntT (t.take 0) j) t.length := by
      apply List.ext_getElem?
      intro i
      by_cases hi : i < t.length
      · simp [ctab, hi, cntT]
      · rw [List.getElem?_eq_none (by simp; omega), List.getElem?_eq_none (by rw [ctab_length]; omega)]
    have hown : layIntS.own w1 (w.heap.size + 1) [Y.heap.size] [.slice (some ⟨Y.heap.size, 0, none⟩) t.length t.length] (ctab (fun j => cntT (t.take 0) j) t.length) := by
      rw [← hrep]
      exact rows_made (cs := #[.int .i64 0]) (by rw [show t.length * Lay.int.k = t.length from Nat.mul_one _]; exact hown1) rfl (int_own.2 ⟨rfl, rfl⟩)
    have T0 := Lib.hid (⟨A0.out.next hbel, hown, by simp, BY.out.trans (hbel.mono BY.out.size)⟩ : TOI w (.slice ao t.length cp) (.slice (some ⟨Y.heap.size, 0, none⟩) t.length t.length) [Y.heap.size] (ctab (fun j => cntT (t.take 0) j) t.length) w1)
    clear hown1 hg1 hbel hrep hown c0 hlt0 A0 BY H1
    generalize Y.heap.size = ga at *
    clear Y
    go_wp2_with fail
    go_loopw [4] (fun c wr => ∃ i : Nat, i ≤ t.length ∧ c = .int .i64 i ∧ (∀ j, j < i → TwigOk t.length j (atT t j)) ∧ TOI w (.slice ao t.length cp) (.slice (some ⟨ga, 0, none⟩) t.length t.length) [ga] (ctab (fun j => cntT (t.take i) j) t.length) wr) (fun c _ => t.length - (intOf c).toNat)
    case atStart => exact ⟨0, Nat.zero_le _, rfl, fun j hj => absurd hj (by omega), T0.out⟩
    case round =>
      clear T0
      obtain ⟨i, hit, rfl, hok, hT⟩ := hrel
      have HOK := Lib.hid hok
      have HT := Lib.hid hT
      clear hok hT
      have c0 : wr.cell? ⟨w.heap.size, 0, none⟩ = some (.slice ao t.length cp) := HT.out.box.cell 0
      by_cases hlt : i < t.length
      · have hlt' : (i : Int) < (t.length : Int) := by omega
        have hat : t[i]? = some (atT t i) := by unfold atT; rw [List.getD_eq_getElem?_getD, List.getElem?_eq_getElem hlt]; rfl
        have HTK := Lib.hid (take_at t i hlt)
        obtain ⟨g, off, cs, rfl, hg, hr, hc⟩ := rows_elem (layTwigS.below HR.out HT.out.below) i _ hat
        have HAT : Hid (∀ tt, tt = atT t i → TwigOk t.length i tt → TwigOk t.length i (atT t i)) := fun tt e h => by rw [← e]; exact h
        have HNO : Hid (∀ tt, tt = atT t i → ¬ TwigOk t.length i tt → ¬ TrieOkP t) := fun tt e h hk => h (by rw [e]; exact ((trieR_iff t).1 hk.1).2.1 i hlt)
        obtain ⟨x, X⟩ : ∃ x, Hid (x = atT t i) := ⟨_, rfl⟩
        rw [← X.out, layTwig_rd] at hr
        subst hr
        have hxk : Hid (kidOf x 0 = x.1 ∧ kidOf x 1 = x.2.1) := ⟨rfl, rfl⟩
        rw [← X.out] at HTK
        obtain ⟨x0, x1, x2⟩ := x
        have d0 : wr.cell? ⟨g, off + i * 3, none⟩ = some (.int .i64 x0) := hc 0 _ rfl
        have d1 : wr.cell? ⟨g, off + i * 3 + 1, none⟩ = some (.int .i64 x1) := hc 1 _ rfl
        have d2 : wr.cell? ⟨g, off + i * 3 + 2, none⟩ = some (.int .i64 x2) := hc 2 _ rfl
        clear hc hat
        by_cases hto : 0 ≤ x2 ∧ x2 ≤ 99
        · have H2 := Lib.hid (inRange_yes x2 0 99 hto.1 hto.2)
          have HTO := Lib.hid hto
          clear hto
          go_wp2_with fail
          refine (H2.out _).mono ?_
          rintro e Y ⟨rfl, rfl⟩
          have T1 := HT.out.next ((Below.refl wr.heap.size wr).alloc (Nat.le_refl _) (.cells #[.int .i64 x0, .int .i64 x1, .int .i64 x2] TwigT))
          have T2 := Lib.hid (T1.next ((Below.refl _ _).alloc (Nat.le_refl _) (.cells #[.int .i64 x0, .int .i64 x1] 3)))
          have K2 := VarA.new (wr.alloc (.cells #[.int .i64 x0, .int .i64 x1, .int .i64 x2] TwigT)) 3 #[.int .i64 x0, .int .i64 x1]
          have ez : (wr.alloc (.cells #[.int .i64 x0, .int .i64 x1, .int .i64 x2] TwigT)).heap.size = wr.heap.size + 1 := by simp
          rw [ez] at K2
          have KH := Lib.hid K2
          have HGK : Hid (ga < wr.heap.size + 1) := by
            have := (layIntS.blocks HT.out.own ga (by simp)).2
            show ga < wr.heap.size + 1
            omega
          clear T1 K2 ez
          go_wp2_with fail
          generalize (wr.alloc (.cells #[.int .i64 x0, .int .i64 x1, .int .i64 x2] TwigT)).alloc (.cells #[.int .i64 x0, .int .i64 x1] 3) = w2 at *
          generalize wr.heap.size + 1 = gk at *
          generalize wr.heap.size = gx at *
          clear c0 d0 d1 d2 HT H2 hg
          clear wr
          go_loopw [7] (fun c wr => ∃ k : Nat, k ≤ 2 ∧ c = .int .i64 k ∧ (∀ q, q < k → kidOf (x0, x1, x2) q = 0 ∨ ((i : Int) + 1 ≤ kidOf (x0, x1, x2) q ∧ kidOf (x0, x1, x2) q ≤ (t.length : Int) - 1)) ∧ VarA gk 3 #[.int .i64 x0, .int .i64 x1] wr ∧ TOI w (.slice (some ⟨g, off, none⟩) t.length cp) (.slice (some ⟨ga, 0, none⟩) t.length t.length) [ga] (ctab (pc (t.take i) (x0, x1, x2) k) t.length) wr) (fun c _ => 2 - (intOf c).toNat)
          case atStart =>
            refine ⟨0, Nat.zero_le _, rfl, fun q hq => absurd hq (by omega), KH.out, ?_⟩
            rw [ctab_congr (pc (t.take i) (x0, x1, x2) 0) (fun j => cntT (t.take i) j) t.length (fun m _ _ => pc_zero _ _ _)]
            exact T2.out
          case round =>
            clear T2 KH
            obtain ⟨k, hk2, rfl, hkids, hV, hT⟩ := hrel
            have HKI := Lib.hid hkids
            have HV := Lib.hid hV
            have HT := Lib.hid hT
            clear hkids hV hT
            by_cases hk : k < 2
            · have hk' : (k : Int) < 2 := by omega
              have HPN := Lib.hid (fun j => pc_next (t.take i) (x0, x1, x2) k j hk)
              have ck : wr.cell? ⟨gk, k, none⟩ = some (.int .i64 (kidOf (x0, x1, x2) k)) := by
                rw [HV.out.cell k]
                match k, hk with
                | 0, _ => rfl
                | 1, _ => rfl
              have HBAD : Hid (¬ (kidOf (x0, x1, x2) k = 0 ∨ ((i : Int) + 1 ≤ kidOf (x0, x1, x2) k ∧ kidOf (x0, x1, x2) k ≤ (t.length : Int) - 1)) → ¬ TrieOkP t) := fun hb => HNO.out _ X.out (fun ho => hb (by
                match k, hk with
                | 0, _ => exact ho.2.1
                | 1, _ => exact ho.2.2))
              have c0 : wr.cell? ⟨w.heap.size, 0, none⟩ = some (.slice (some ⟨g, off, none⟩) t.length cp) := HT.out.box.cell 0
              obtain ⟨kd, KD⟩ : ∃ kd, Hid (kd = kidOf (x0, x1, x2) k) := ⟨_, rfl⟩
              rw [← KD.out] at ck HBAD HPN
              by_cases hz : kd = 0
              · have g0 : (kd == 0) = true := by rw [beq_iff_eq]; exact hz
                have HZ := Lib.hid hz
                clear hz
                go_wp2_with fail
                go_roundw
                case rel =>
                  refine ⟨k + 1, by omega, by go_num, fun q hq => ?_, HV.out, ?_⟩
                  · rcases Nat.lt_or_ge q k with h | h
                    · exact HKI.out q h
                    · have e : q = k := by omega
                      subst e
                      left
                      rw [← KD.out]
                      exact HZ.out
                  · rw [ctab_congr (pc (t.take i) (x0, x1, x2) (k + 1)) (pc (t.take i) (x0, x1, x2) k) t.length (fun m hm _ => by rw [HPN.out m, if_neg (by rw [HZ.out]; omega)]; omega)]
                    exact HT.out
                case measure => simp [intOf]; omega
              · have g0 : (kd == 0) = false := by rw [beq_eq_false_iff_ne]; exact hz
                by_cases hr : (i : Int) + 1 ≤ kd ∧ kd ≤ (t.length : Int) - 1
                · have H3 := Lib.hid (inRange_yes kd ((i : Int) + 1) ((t.length : Int) - 1) hr.1 hr.2)
                  obtain ⟨m, rfl⟩ : ∃ m : Nat, kd = (m : Int) := ⟨kd.toNat, by omega⟩
                  have hm1 : m < t.length := by omega
                  have hm0 : m ≠ 0 := by omega
                  have HR2 := Lib.hid hr
                  have hpc : 0 ≤ pc (t.take i) (x0, x1, x2) k m ∧ pc (t.take i) (x0, x1, x2) k m ≤ 100000 := by
                    have h1 := pc_bounds (t.take i) (x0, x1, x2) k m
                    rw [List.length_take] at h1
                    omega
                  have HPM : Hid (∀ j, (if j = m then pc (t.take i) (x0, x1, x2) k m + 1 else pc (t.take i) (x0, x1, x2) k j) = pc (t.take i) (x0, x1, x2) (k + 1) j) := fun j => by
                    rw [HPN.out j]
                    by_cases hjm : j = m
                    · subst hjm; rw [if_pos rfl, if_pos rfl]
                    · rw [if_neg hjm, if_neg (by omega)]; omega
                  clear hz hr
                  go_wp2_with fail
                  go_quiet ((go_at_call 31; exact Calls.quiet_of_same (H3.out _)))
                  replace HT := Lib.hid (HT.out.next (below_drewN (Below.refl wr.heap.size wr) nq))
                  replace HV := Lib.hid (HV.out.next (below_drewN (Below.refl wr.heap.size wr) nq))
                  replace ck : (wr.drewN nq).cell? ⟨gk, k, none⟩ = some (.int .i64 (m : Int)) := ck
                  replace c0 : (wr.drewN nq).cell? ⟨w.heap.size, 0, none⟩ = some (.slice (some ⟨g, off, none⟩) t.length cp) := c0
                  generalize wr.drewN nq = wd at *
                  obtain ⟨ga', cap', hv, hbg, hgl, hin, hcell, hfree, hown', hchg⟩ := ints_put HT.out.own HT.out.dup m (by rw [ctab_length]; exact hm1) (pc (t.take i) (x0, x1, x2) k m + 1)
                  simp only [Value.slice.injEq, Option.some.injEq, Addr.mk.injEq, and_true] at hv
                  obtain ⟨rfl, -, -⟩ := hv
                  rw [ctab_get _ _ m hm0 _] at hcell
                  rw [ctab_set _ _ m hm0] at hown'
                  have T3 : Hid (TOI w (.slice (some ⟨g, off, none⟩) t.length cp) (.slice (some ⟨ga, 0, none⟩) t.length t.length) [ga] (ctab (pc (t.take i) (x0, x1, x2) (k + 1)) t.length) (wd.setCell ⟨ga, m, none⟩ (.int .i64 (pc (t.take i) (x0, x1, x2) k m + 1)))) := by
                    rw [← ctab_congr _ _ t.length (fun j _ _ => HPM.out j)]
                    exact HT.out.put hown' hchg
                  have HVN := Lib.hid (HV.out.off m (.int .i64 (pc (t.take i) (x0, x1, x2) k m + 1)) (q := ga) (by have := HGK.out; omega))
                  clear hown' hchg hbg hgl hin
                  generalize pc (t.take i) (x0, x1, x2) k m = pm at *
                  go_wp2_with fail
                  go_roundw
                  case rel =>
                    refine ⟨k + 1, by omega, by go_num, fun q hq => ?_, HVN.out, T3.out⟩
                    rcases Nat.lt_or_ge q k with h | h
                    · exact HKI.out q h
                    · have e : q = k := by omega
                      subst e
                      right
                      rw [← KD.out]
                      exact HR2.out
                  case measure => simp [intOf]; omega
                · have H3 := Lib.hid (inRange_no kd ((i : Int) + 1) ((t.length : Int) - 1) (by omega))
                  have HN := Lib.hid (HBAD.out (fun h => by rcases h with h | h; exact hz h; exact hr h))
                  clear hz hr
                  go_wp2_with fail
                  go_quiet ((go_at_call 31; exact Calls.quiet_of_same (H3.out _)))
                  go_wp2_with fail
                  go_ret
                  exact ⟨.inr ⟨HN.out, rfl⟩, below_drewN HT.out.below _⟩
            · have hk' : ¬ ((k : Int) < 2) := by omega
              have e2 : k = 2 := by omega
              subst e2
              go_wp2_with fail
              go_roundw
              case rel =>
                refine ⟨i + 1, by omega, by go_num, fun j hj => ?_, ?_⟩
                · rcases Nat.lt_or_ge j i with h | h
                  · exact HOK.out j h
                  · have e : j = i := by omega
                    subst e
                    exact HAT.out _ X.out ⟨HTO.out, HKI.out 0 (by omega), HKI.out 1 (by omega)⟩
                · rw [HTK.out]
                  rw [ctab_congr (fun j => cntT (t.take i ++ [(x0, x1, x2)]) j) (pc (t.take i) (x0, x1, x2) 2) t.length (fun m _ _ => (pc_two _ _ _).symm)]
                  exact HT.out
              case measure => simp [intOf]; omega
        · have H2 := Lib.hid (inRange_no x2 0 99 (by omega))
          have HN := Lib.hid (HNO.out _ X.out (fun hk => hto hk.1))
          clear hto
          have BB := Lib.hid (HT.out.next ((Below.refl wr.heap.size wr).alloc (Nat.le_refl _) (.cells #[.int .i64 x0, .int .i64 x1, .int .i64 x2] TwigT))).below
          go_wp2_with fail
          refine (H2.out _).mono ?_
          rintro e Y ⟨rfl, rfl⟩
          go_wp2_with fail
          go_ret
          exact ⟨.inr ⟨HN.out, rfl⟩, BB.out⟩
      · have hlt' : ¬ ((i : Int) < (t.length : Int)) := by omega
        have hie : i = t.length := by omega
        subst hie
        rw [List.take_length] at HT
        go_wp2_with fail
        have HB := Lib.hid HT.out.below
        have HC := Lib.hid (fun (m : Nat) (hm : m < (ctab (fun j => cntT t j) t.length).length) => ints_get (layIntS.read HT.out.own) m hm)
        clear HT
        go_loop [8] (fun c => ∃ m : Nat, 1 ≤ m ∧ m ≤ t.length ∧ c = .int .i64 m ∧ ∀ j : Nat, 1 ≤ j → j < m → cntT t j = 1) (fun c => t.length - (intOf c).toNat)
        case atStart => exact ⟨1, Nat.le_refl _, hlen.1, rfl, fun j h1 h2 => by omega⟩
        case round =>
          obtain ⟨m, hm1, hmt, rfl, hone⟩ := hrel
          have HONE := Lib.hid hone
          clear hone
          by_cases hlm : m < t.length
          · have hlm' : (m : Int) < (t.length : Int) := by omega
            obtain ⟨ga', off', cap', hv, hgl, hcell⟩ := HC.out m (by rw [ctab_length]; exact hlm)
            simp only [Value.slice.injEq, Option.some.injEq, Addr.mk.injEq, and_true] at hv
            obtain ⟨⟨rfl, rfl⟩, -, -⟩ := hv
            rw [ctab_get _ _ m (by omega) _, Nat.zero_add] at hcell
            by_cases hc1 : cntT t m = 1
            · have HC1 := Lib.hid hc1
              rw [hc1] at hcell
              clear hc1
              go_wp2_with fail
              go_round
              case rel =>
                refine ⟨m + 1, by omega, by omega, by go_num, fun j h1 h2 => ?_⟩
                rcases Nat.lt_or_ge j m with h | h
                · exact HONE.out j h1 h
                · have e : j = m := by omega
                  subst e
                  exact HC1.out
              case measure => simp [intOf]; omega
            · have HN : Hid (¬ TrieOkP t) := fun hk => hc1 (((trieR_iff t).1 hk.1).2.2 m hm1 hlm)
              have g1 : (cntT t m != 1) = true := by rw [bne_iff_ne]; exact hc1
              generalize cntT t m = cm at *
              clear hc1
              go_wp2_with fail
              go_ret
              exact ⟨.inr ⟨HN.out, rfl⟩, HB.out⟩
          · have hlm' : ¬ ((m : Int) < (t.length : Int)) := by omega
            have HY : Hid (TrieOkP t) := ⟨(trieR_iff t).2 ⟨hlen.1, HOK.out, fun j h1 h2 => HONE.out j h1 (by omega)⟩, hlen.2⟩
            go_wp2_with fail
            go_ret
            exact ⟨.inl ⟨HY.out, rfl⟩, HB.out⟩
  · have H1 := Lib.hid (inRange_no (t.length : Int) 1 400 (by omega))
    have HN : Hid (¬ TrieOkP t) := fun hk => hlen ⟨hk.1.pos, hk.2⟩
    go_enter Try.func14, Try.ntmps14
    go_upto_region 1 with fail
    generalize w.alloc (.cells #[.slice ao t.length cp] 24) = Y0 at *
    have c0 : Y0.cell? ⟨w.heap.size, 0, none⟩ = some (.slice ao t.length cp) := A0.out.cell 0
    go_wp2_with fail
    refine (H1.out _).mono ?_
    rintro e Y ⟨rfl, rfl⟩
    go_wp2_with fail
    go_ret
    exact ⟨.inr ⟨HN.out, rfl⟩, BY.out⟩

end Go.Proofs.Ytkfcoldjgijpcap
