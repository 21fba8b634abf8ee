/-
  The given TrieNew and TriePut.
-/
import Derived.Test.YtkfcoldjgijpcapTrieFindSpec
import Derived.Test.YtkfcoldjgijpcapPrefixSpec
namespace Go.Proofs.Ytkfcoldjgijpcap
open Go.RowKit

/-- What is put into a tree: the tree with it, or that as it is. -/
def PutTold (t : List Tw) (a n p : Int) (r : List Tw) (b : Bool) : Prop :=
  (b = true ∧ (TrieOkP t ∧ PrefOk a n ∧ (0 ≤ p ∧ p ≤ 99)) ∧ (putT t (bitsP a.toNat n.toNat) p).length ≤ 400 ∧ r = putT t (bitsP a.toNat n.toNat) p) ∨
  (b = false ∧ r = t ∧ ¬ ((TrieOkP t ∧ PrefOk a n ∧ (0 ≤ p ∧ p ≤ 99)) ∧ (putT t (bitsP a.toNat n.toNat) p).length ≤ 400))
def PutGives (t : List Tw) (a n p : Int) (w : World) (e : Ending) (w' : World) : Prop :=
  ∃ v fp r b, e = .returned (.tuple #[.agg #[v], .bool b]) ∧ PutTold t a n p r b ∧ fp.Nodup ∧ layTwigS.own w' w.heap.size fp [v] r ∧ Below w.heap.size w w'
/-- The variables of the call, and what lies below. -/
structure TP (w : World) (v : Value) (a n : Int) (X : World) : Prop where
  bt : VarA w.heap.size 24 #[v] X
  bp : VarA (w.heap.size + 1) 40 #[.int .i64 a, .int .i64 n] X
  br : VarA (w.heap.size + 1 + 1) 24 #[.slice none 0 0] X
  below : Below w.heap.size w X
theorem TP.next {w : World} {v : Value} {a n : Int} {X Y : World} (h : TP w v a n X) (hb : Below X.heap.size X Y) : TP w v a n Y := ⟨h.bt.next hb, h.bp.next hb, h.br.next hb, h.below.trans (hb.mono h.below.size)⟩
/-- And the tree as it is, in a row of its own behind a variable. -/
structure TS (w : World) (v : Value) (a n : Int) (g gs cp : Nat) (t : List Tw) (X : World) : Prop extends TP w v a n X where
  same : VarA gs 24 #[.slice (some ⟨g, 0, none⟩) t.length cp] X
  row : layTwigS.own X (w.heap.size + 1 + 1 + 1) [g] [.slice (some ⟨g, 0, none⟩) t.length cp] t
theorem TS.next {w : World} {v : Value} {a n : Int} {g gs cp : Nat} {t : List Tw} {X Y : World} (h : TS w v a n g gs cp t X) (hb : Below X.heap.size X Y) : TS w v a n g gs cp t Y := ⟨h.toTP.next hb, h.same.next hb, layTwigS.next h.row hb⟩

set_option maxRecDepth 100000 in
set_option maxHeartbeats 1600000 in
theorem specTriePut_any (v : Value) (t : List Tw) (a n p : Int) (w : World) (h : layTwigS.rd w [v] t) (hl : t.length ≤ 100000000) :
    Calls Try.prog 17 #[.agg #[v], .agg #[.int .i64 a, .int .i64 n], .int .i64 p] w fun e w' => PutGives t a n p w e w' := by
  obtain ⟨ao, cp0, rfl⟩ := rows_form h
  obtain ⟨i0, hi, hz0, hsz0, hby0⟩ := info_of infoTwig
  have HR := Lib.hid h
  clear h
  have T0 : TP w (.slice ao t.length cp0) a n (((w.alloc (.cells #[.slice ao t.length cp0] 24)).alloc (.cells #[.int .i64 a, .int .i64 n] 40)).alloc (.cells #[.slice none 0 0] 24)) := by
    have e1 : (w.alloc (.cells #[.slice ao t.length cp0] 24)).heap.size = w.heap.size + 1 := by simp
    have e2 : ((w.alloc (.cells #[.slice ao t.length cp0] 24)).alloc (.cells #[.int .i64 a, .int .i64 n] 40)).heap.size = w.heap.size + 1 + 1 := by simp
    have A1 := (VarA.new (w.alloc (.cells #[.slice ao t.length cp0] 24)) 40 #[.int .i64 a, .int .i64 n]).alloc (.cells #[.slice none 0 0] 24)
    have A2 := VarA.new ((w.alloc (.cells #[.slice ao t.length cp0] 24)).alloc (.cells #[.int .i64 a, .int .i64 n] 40)) 24 #[.slice none 0 0]
    rw [e1] at A1
    rw [e2] at A2
    exact ⟨((VarA.new w _ _).alloc _).alloc _, A1, A2, (((Below.refl w.heap.size w).alloc (Nat.le_refl _) _).alloc (by simp) _).alloc (by simp; omega) _⟩
  have H0 := Lib.hid T0
  clear T0
  go_enter Try.func17, Try.ntmps17
  go_upto_region 1 with fail
  generalize ((w.alloc (.cells #[.slice ao t.length cp0] 24)).alloc (.cells #[.int .i64 a, .int .i64 n] 40)).alloc (.cells #[.slice none 0 0] 24) = Y0 at *
  have c0 : Y0.cell? ⟨w.heap.size, 0, none⟩ = some (.slice ao t.length cp0) := H0.out.bt.cell 0
  have hb0 : w.heap.size + 1 + 1 + 1 ≤ Y0.heap.size := H0.out.br.lt
  have hblow : Below Y0.heap.size Y0 (Y0.alloc (.cells #[] TwigT)) := (Below.refl _ _).alloc (Nat.le_refl _) _
  have c0' : (Y0.alloc (.cells #[] TwigT)).cell? ⟨w.heap.size, 0, none⟩ = some (.slice ao t.length cp0) := (H0.out.next hblow).bt.cell 0
  go_wp2_with (at_builtin; refine wpList_copyF (Y0.alloc (.cells #[] TwigT)) rfl _ _ 22 rfl (w.heap.size + 1 + 1 + 1) TwigT i0 _ 24 layTwig flatTwig Try.underlying22 hi hz0 hsz0 hby0 rfl (by omega) _ _ _ rfl (flat_lit Y0 _ hb0) (fun e => by cases e) _ t rfl (layTwigS.below HR.out (H0.out.next hblow).below) (by simp; omega) (by simp; omega) ?_)
  intro v1 w1 hown1 hnn1 hgr1 hbe1
  obtain ⟨g1, cp1, rfl, hblk, hg1b, hg1l⟩ := flat_some flatTwig hown1 hnn1
  rw [hblk] at hown1
  have P1 : TP w (.slice ao t.length cp0) a n w1 := by
    have hq := H0.out.next hblow
    have hc : Chg [Y0.heap.size] (Y0.alloc (.cells #[] TwigT)) w1 := Chg.grown hgr1 _ (fun k hk => by simp [Value.ownBlock] at hk; simp [hk])
    have hrow : ∀ r, r < Y0.heap.size → w1.heap[r]? = (Y0.alloc (.cells #[] TwigT)).heap[r]? := fun r hr => hc.block r (by simp; omega) (by simp; omega)
    exact ⟨⟨by rw [hrow _ H0.out.bt.lt]; exact hq.bt.row⟩, ⟨by rw [hrow _ H0.out.bp.lt]; exact hq.bp.row⟩, ⟨by rw [hrow _ H0.out.br.lt]; exact hq.br.row⟩, hq.below.trans (hbe1.mono (by omega))⟩
  have S1 : TS w (.slice ao t.length cp0) a n g1 w1.heap.size cp1 t (w1.alloc (.cells #[.slice (some ⟨g1, 0, none⟩) t.length cp1] 24)) := by
    have hb : Below w1.heap.size w1 (w1.alloc (.cells #[.slice (some ⟨g1, 0, none⟩) t.length cp1] 24)) := (Below.refl _ _).alloc (Nat.le_refl _) _
    exact ⟨P1.next hb, VarA.new w1 _ _, layTwigS.next hown1 hb⟩
  have HS1 := Lib.hid S1
  clear S1 P1 hgr1 hbe1 hblk hnn1 hown1 c0 c0' hblow H0 hb0
  go_upto_region 2 with fail
  generalize w1.alloc (.cells #[.slice (some ⟨g1, 0, none⟩) t.length cp1] 24) = Y1 at *
  generalize w1.heap.size = gs at *
  generalize Y0.heap.size = gy at *
  clear w1 Y0 hg1b hg1l
  have H1 := Lib.hid (specTrieOk_any _ t _ (layTwigS.below HR.out HS1.out.below) hl)
  have c0 : Y1.cell? ⟨w.heap.size, 0, none⟩ = some (.slice ao t.length cp0) := HS1.out.bt.cell 0
  have p0 : Y1.cell? ⟨w.heap.size + 1, 0, none⟩ = some (.int .i64 a) := HS1.out.bp.cell 0
  have p1 : Y1.cell? ⟨w.heap.size + 1, 1, none⟩ = some (.int .i64 n) := HS1.out.bp.cell 1
  go_wp2_with fail
  refine (H1.out).mono ?_
  rintro e Y2 ⟨hTold, hb⟩
  have HS2 := Lib.hid (HS1.out.next hb)
  clear hb HS1 H1 c0 p0 p1
  have p0 : Y2.cell? ⟨w.heap.size + 1, 0, none⟩ = some (.int .i64 a) := HS2.out.bp.cell 0
  have p1 : Y2.cell? ⟨w.heap.size + 1, 1, none⟩ = some (.int .i64 n) := HS2.out.bp.cell 1
  -- how it ends where it is refused
  have BACK : Hid (∀ Z, TS w (.slice ao t.length cp0) a n g1 gs cp1 t Z → ¬ ((TrieOkP t ∧ PrefOk a n ∧ (0 ≤ p ∧ p ≤ 99)) ∧ (putT t (bitsP a.toNat n.toNat) p).length ≤ 400) → PutGives t a n p w (.returned (.tuple #[.agg #[.slice (some ⟨g1, 0, none⟩) t.length cp1], .bool false])) (Z.setCell ⟨w.heap.size + 1 + 1, 0, none⟩ (.slice (some ⟨g1, 0, none⟩) t.length cp1))) := fun Z hZ hno => by
    have hgb := (layTwigS.blocks hZ.row g1 (by simp)).1
    refine ⟨_, [g1], t, false, rfl, .inr ⟨rfl, rfl, hno⟩, by simp, layTwigS.lower (layTwigS.chg hZ.row (Chg.cell _ _ _ _) (by simp; omega)) (by omega), hZ.below.trans ((Chg.cell Z _ 0 _).below (by simp; omega) hZ.below.size)⟩
  rcases hTold with ⟨hok, rfl⟩ | ⟨hok, rfl⟩
  · have HOKT := Lib.hid hok
    clear hok
    by_cases hpo : PrefOk a n
    · have H2 := Lib.hid (specPrefixOk_right a n hpo)
      have HPO := Lib.hid hpo
      go_wp2_with fail
      refine (H2.out _).mono ?_
      rintro e Y4 ⟨rfl, hb⟩
      have HS4 := Lib.hid (HS2.out.next hb)
      clear hb HS2 p0 p1 H2
      by_cases hpt : 0 ≤ p ∧ p ≤ 99
      · have H3 := Lib.hid (inRange_yes p 0 99 hpt.1 hpt.2)
        have HPT := Lib.hid hpt
        go_wp2_with fail
        refine (H3.out _).mono ?_
        rintro e Y3 ⟨rfl, rfl⟩
        obtain ⟨A, N, rfl, rfl, hA, hN, _⟩ := hpo.nats
        simp only [Int.toNat_natCast] at BACK
        have HREF : Hid (∀ e w', PutGives t (A : Int) (N : Int) p w e w' → PutGives t (A : Int) (N : Int) p w e w') := fun _ _ h => h
        have c0 : Y3.cell? ⟨w.heap.size, 0, none⟩ = some (.slice ao t.length cp0) := HS4.out.bt.cell 0
        have hblow : Below Y3.heap.size Y3 (Y3.alloc (.cells #[] TwigT)) := (Below.refl _ _).alloc (Nat.le_refl _) _
        have c0' : (Y3.alloc (.cells #[] TwigT)).cell? ⟨w.heap.size, 0, none⟩ = some (.slice ao t.length cp0) := (HS4.out.next hblow).bt.cell 0
        go_wp2_with (at_builtin; refine wpList_copyF (Y3.alloc (.cells #[] TwigT)) rfl _ _ 22 rfl Y3.heap.size TwigT i0 _ 24 layTwig flatTwig Try.underlying22 hi hz0 hsz0 hby0 rfl (by omega) _ _ _ rfl (flat_lit Y3 _ (Nat.le_refl _)) (fun e => by cases e) _ t rfl (layTwigS.below HR.out (HS4.out.next hblow).below) (by simp; omega) (by simp) ?_)
        intro v2 w2 hown2 hnn2 hgr2 hbe2
        obtain ⟨g2, cp2, rfl, hblk2, _, _⟩ := flat_some flatTwig hown2 hnn2
        rw [hblk2] at hown2
        have O2 := Lib.hid hown2
        have B2 := Lib.hid (hblow.trans hbe2)
        have htl := HOKT.out.2
        have htp := HOKT.out.1.pos
        clear hown2 hnn2 hgr2 hbe2 hblk2 c0 c0' hblow H3 hpt hpo
        go_wp2_with fail
        go_loopw [9, 10, 11] (fun vl pk c wr => ∃ (i k : Nat) (l : List Tw) (g cp : Nat), i ≤ N ∧ pk = .int .i64 k ∧ c = .int .i64 i ∧ vl = .slice (some ⟨g, 0, none⟩) l.length cp ∧ Hid (goT t 0 ((bitsP A N).take i) = (l, k)) ∧ k < l.length ∧ l.length ≤ t.length + i ∧ layTwigS.own wr Y3.heap.size [g] [.slice (some ⟨g, 0, none⟩) l.length cp] l ∧ Below Y3.heap.size Y3 wr) (fun _ _ c _ => N - (intOf c).toNat)
        case atStart => exact ⟨0, 0, t, g2, cp2, Nat.zero_le _, rfl, rfl, rfl, rfl, by omega, by omega, O2.out, B2.out⟩
        case round =>
          clear O2 B2 HREF
          obtain ⟨i, k, l, g, cp, hiN, rfl, rfl, rfl, HG, hkl, hll, hO, hB⟩ := hrel
          have HO := Lib.hid hO
          have HB := Lib.hid hB
          clear hO hB
          have HSR := Lib.hid (HS4.out.next HB.out)
          have p0 : wr.cell? ⟨w.heap.size + 1, 0, none⟩ = some (.int .i64 (A : Int)) := HSR.out.bp.cell 0
          have p1 : wr.cell? ⟨w.heap.size + 1, 1, none⟩ = some (.int .i64 (N : Int)) := HSR.out.bp.cell 1
          by_cases hlt : i < N
          · have hlt' : (i : Int) < (N : Int) := by omega
            have hR : TrieR l := by
              have h := (goT_ok HOKT.out.1 ((bitsP A N).take i)).1.right
              rw [HG.out] at h
              exact h
            have hkid := hR.kids k hkl (bitP A i)
            have HBit := Lib.hid (specBit_any A i hA (by omega))
            have HTK : Hid ((bitsP A N).take (i + 1) = (bitsP A N).take i ++ [bitP A i]) := by
              show _ = _
              rw [bitsP_take A N (i + 1) (by omega), bitsP_take A N i (by omega), bitsP_snoc]
            have hb2 := bitP_two A i
            obtain ⟨x, X⟩ : ∃ x, Hid (x = atT l k) := ⟨_, rfl⟩
            rw [← X.out] at hkid
            obtain ⟨g', cap', cs, hv, hfg, hgb, hgl, hrx, hcx, hset⟩ := flat_at flatTwig HO.out k x (by rw [X.out]; exact at_get l k hkl)
            simp only [Value.slice.injEq, Option.some.injEq, Addr.mk.injEq, and_true, true_and] at hv
            obtain ⟨rfl, rfl⟩ := hv
            rw [layTwig_rd] at hrx
            subst hrx
            have kz : bitP A i = 0 → kidOf x (bitP A i) = x.1 := fun e => by rw [e]; rfl
            have ko : bitP A i = 1 → kidOf x (bitP A i) = x.2.1 := fun e => by rw [e]; rfl
            obtain ⟨n0, n1, n2⟩ := x
            obtain ⟨d0, z0⟩ : wr.cell? ⟨g, k * 3, none⟩ = some (.int .i64 n0) ∧ wr.frozen? ⟨g, k * 3, none⟩ = false := hcx 0 _ rfl
            obtain ⟨d1, z1⟩ : wr.cell? ⟨g, k * 3 + 1, none⟩ = some (.int .i64 n1) ∧ wr.frozen? ⟨g, k * 3 + 1, none⟩ = false := hcx 1 _ rfl
            have hk' : (k : Int) < (l.length : Int) := by omega
            clear hcx hfg hR
            generalize bitP A i = b at *
            rcases hkid with hz | ⟨m, hm, hkm, hml⟩
            · by_cases hb1 : b = 1
              · have en : n1 = 0 := (ko hb1).symm.trans hz
                have HKZ := Lib.hid hz
                subst hb1
                clear kz ko hz
                subst en
                have hup := hset [.int .i64 (l.length : Nat)] 1 (setKid (n0, 0, n2) 1 (l.length : Nat)) (show 1 + 1 ≤ 3 by decide) (by rw [layTwig_rd]; rfl)
                have U1 : Hid (layTwigS.own (wr.setCell ⟨g, k * 3 + 1, none⟩ (.int .i64 (l.length : Nat))) Y3.heap.size [g] [.slice (some ⟨g, 0, none⟩) l.length cp] (l.set k (setKid (n0, 0, n2) 1 (l.length : Nat)))) := hup.1
                have UC : Hid (Chg [g] wr (wr.setCell ⟨g, k * 3 + 1, none⟩ (.int .i64 (l.length : Nat)))) := hup.2
                have UB : Hid (Below Y3.heap.size Y3 (wr.setCell ⟨g, k * 3 + 1, none⟩ (.int .i64 (l.length : Nat)))) := HB.out.trans (UC.out.below (by simp; exact hgb) HB.out.size)
                have HST : Hid (goT t 0 ((bitsP A N).take (i + 1)) = (l.set k (setKid (n0, 0, n2) 1 (l.length : Nat)) ++ [tw0], l.length)) := by
                  show _ = _
                  rw [HTK.out, goT_snoc, HG.out]
                  show stepT l k 1 = _
                  unfold stepT
                  rw [← X.out, if_pos HKZ.out]
                clear hup hset
                go_wp2_with fail
                refine (HBit.out _).mono ?_
                rintro e Y5 ⟨rfl, rfl⟩
                go_wp2_with fail
                refine (HBit.out _).mono ?_
                rintro e Y6 ⟨rfl, rfl⟩
                go_upto_region 17 with fail
                generalize Y6.setCell ⟨g, k * 3 + 1, none⟩ (.int .i64 (l.length : Nat)) = wS at *
                go_wp2_with (at_builtin; refine wpList_pushF wS rfl _ _ 22 rfl Y3.heap.size TwigT i0 _ 24 layTwig flatTwig Try.underlying22 hi hz0 hsz0 hby0 rfl (by omega) (.slice (some ⟨g, 0, none⟩) l.length cp) [g] _ (by rfl) U1.out tw0 #[.int .i64 0, .int .i64 0, .int .i64 0] (layTwig_rd.2 rfl) (by rfl) (by rw [List.length_set]; omega) UB.out.size ?_)
                intro v3 w3 hown3 hnn3 hgr3 hbe3
                obtain ⟨g3, cp3, rfl, hblk3, _, _⟩ := flat_some flatTwig hown3 hnn3
                rw [hblk3] at hown3
                have O3 := Lib.hid hown3
                have B3 := Lib.hid (UB.out.trans hbe3)
                clear hown3 hnn3 hgr3 hbe3 hblk3
                go_wp2_with fail
                go_roundw
                case rel => exact ⟨i + 1, l.length, _, g3, cp3, by omega, rfl, by go_num, rfl, HST.out, by simp, by simp; omega, O3.out, B3.out⟩
                case measure => simp [intOf]; omega
              · have hb0 : b = 0 := by omega
                have en : n0 = 0 := (kz hb0).symm.trans hz
                have HKZ := Lib.hid hz
                subst hb0
                clear kz ko hz hb1
                subst en
                have hup := hset [.int .i64 (l.length : Nat)] 0 (setKid (0, n1, n2) 0 (l.length : Nat)) (show 0 + 1 ≤ 3 by decide) (by rw [layTwig_rd]; rfl)
                have U1 : Hid (layTwigS.own (wr.setCell ⟨g, k * 3, none⟩ (.int .i64 (l.length : Nat))) Y3.heap.size [g] [.slice (some ⟨g, 0, none⟩) l.length cp] (l.set k (setKid (0, n1, n2) 0 (l.length : Nat)))) := hup.1
                have UC : Hid (Chg [g] wr (wr.setCell ⟨g, k * 3, none⟩ (.int .i64 (l.length : Nat)))) := hup.2
                have UB : Hid (Below Y3.heap.size Y3 (wr.setCell ⟨g, k * 3, none⟩ (.int .i64 (l.length : Nat)))) := HB.out.trans (UC.out.below (by simp; exact hgb) HB.out.size)
                have HST : Hid (goT t 0 ((bitsP A N).take (i + 1)) = (l.set k (setKid (0, n1, n2) 0 (l.length : Nat)) ++ [tw0], l.length)) := by
                  show _ = _
                  rw [HTK.out, goT_snoc, HG.out]
                  show stepT l k 0 = _
                  unfold stepT
                  rw [← X.out, if_pos HKZ.out]
                clear hup hset
                go_wp2_with fail
                refine (HBit.out _).mono ?_
                rintro e Y5 ⟨rfl, rfl⟩
                go_wp2_with fail
                refine (HBit.out _).mono ?_
                rintro e Y6 ⟨rfl, rfl⟩
                go_upto_region 17 with fail
                generalize Y6.setCell ⟨g, k * 3, none⟩ (.int .i64 (l.length : Nat)) = wS at *
                go_wp2_with (at_builtin; refine wpList_pushF wS rfl _ _ 22 rfl Y3.heap.size TwigT i0 _ 24 layTwig flatTwig Try.underlying22 hi hz0 hsz0 hby0 rfl (by omega) (.slice (some ⟨g, 0, none⟩) l.length cp) [g] _ (by rfl) U1.out tw0 #[.int .i64 0, .int .i64 0, .int .i64 0] (layTwig_rd.2 rfl) (by rfl) (by rw [List.length_set]; omega) UB.out.size ?_)
                intro v3 w3 hown3 hnn3 hgr3 hbe3
                obtain ⟨g3, cp3, rfl, hblk3, _, _⟩ := flat_some flatTwig hown3 hnn3
                rw [hblk3] at hown3
                have O3 := Lib.hid hown3
                have B3 := Lib.hid (UB.out.trans hbe3)
                clear hown3 hnn3 hgr3 hbe3 hblk3
                go_wp2_with fail
                go_roundw
                case rel => exact ⟨i + 1, l.length, _, g3, cp3, by omega, rfl, by go_num, rfl, HST.out, by simp, by simp; omega, O3.out, B3.out⟩
                case measure => simp [intOf]; omega
            · by_cases hb1 : b = 1
              · have en : n1 = (m : Int) := (ko hb1).symm.trans hm
                have HKM := Lib.hid hm
                subst hb1
                clear kz ko hm
                subst en
                have gz : ((m : Int) == 0) = false := by rw [beq_eq_false_iff_ne]; omega
                have HST : Hid (goT t 0 ((bitsP A N).take (i + 1)) = (l, m)) := by
                  show _ = _
                  rw [HTK.out, goT_snoc, HG.out]
                  show stepT l k 1 = _
                  unfold stepT
                  rw [← X.out, if_neg (by rw [HKM.out]; omega), HKM.out]
                  rfl
                clear hset
                go_wp2_with fail
                refine (HBit.out _).mono ?_
                rintro e Y5 ⟨rfl, rfl⟩
                go_wp2_with fail
                go_roundw
                case rel => exact ⟨i + 1, m, l, g, cp, by omega, rfl, by go_num, rfl, HST.out, hml, by omega, HO.out, HB.out⟩
                case measure => simp [intOf]; omega
              · have hb0 : b = 0 := by omega
                have en : n0 = (m : Int) := (kz hb0).symm.trans hm
                have HKM := Lib.hid hm
                subst hb0
                clear kz ko hm hb1
                subst en
                have gz : ((m : Int) == 0) = false := by rw [beq_eq_false_iff_ne]; omega
                have HST : Hid (goT t 0 ((bitsP A N).take (i + 1)) = (l, m)) := by
                  show _ = _
                  rw [HTK.out, goT_snoc, HG.out]
                  show stepT l k 0 = _
                  unfold stepT
                  rw [← X.out, if_neg (by rw [HKM.out]; omega), HKM.out]
                  rfl
                clear hset
                go_wp2_with fail
                refine (HBit.out _).mono ?_
                rintro e Y5 ⟨rfl, rfl⟩
                go_wp2_with fail
                go_roundw
                case rel => exact ⟨i + 1, m, l, g, cp, by omega, rfl, by go_num, rfl, HST.out, hml, by omega, HO.out, HB.out⟩
                case measure => simp [intOf]; omega
          · have hlt' : ¬ ((i : Int) < (N : Int)) := by omega
            have hiN2 : i = N := by omega
            subst hiN2
            rw [bitsP_take A i i (Nat.le_refl _)] at HG
            have hput : putT t (bitsP A i) p = setTo l k p := by
              unfold putT
              rw [HG.out]
            have hplen : (putT t (bitsP A i) p).length = l.length := by rw [hput]; simp [setTo]
            by_cases h400 : l.length ≤ 400
            · have h4' : ¬ ((400 : Int) < (l.length : Int)) := by omega
              obtain ⟨x, X⟩ : ∃ x, Hid (x = atT l k) := ⟨_, rfl⟩
              obtain ⟨g', cap', cs, hv, hfg, hgb, hgl, hrx, hcx, hset⟩ := flat_at flatTwig HO.out k x (by rw [X.out]; exact at_get l k hkl)
              simp only [Value.slice.injEq, Option.some.injEq, Addr.mk.injEq, and_true, true_and] at hv
              obtain ⟨rfl, rfl⟩ := hv
              rw [layTwig_rd] at hrx
              subst hrx
              obtain ⟨n0, n1, n2⟩ := x
              obtain ⟨d2, z2⟩ : wr.cell? ⟨g, k * 3 + 2, none⟩ = some (.int .i64 n2) ∧ wr.frozen? ⟨g, k * 3 + 2, none⟩ = false := hcx 2 _ rfl
              have hup := hset [.int .i64 p] 2 (n0, n1, p) (show 2 + 1 ≤ 3 by decide) (by rw [layTwig_rd]; rfl)
              have hk' : (k : Int) < (l.length : Int) := by omega
              have U1 : Hid (layTwigS.own (wr.setCell ⟨g, k * 3 + 2, none⟩ (.int .i64 p)) Y3.heap.size [g] [.slice (some ⟨g, 0, none⟩) l.length cp] (setTo l k p)) := by
                have e : setTo l k p = l.set k (n0, n1, p) := by
                  unfold setTo
                  rw [← X.out]
                rw [e]
                exact hup.1
              have UC : Hid (Chg [g] wr (wr.setCell ⟨g, k * 3 + 2, none⟩ (.int .i64 p))) := hup.2
              have hyw := HS4.out.below.size
              have hby := HS4.out.br.lt
              have UR : Hid (VarA (w.heap.size + 1 + 1) 24 #[.slice none 0 0] (wr.setCell ⟨g, k * 3 + 2, none⟩ (.int .i64 p))) := ⟨by rw [UC.out.block _ HSR.out.br.lt (by simp; omega)]; exact HSR.out.br.row⟩
              have UB : Hid (Below w.heap.size w (wr.setCell ⟨g, k * 3 + 2, none⟩ (.int .i64 p))) := HSR.out.below.trans (UC.out.below (by simp; omega) HSR.out.below.size)
              have HPUT := Lib.hid hput
              have HLEN : Hid ((putT t (bitsP A i) p).length ≤ 400) := by show _ ≤ _; omega
              have HGB : Hid (w.heap.size + 1 + 1 < g) := by show _ < _; omega
              clear hup hset hcx hfg hput hplen hgb hgl hyw hby
              go_upto_region 22 with fail
              generalize wr.setCell ⟨g, k * 3 + 2, none⟩ (.int .i64 p) = wS at *
              have q0 : wS.cell? ⟨w.heap.size + 1 + 1, 0, none⟩ = some (.slice none 0 0) := UR.out.cell 0
              have f0 : wS.frozen? ⟨w.heap.size + 1 + 1, 0, none⟩ = false := UR.out.free 0
              have j0 := (UR.out.set 0 (.slice (some ⟨g, 0, none⟩) l.length cp)).cell 0
              have FIN : Hid (PutGives t (A : Int) (i : Int) p w (.returned (.tuple #[.agg #[.slice (some ⟨g, 0, none⟩) l.length cp], .bool true])) (wS.setCell ⟨w.heap.size + 1 + 1, 0, none⟩ (.slice (some ⟨g, 0, none⟩) l.length cp))) := by
                have hgw : w.heap.size ≤ Y3.heap.size := HS4.out.below.size
                have hlt := HGB.out
                refine ⟨_, [g], setTo l k p, true, rfl, .inl ⟨rfl, ⟨HOKT.out, HPO.out, HPT.out⟩, ?_, ?_⟩, by simp, layTwigS.lower (layTwigS.chg U1.out (Chg.cell _ _ _ _) (by simp; omega)) hgw, UB.out.trans ((Chg.cell wS _ 0 _).below (by simp; omega) UB.out.size)⟩
                · simpa using HLEN.out
                · simp only [Int.toNat_natCast]
                  exact HPUT.out.symm
              go_wp2_with fail
              exact bodyPost_ret (v := .tuple #[.agg #[.slice (some ⟨g, 0, none⟩) l.length cp], .bool true]) (by simp [results, Try.results17, go_sem, j0]) rfl FIN.out
            · have h4' : (400 : Int) < (l.length : Int) := by omega
              have HN : Hid (¬ ((TrieOkP t ∧ PrefOk (A : Int) (i : Int) ∧ (0 ≤ p ∧ p ≤ 99)) ∧ (putT t (bitsP A i) p).length ≤ 400)) := fun h => by
                have := h.2
                omega
              clear hput hplen
              have s0 : wr.cell? ⟨gs, 0, none⟩ = some (.slice (some ⟨g1, 0, none⟩) t.length cp1) := HSR.out.same.cell 0
              have q0 : wr.cell? ⟨w.heap.size + 1 + 1, 0, none⟩ = some (.slice none 0 0) := HSR.out.br.cell 0
              have f0 : wr.frozen? ⟨w.heap.size + 1 + 1, 0, none⟩ = false := HSR.out.br.free 0
              have j0 := (HSR.out.br.set 0 (.slice (some ⟨g1, 0, none⟩) t.length cp1)).cell 0
              go_wp2_with fail
              exact bodyPost_ret (v := .tuple #[.agg #[.slice (some ⟨g1, 0, none⟩) t.length cp1], .bool false]) (by simp [results, Try.results17, go_sem, j0]) rfl (BACK.out wr HSR.out HN.out)
      · have H3 := Lib.hid (inRange_no p 0 99 (by omega))
        have HN : Hid (¬ ((TrieOkP t ∧ PrefOk a n ∧ (0 ≤ p ∧ p ≤ 99)) ∧ (putT t (bitsP a.toNat n.toNat) p).length ≤ 400)) := fun h => hpt h.1.2.2
        clear hpt hpo
        go_wp2_with fail
        refine (H3.out _).mono ?_
        rintro e Y3 ⟨rfl, rfl⟩
        have s0 : Y3.cell? ⟨gs, 0, none⟩ = some (.slice (some ⟨g1, 0, none⟩) t.length cp1) := HS4.out.same.cell 0
        have q0 : Y3.cell? ⟨w.heap.size + 1 + 1, 0, none⟩ = some (.slice none 0 0) := HS4.out.br.cell 0
        have f0 : Y3.frozen? ⟨w.heap.size + 1 + 1, 0, none⟩ = false := HS4.out.br.free 0
        have j0 := (HS4.out.br.set 0 (.slice (some ⟨g1, 0, none⟩) t.length cp1)).cell 0
        go_wp2_with fail
        exact bodyPost_ret (v := .tuple #[.agg #[.slice (some ⟨g1, 0, none⟩) t.length cp1], .bool false]) (by simp [results, Try.results17, go_sem, j0]) rfl (BACK.out Y3 HS4.out HN.out)
    · have H2 := Lib.hid (specPrefixOk_wrong a n hpo)
      have HN : Hid (¬ ((TrieOkP t ∧ PrefOk a n ∧ (0 ≤ p ∧ p ≤ 99)) ∧ (putT t (bitsP a.toNat n.toNat) p).length ≤ 400)) := fun h => hpo h.1.2.1
      clear hpo
      go_wp2_with fail
      refine (H2.out _).mono ?_
      rintro e Y4 ⟨rfl, hb⟩
      have HS4 := Lib.hid (HS2.out.next hb)
      clear hb HS2 p0 p1 H2
      have s0 : Y4.cell? ⟨gs, 0, none⟩ = some (.slice (some ⟨g1, 0, none⟩) t.length cp1) := HS4.out.same.cell 0
      have q0 : Y4.cell? ⟨w.heap.size + 1 + 1, 0, none⟩ = some (.slice none 0 0) := HS4.out.br.cell 0
      have f0 : Y4.frozen? ⟨w.heap.size + 1 + 1, 0, none⟩ = false := HS4.out.br.free 0
      have j0 := (HS4.out.br.set 0 (.slice (some ⟨g1, 0, none⟩) t.length cp1)).cell 0
      go_wp2_with fail
      exact bodyPost_ret (v := .tuple #[.agg #[.slice (some ⟨g1, 0, none⟩) t.length cp1], .bool false]) (by simp [results, Try.results17, go_sem, j0]) rfl (BACK.out Y4 HS4.out HN.out)
  · have HN : Hid (¬ ((TrieOkP t ∧ PrefOk a n ∧ (0 ≤ p ∧ p ≤ 99)) ∧ (putT t (bitsP a.toNat n.toNat) p).length ≤ 400)) := fun h => hok h.1.1
    clear hok
    have s0 : Y2.cell? ⟨gs, 0, none⟩ = some (.slice (some ⟨g1, 0, none⟩) t.length cp1) := HS2.out.same.cell 0
    have q0 : Y2.cell? ⟨w.heap.size + 1 + 1, 0, none⟩ = some (.slice none 0 0) := HS2.out.br.cell 0
    have f0 : Y2.frozen? ⟨w.heap.size + 1 + 1, 0, none⟩ = false := HS2.out.br.free 0
    have j0 := (HS2.out.br.set 0 (.slice (some ⟨g1, 0, none⟩) t.length cp1)).cell 0
    go_wp2_with fail
    exact bodyPost_ret (v := .tuple #[.agg #[.slice (some ⟨g1, 0, none⟩) t.length cp1], .bool false]) (by simp [results, Try.results17, go_sem, j0]) rfl (BACK.out Y2 HS2.out HN.out)

end Go.Proofs.Ytkfcoldjgijpcap
