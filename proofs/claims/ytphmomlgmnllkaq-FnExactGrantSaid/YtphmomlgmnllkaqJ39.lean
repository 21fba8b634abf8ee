/-
  The program's Release.
  The program's addrFor.
-/
import Derived.Test.YtphmomlgmnllkaqJ32
import Derived.Test.YtphmomlgmnllkaqJ37
import Derived.Test.YtphmomlgmnllkaqJ38
namespace Go.Proofs.Ytphmomlgmnllkaq
open Go.RowKit

/-- What Release leaves. -/
def RelEnd (pa pn : Int) (ls : List Ls) (fs : List Fx) (who : Int) (w : World) (e : Ending) (w' : World) : Prop := ∃ (lu fu : Value) (rs : List Ls) (b : Bool), e = .returned (.tuple #[.agg #[.int .i64 pa, .int .i64 pn, lu, fu], .bool b]) ∧ RelTold pa pn ls fs who rs b ∧ PoolOut w lu fu rs fs w'

set_option maxRecDepth 100000 in
set_option maxHeartbeats 3200000 in
theorem implRelease_any (pa pn : Int) (lv fv : Value) (ls : List Ls) (fs : List Fx) (who : Int) (hl : ls.length ≤ 2000000) (hfl : fs.length ≤ 2000000) (w : World) (h : PoolR w lv fv ls fs) :
    Calls Try.prog 14 #[.agg #[.int .i64 pa, .int .i64 pn, lv, fv], .int .i64 who] w (RelEnd pa pn ls fs who w) := by
  obtain ⟨la, lc, rfl⟩ := rows_form h.leases
  obtain ⟨fa, fc, rfl⟩ := rows_form h.fixes
  have e1 : (w.alloc (.cells #[.int .i64 pa, .int .i64 pn, .slice la ls.length lc, .slice fa fs.length fc] PoolT)).heap.size = w.heap.size + 1 := by simp
  have hB0 : Below w.heap.size w ((w.alloc (.cells #[.int .i64 pa, .int .i64 pn, .slice la ls.length lc, .slice fa fs.length fc] PoolT)).alloc (.cells #[.int .i64 0, .int .i64 0, .slice none 0 0, .slice none 0 0] PoolT)) := ((Below.refl w.heap.size w).alloc (Nat.le_refl _) _).alloc (by simp) _
  have hr0 := VarA.new (w.alloc (.cells #[.int .i64 pa, .int .i64 pn, .slice la ls.length lc, .slice fa fs.length fc] PoolT)) PoolT #[.int .i64 0, .int .i64 0, .slice none 0 0, .slice none 0 0]
  rw [e1] at hr0
  have R0 := Lib.hid hr0
  have P0 : Hid (PB w pa pn (.slice la ls.length lc) (.slice fa fs.length fc) ls fs ((w.alloc (.cells #[.int .i64 pa, .int .i64 pn, .slice la ls.length lc, .slice fa fs.length fc] PoolT)).alloc (.cells #[.int .i64 0, .int .i64 0, .slice none 0 0, .slice none 0 0] PoolT))) := ⟨(VarA.new w PoolT _).alloc _, h.next hB0, hB0⟩
  clear h hr0 e1 hB0
  go_enter Try.func14, Try.ntmps14
  go_upto_region 1 with fail
  generalize (w.alloc (.cells #[.int .i64 pa, .int .i64 pn, .slice la ls.length lc, .slice fa fs.length fc] PoolT)).alloc (.cells #[.int .i64 0, .int .i64 0, .slice none 0 0, .slice none 0 0] PoolT) = Y0 at *
  have k0 : Y0.cell? ⟨w.heap.size, 0, none⟩ = some (.int .i64 pa) := P0.out.box.cell 0
  have k1 : Y0.cell? ⟨w.heap.size, 1, none⟩ = some (.int .i64 pn) := P0.out.box.cell 1
  have k2 : Y0.cell? ⟨w.heap.size, 2, none⟩ = some (.slice la ls.length lc) := P0.out.box.cell 2
  have k3 : Y0.cell? ⟨w.heap.size, 3, none⟩ = some (.slice fa fs.length fc) := P0.out.box.cell 3
  go_wp2_with fail
  refine (implPoolOk_any pa pn _ _ ls fs hl hfl Y0 P0.out.rd).mono ?_
  rintro e Y1 ⟨ht, hb1⟩
  have P1 := Lib.hid (P0.out.next hb1)
  have R1 := Lib.hid (R0.out.next hb1)
  clear hb1 k0 k1 k2 k3 P0 R0
  have k0 : Y1.cell? ⟨w.heap.size, 0, none⟩ = some (.int .i64 pa) := P1.out.box.cell 0
  have k1 : Y1.cell? ⟨w.heap.size, 1, none⟩ = some (.int .i64 pn) := P1.out.box.cell 1
  have k2 : Y1.cell? ⟨w.heap.size, 2, none⟩ = some (.slice la ls.length lc) := P1.out.box.cell 2
  have k3 : Y1.cell? ⟨w.heap.size, 3, none⟩ = some (.slice fa fs.length fc) := P1.out.box.cell 3
  rcases ht with ⟨hP, rfl⟩ | ⟨hP, rfl⟩
  rotate_left
  · have HT : Hid (RelTold pa pn ls fs who ls false) := .inr ⟨rfl, rfl, fun h => hP h.1⟩
    clear hP
    go_wp2_with fail
    refine (copyOfPool_any pa pn _ _ ls fs (by omega) (by omega) Y1 P1.out.rd).mono ?_
    rintro e Y2 ⟨lu, fu, rfl, hO⟩
    obtain ⟨ga, gc, rfl⟩ := rows_form hO.pool.leases
    obtain ⟨ka, kc, rfl⟩ := rows_form hO.pool.fixes
    have R2 := R1.out.next hO.below
    have m0 : Y2.cell? ⟨w.heap.size + 1, 0, none⟩ = some (.int .i64 0) := R2.cell 0
    have m1 : Y2.cell? ⟨w.heap.size + 1, 1, none⟩ = some (.int .i64 0) := R2.cell 1
    have m2 : Y2.cell? ⟨w.heap.size + 1, 2, none⟩ = some (.slice none 0 0) := R2.cell 2
    have m3 : Y2.cell? ⟨w.heap.size + 1, 3, none⟩ = some (.slice none 0 0) := R2.cell 3
    have n0 := R2.free 0
    have n1 := R2.free 1
    have n2 := R2.free 2
    have n3 := R2.free 3
    have hb : Below w.heap.size w Y2 := P1.out.below.trans (hO.below.mono P1.out.below.size)
    have RS := (((R2.set 0 (.int .i64 pa)).set 1 (.int .i64 pn)).set 2 (.slice ga ls.length gc)).set 3 (.slice ka fs.length kc)
    have j0 := RS.cell 0
    have j1 := RS.cell 1
    have j2 := RS.cell 2
    have j3 := RS.cell 3
    have HE : Hid (PoolOut w (.slice ga ls.length gc) (.slice ka fs.length kc) ls fs _) := out_four (pa := pa) (pn := pn) (Nat.le_succ _) R2 (hO.lo.imp fun f hf => layLeaseS.lower hf P1.out.below.size) (hO.fo.imp fun f hf => layFixedS.lower hf P1.out.below.size) hb
    clear RS R2 hO hb
    go_wp2_with fail
    exact bodyPost_ret (v := .tuple #[.agg #[.int .i64 pa, .int .i64 pn, .slice ga ls.length gc, .slice ka fs.length kc], .bool false]) (by simp [results, Try.results14, go_sem, j0, j1, j2, j3]) rfl ⟨_, _, ls, false, rfl, HT.out, HE.out⟩
  have HPO := Lib.hid hP
  have hl6 : ls.length ≤ 6 := hP.1.2.2.2.1
  have HAS : Hid (AscL ls) := hP.leases.2.1
  clear hP
  go_wp2_with fail
  refine (heapOf_any _ ls Y1 P1.out.rd.leases (by omega) HAS.out).mono ?_
  rintro e Y2 ⟨b0, nd, v, ps, rfl, hH, hLI, hpl, hb2⟩
  obtain ⟨ao, cap, rfl, -⟩ := hH.hw.form
  have hbn : Below Y2.heap.size Y2 (Y2.alloc (.cells #[.slice ao ps.length cap] HpT)) := (Below.refl _ _).alloc (Nat.le_refl _) _
  have H3 : Hid (HeapP (Y2.alloc (.cells #[.slice ao ps.length cap] HpT)) Y1.heap.size Y2.heap.size nd (.slice ao ps.length cap) ps) := (hH.next hbn).rebind (VarA.new Y2 HpT _) hb2.size
  have B3 : Hid (Below Y1.heap.size Y1 (Y2.alloc (.cells #[.slice ao ps.length cap] HpT))) := hb2.trans (hbn.mono hb2.size)
  have HLI := Lib.hid hLI
  have hpl6 : ps.length ≤ 6 := by omega
  have hg2 : Y1.heap.size ≤ Y2.heap.size := hb2.size
  clear hH hLI hpl hb2 hbn k0 k1 k2 k3
  go_upto_region 4 with fail
  generalize Y2.alloc (.cells #[.slice ao ps.length cap] HpT) = Y3 at *
  generalize Y2.heap.size = gb at *
  clear Y2
  go_wp2_with fail
  refine (drop_any H3.out who (by omega)).mono ?_
  rintro e Y4 hD
  obtain ⟨bd, T, nd4, v4, qs, rfl, h4, hT4, hA4, hRT, hql, hC4⟩ : ∃ (bd : Bool) (T : List Ls) (nd4 : Nat → Hd) (v4 : Value) (qs : List Nat), e = .returned (.bool bd) ∧ HeapP Y4 Y1.heap.size gb nd4 v4 qs ∧ LeasesIn nd4 qs T ∧ AscL T ∧ RelTold pa pn ls fs who T bd ∧ qs.length ≤ 6 ∧ Below Y1.heap.size Y1 Y4 := by
    rcases hD with ⟨n, p, hn, hp, hw, rfl, v', qs, q1, q2, q3, q4, q5⟩ | ⟨hno, rfl, rfl⟩
    · exact ⟨true, _, nd, v', qs, rfl, ⟨q1, by rw [q2]; exact q4, H3.out.one.sub (fun x hx => ((q3 x).1 hx).1)⟩, HLI.out.without HPO.out.leases H3.out.one hp hw q3, asc_filter HAS.out _, rel_yes HPO.out HLI.out hp hw, by omega, B3.out.trans (q5.below hg2 B3.out.size)⟩
    · exact ⟨false, ls, nd, _, ps, rfl, H3.out, HLI.out, HAS.out, rel_no HLI.out hno, by omega, B3.out⟩
  clear hD
  have H4 := Lib.hid h4
  have HT4 := Lib.hid hT4
  have HA4 := Lib.hid hA4
  have HRT := Lib.hid hRT
  have B4 := Lib.hid hC4
  have P4 := Lib.hid (P1.out.next hC4)
  have R4 := Lib.hid (R1.out.next hC4)
  clear h4 hT4 hA4 hRT hC4 H3 B3 HLI
  have s0 : Y4.cell? ⟨w.heap.size, 0, none⟩ = some (.int .i64 pa) := P4.out.box.cell 0
  have s1 : Y4.cell? ⟨w.heap.size, 1, none⟩ = some (.int .i64 pn) := P4.out.box.cell 1
  have s2 : Y4.cell? ⟨w.heap.size, 2, none⟩ = some (.slice la ls.length lc) := P4.out.box.cell 2
  have s3 : Y4.cell? ⟨w.heap.size, 3, none⟩ = some (.slice fa fs.length fc) := P4.out.box.cell 3
  have hs4 : Y1.heap.size ≤ Y4.drew.heap.size := B4.out.size
  have HTO := Lib.hid (heapTold_any (H4.out.next ((Below.refl _ Y4).drew)) T HT4.out HA4.out (by omega) hs4)
  have hwY : w.heap.size ≤ Y4.heap.size := P4.out.below.size
  go_wp2_with fail
  go_region_law (first | (go_simp; refine HTO.out.mono ?_; rintro e W1 ⟨lu, f, rfl, hlo, hc5⟩; obtain ⟨ua, uc, rfl⟩ := rows_form (layLeaseS.read hlo); have B5 : Below Y1.heap.size Y1 W1 := B4.out.trans (((Below.refl Y1.heap.size Y4).drew).trans (hc5.below hg2 hs4)); have P5 := P1.out.next B5; have R5 := R1.out.next B5; have t0 : W1.cell? ⟨w.heap.size, 0, none⟩ = some (.int .i64 pa) := P5.box.cell 0; have t1 : W1.cell? ⟨w.heap.size, 1, none⟩ = some (.int .i64 pn) := P5.box.cell 1; have t2 : W1.cell? ⟨w.heap.size, 2, none⟩ = some (.slice la ls.length lc) := P5.box.cell 2; have t3 : W1.cell? ⟨w.heap.size, 3, none⟩ = some (.slice fa fs.length fc) := P5.box.cell 3; simp only []) | (go_simp; refine (poolWith_any pa pn la ls.length lc _ fs ua T.length uc (by omega) _ P5.rd.fixes).mono ?_; rintro e W2 ⟨k, kc, rfl, hfo, hb6⟩; have R6 := R5.next hb6; have m0 : W2.cell? ⟨w.heap.size + 1, 0, none⟩ = some (.int .i64 0) := R6.cell 0; have m1 : W2.cell? ⟨w.heap.size + 1, 1, none⟩ = some (.int .i64 0) := R6.cell 1; have m2 : W2.cell? ⟨w.heap.size + 1, 2, none⟩ = some (.slice none 0 0) := R6.cell 2; have m3 : W2.cell? ⟨w.heap.size + 1, 3, none⟩ = some (.slice none 0 0) := R6.cell 3; have n0 := R6.free 0; have n1 := R6.free 1; have n2 := R6.free 2; have n3 := R6.free 3; have hlo6 := layLeaseS.next hlo hb6; simp only []))
  all_goals
    have RS := (((R6.set 0 (.int .i64 pa)).set 1 (.int .i64 pn)).set 2 (.slice ua T.length uc)).set 3 (.slice (some ⟨k, 0, none⟩) fs.length kc)
    have j0 := RS.cell 0
    have j1 := RS.cell 1
    have j2 := RS.cell 2
    have j3 := RS.cell 3
    have hb7 : Below w.heap.size w W2 := P5.below.trans (hb6.mono P5.below.size)
    have HE := Lib.hid (out_four (w := w) (pa := pa) (pn := pn) (Nat.le_succ _) R6 ⟨_, layLeaseS.lower hlo6 hwY⟩ ⟨_, layFixedS.lower hfo P5.below.size⟩ hb7)
    clear RS R5 R6 P5 B5 hlo hlo6 hfo hb6 hb7 hc5
    go_wp2_with fail
    exact bodyPost_ret (v := .tuple #[.agg #[.int .i64 pa, .int .i64 pn, .slice ua T.length uc, .slice (some ⟨k, 0, none⟩) fs.length kc], .bool bd]) (by simp [results, Try.results14, go_sem, j0, j1, j2, j3]) rfl ⟨_, _, T, bd, rfl, HRT.out, HE.out⟩

end Go.Proofs.Ytphmomlgmnllkaq
namespace Go.Proofs.Ytphmomlgmnllkaq
open Go.RowKit

/-- What addrFor tells. -/
def ForEnd (fp : Int) (w : World) (e : Ending) (w' : World) : Prop := ∃ b : Bool, e = .returned (.tuple #[.int .i64 fp, .bool b]) ∧ (b = true ↔ fp ≠ 0) ∧ Below w.heap.size w w'

set_option maxRecDepth 100000 in
set_option maxHeartbeats 3200000 in
theorem addrFor_any (pa pn : Int) (lv fv : Value) (ls : List Ls) (fs : List Fx) (who : Int) (hl : ls.length ≤ 2000000) (hfl : fs.length ≤ 2000000) (hp : PoolOkP pa pn ls fs) (w : World) (h : PoolR w lv fv ls fs) :
    Calls Try.prog 31 #[.agg #[.int .i64 pa, .int .i64 pn, lv, fv], .int .i64 who] w (ForEnd (freeP pa pn ls fs who) w) := by
  obtain ⟨la, lc, rfl⟩ := rows_form h.leases
  obtain ⟨fa, fc, rfl⟩ := rows_form h.fixes
  have hp1 := hp.1.1
  have hn24 := hp.1.2.1
  have hn30 := hp.1.2.2.1
  have HFI : Hid (∀ (k : Nat) (f : Fx), fs[k]? = some f → f.2 ≠ 0) := fun k f hf => by
    have h1 := (inside_iff hp1).1 (hp.2.1 k f hf).2.1
    have := hp1.1.1
    omega
  obtain ⟨b, n, rfl, rfl, hb32, hn32, _⟩ := hp1.nats
  have hz4 : 4 ≤ sizeP n := Nat.pow_le_pow_right (n := 2) (by omega) (show 2 ≤ 32 - n by omega)
  have hz5 := sizeP_le n
  have K3 := Lib.hid (fun X => givenEnds_any b n hb32 (by omega) (by omega) X)
  obtain ⟨z, Z⟩ : ∃ z, Hid (z = sizeP n) := ⟨_, rfl⟩
  rw [← Z.out] at K3 hz4 hz5
  have FP : Hid (∀ x, ownP fs who = some x → freeP b n ls fs who = x) := fun x hx => by unfold freeP; rw [hx]
  have FN : Hid (ownP fs who = none → freeP b n ls fs who = freeFrom ls fs (z - 2) ((b + 1 + 0 : Nat) : Int)) := fun hx => by unfold freeP; rw [hx, Z.out]; rfl
  obtain ⟨fp, HFP⟩ : ∃ fp, Hid (fp = freeP b n ls fs who) := ⟨_, rfl⟩
  rw [← HFP.out] at FP FN ⊢
  have hB0 : Below w.heap.size w (w.alloc (.cells #[.int .i64 b, .int .i64 n, .slice la ls.length lc, .slice fa fs.length fc] PoolT)) := (Below.refl _ _).alloc (Nat.le_refl _) _
  have P0 : Hid (PB w b n (.slice la ls.length lc) (.slice fa fs.length fc) ls fs (w.alloc (.cells #[.int .i64 b, .int .i64 n, .slice la ls.length lc, .slice fa fs.length fc] PoolT))) := ⟨VarA.new w PoolT _, h.next hB0, hB0⟩
  clear h hB0 hp Z HFP hp1
  go_enter Try.func31, Try.ntmps31
  go_upto_region 1 with fail
  generalize w.alloc (.cells #[.int .i64 b, .int .i64 n, .slice la ls.length lc, .slice fa fs.length fc] PoolT) = X0 at *
  have c3 : X0.cell? ⟨w.heap.size, 3, none⟩ = some (.slice fa fs.length fc) := P0.out.box.cell 3
  go_wp2_with fail
  go_loopw [14] (fun c wr => ∃ k : Nat, k ≤ fs.length ∧ c = .int .i64 k ∧ Hid (∀ j, j < k → ∀ x, fs[j]? = some x → x.1 ≠ who) ∧ PB w b n (.slice la ls.length lc) (.slice fa fs.length fc) ls fs wr) (fun c _ => fs.length - (intOf c).toNat)
  case atStart => exact ⟨0, Nat.zero_le _, rfl, fun j hj => absurd hj (by omega), P0.out⟩
  case round =>
    obtain ⟨k, hk, rfl, HN, hpb⟩ := hrel
    clear P0 c3
    have P0 := Lib.hid hpb
    clear hpb
    by_cases hlt : k < fs.length
    · have hlt' : (k : Int) < (fs.length : Int) := by omega
      have hget : fs[k]? = some fs[k] := List.getElem?_eq_getElem hlt
      obtain ⟨g, off, rfl, hg, d0, d1⟩ := fixed_cells P0.out.rd.fixes k _ hget
      generalize fs[k] = l at hget d0 d1
      obtain ⟨l0, l1⟩ := l
      have P1 := Lib.hid (P0.out.next ((Below.refl _ wr).alloc (Nat.le_refl _) (.cells #[.int .i64 l0, .int .i64 l1] FixedT)))
      by_cases hla : l0 = who
      · have hbq : (l0 == who) = true := by rw [beq_iff_eq]; exact hla
        have HE : Hid (fp = l1) := FP.out _ (own_at fs who k (l0, l1) hget HN.out hla)
        have HNZ : Hid (fp ≠ 0) := by show fp ≠ 0; rw [HE.out]; exact HFI.out k _ hget
        clear hla hget
        go_wp2_with fail
        go_ret2
        exact ⟨true, by rw [HE.out]; rfl, by simp; exact HNZ.out, P1.out.below⟩
      · have hbq : (l0 == who) = false := by rw [beq_eq_false_iff_ne]; exact hla
        have HN2 : Hid (∀ j, j < k + 1 → ∀ x, fs[j]? = some x → x.1 ≠ who) := fun j hj x hx => by
          rcases Nat.lt_or_ge j k with h1 | h1
          · exact HN.out j h1 x hx
          · have : j = k := by omega
            subst this
            rw [hget] at hx
            cases hx
            exact hla
        clear hla hget
        go_wp2_with fail
        go_roundw
        case rel => exact ⟨k + 1, by omega, by go_num, HN2, P1.out⟩
        case measure => simp [intOf]; omega
    · have hlt' : ¬ ((k : Int) < (fs.length : Int)) := by omega
      have HE : Hid (fp = freeFrom ls fs (z - 2) ((b + 1 + 0 : Nat) : Int)) := FN.out (own_none fs who (fun j x hx => HN.out j (by have := (List.getElem?_eq_some_iff.1 hx).1; omega) x hx))
      have c0 : wr.cell? ⟨w.heap.size, 0, none⟩ = some (.int .i64 (b : Int)) := P0.out.box.cell 0
      have c1 : wr.cell? ⟨w.heap.size, 1, none⟩ = some (.int .i64 (n : Int)) := P0.out.box.cell 1
      clear FP FN HN
      go_wp2_with fail
      refine (K3.out wr).mono ?_
      rintro e V1 ⟨rfl, hb1⟩
      have P1 := Lib.hid (P0.out.next hb1)
      clear hb1 c0 c1 P0 K3
      go_wp2_with fail
      go_loopw [10] (fun c wv => ∃ j : Nat, j + 2 ≤ z ∧ c = .int .i64 ((b + 1 + j : Nat) : Int) ∧ Hid (fp = freeFrom ls fs (z - 2 - j) ((b + 1 + j : Nat) : Int)) ∧ PB w b n (.slice la ls.length lc) (.slice fa fs.length fc) ls fs wv) (fun c _ => b + z - (intOf c).toNat)
      case atStart => exact ⟨0, by omega, by go_num, HE, P1.out⟩
      case round =>
        obtain ⟨j, hj, rfl, HJ, hpb⟩ := hrel
        have PX := Lib.hid hpb
        clear hpb P1 HE
        by_cases hjz : j + 2 < z
        · have hjz' : ((b + 1 + j : Nat) : Int) ≤ (b : Int) + (z : Int) - 2 := by omega
          have HS := Lib.hid (free_next ls fs z j b hjz)
          have HH := Lib.hid (free_here ls fs z j b hjz)
          have H1 := Lib.hid (fun X hX => implHolderOf_any b n (.slice la ls.length lc) (.slice fa fs.length fc) ls fs ((b + 1 + j : Nat) : Int) hl X hX)
          have H2 := Lib.hid (fun X hX => fixedFor_any (.slice fa fs.length fc) fs ((b + 1 + j : Nat) : Int) hfl X hX)
          generalize holderP ls ((b + 1 + j : Nat) : Int) = hv at *
          generalize fixedP fs ((b + 1 + j : Nat) : Int) = xv at *
          have c0 : wr.cell? ⟨w.heap.size, 0, none⟩ = some (.int .i64 (b : Int)) := PX.out.box.cell 0
          have c1 : wr.cell? ⟨w.heap.size, 1, none⟩ = some (.int .i64 (n : Int)) := PX.out.box.cell 1
          have c2 : wr.cell? ⟨w.heap.size, 2, none⟩ = some (.slice la ls.length lc) := PX.out.box.cell 2
          have c3 : wr.cell? ⟨w.heap.size, 3, none⟩ = some (.slice fa fs.length fc) := PX.out.box.cell 3
          go_wp2_with fail
          refine (H1.out wr PX.out.rd).mono ?_
          rintro e X1 ⟨rfl, hb1⟩
          have P1 := Lib.hid (PX.out.next hb1)
          clear hb1 PX c0 c1 c2 c3
          have c3 : X1.cell? ⟨w.heap.size, 3, none⟩ = some (.slice fa fs.length fc) := P1.out.box.cell 3
          by_cases hv0 : hv = 0
          · subst hv0
            go_wp2_with fail
            refine (H2.out X1 P1.out.rd.fixes).mono ?_
            rintro e X2 ⟨rfl, hb2⟩
            have P2 := Lib.hid (P1.out.next hb2)
            clear hb2 P1 c3
            by_cases xv0 : xv = 0
            · subst xv0
              have HFE : Hid (fp = ((b + 1 + j : Nat) : Int)) := by show _ = _; rw [HJ.out]; exact HH.out (by first | exact ⟨rfl, rfl⟩ | exact ⟨trivial, trivial⟩ | simp)
              clear HJ HS HH H1 H2
              go_wp2_with fail
              go_ret2
              exact ⟨true, by rw [HFE.out]; rfl, by rw [HFE.out]; simp; omega, P2.out.below⟩
            · have hxb : (xv == 0) = false := by rw [beq_eq_false_iff_ne]; exact xv0
              have HJ2 : Hid (fp = freeFrom ls fs (z - 2 - (j + 1)) ((b + 1 + (j + 1) : Nat) : Int)) := by show _ = _; rw [HJ.out]; exact HS.out (fun h => xv0 h.2)
              clear HJ HS HH H1 H2 xv0
              go_wp2_with fail
              go_roundw
              case rel => exact ⟨j + 1, by omega, by go_num, HJ2, P2.out⟩
              case measure => simp [intOf]; omega
          · have hvb : (hv == 0) = false := by rw [beq_eq_false_iff_ne]; exact hv0
            have HJ2 : Hid (fp = freeFrom ls fs (z - 2 - (j + 1)) ((b + 1 + (j + 1) : Nat) : Int)) := by show _ = _; rw [HJ.out]; exact HS.out (fun h => hv0 h.1)
            clear HJ HS HH H1 H2 hv0
            go_wp2_with fail
            go_roundw
            case rel => exact ⟨j + 1, by omega, by go_num, HJ2, P1.out⟩
            case measure => simp [intOf]; omega
        · have hjz' : ¬ (((b + 1 + j : Nat) : Int) ≤ (b : Int) + (z : Int) - 2) := by omega
          have HFE : Hid (fp = 0) := by
            show _ = _
            rw [HJ.out, show z - 2 - j = 0 by omega]
            rfl
          clear HJ
          go_wp2_with fail
          go_ret2
          exact ⟨false, by rw [HFE.out]; rfl, by simp; exact HFE.out, PX.out.below⟩

end Go.Proofs.Ytphmomlgmnllkaq
