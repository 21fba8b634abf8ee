/-
  The program's Grant.
-/
import Derived.Test.YtphmomlgmnllkaqJ39
namespace Go.Proofs.Ytphmomlgmnllkaq
open Go.RowKit

/-- What Grant leaves. -/
def GrEnd (pa pn : Int) (ls : List Ls) (fs : List Fx) (who now : Int) (w : World) (e : Ending) (w' : World) : Prop := ∃ (lu fu : Value) (rs : List Ls) (a : Int) (b : Bool), e = .returned (.tuple #[.agg #[.int .i64 pa, .int .i64 pn, lu, fu], .int .i64 a, .bool b]) ∧ GrTold pa pn ls fs who now rs a b ∧ PoolOut w lu fu rs fs w'

/-- A node that is told another time. -/
def setUntil (nd : Nat → Hd) (p : Nat) (t : Int) : Nat → Hd := fun x => if x = p then (((nd p).1.1, (nd p).1.2.1, t), (nd p).2) else nd x
theorem until_key (nd : Nat → Hd) (p : Nat) (t : Int) : keyN (setUntil nd p t) = keyN nd := by
  funext x
  unfold keyN setUntil
  by_cases h : x = p
  · rw [if_pos h, h]
  · rw [if_neg h]
theorem HeapP.until {w : World} {base b : Nat} {nd : Nat → Hd} {v : Value} {ps : List Nat} (h : HeapP w base b nd v ps) {p : Nat} (hp : p ∈ ps) (t : Int) : HeapP (w.setCell ⟨p, 2, none⟩ (.int .i64 t)) base b (setUntil nd p t) v ps ∧ Below base w (w.setCell ⟨p, 2, none⟩ (.int .i64 t)) := by
  have hc := Chg.cell w p 2 (.int .i64 t)
  have hn := h.hw.node p hp
  refine ⟨⟨⟨h.hw.var.chg hc (fun e => by rw [List.mem_singleton] at e; exact var_off h.hw.var hn (by decide) e), h.hw.row.chgR hc (fun g hg e => by rw [List.mem_singleton] at e; subst e; exact h.hw.row.off_var hn (by decide) hg), fun q hq => ?_, h.hw.dup, h.hw.own, h.hw.vb⟩, ?_, ?_⟩, hc.below (fun g hg => by rw [List.mem_singleton] at hg; subst hg; exact h.hw.own _ hp) (Nat.le_trans (h.hw.own _ hp) (Nat.le_of_lt hn.lt))⟩
  · by_cases hqp : q = p
    · subst hqp
      have := hn.set 2 (.int .i64 t)
      have e : holdA (setUntil nd q t q) = (holdA (nd q)).setIfInBounds 2 (.int .i64 t) := by
        unfold setUntil
        rw [if_pos rfl]
        rfl
      rw [e]
      exact this
    · have e : setUntil nd p t q = nd q := if_neg hqp
      rw [e]
      exact (h.hw.node q hq).chg hc (fun e => by rw [List.mem_singleton] at e; exact hqp e)
  · rw [until_key]
    exact h.heap
  · intro x hx y hy e
    rw [until_key] at e
    exact h.one x hx y hy e
theorem until_old {pa pn : Int} {ls : List Ls} {fs : List Fx} {nd : Nat → Hd} {ps : List Nat} {who t : Int} (hR : LeasesR pa pn ls fs) (h : LeasesIn nd ps ls) (hk : KeyOne nd ps) {p : Nat} (hp : p ∈ ps) (hw : (nd p).1.2.1 = who) : LeasesIn (setUntil nd p t) ps (ls.map (renewL who t)) := by
  intro x
  rw [List.mem_map]
  have e : ∀ q ∈ ps, (setUntil nd p t q).1 = renewL who t (nd q).1 := fun q hq => by
    unfold setUntil renewL
    by_cases hqp : q = p
    · subst hqp
      rw [if_pos rfl, if_pos hw]
    · rw [if_neg hqp, if_neg (fun e => hqp (h.who hR hk hq hp (e.trans hw.symm)))]
  constructor
  · rintro ⟨l, hl, rfl⟩
    obtain ⟨q, hq, rfl⟩ := (h l).1 hl
    exact ⟨q, hq, e q hq⟩
  · rintro ⟨q, hq, rfl⟩
    exact ⟨(nd q).1, (h _).2 ⟨q, hq, rfl⟩, (e q hq).symm⟩
theorem until_new {ls : List Ls} {nd nd' : Nat → Hd} {ps qs : List Nat} {a who t : Int} (h : LeasesIn nd ps ls) (hn : ∀ l ∈ ls, l.1 ≠ a) {p : Nat} (hpn : p ∉ ps) (hq : ∀ x, x ∈ qs ↔ x ∈ ps ∨ x = p) (ho : ∀ x ∈ ps, nd' x = nd x) (hp : (nd' p).1 = (a, who, 0)) : LeasesIn (setUntil nd' p t) qs (withL ls a who t) := by
  intro x
  rw [mem_with hn]
  have e1 : (setUntil nd' p t p).1 = (a, who, t) := by
    unfold setUntil
    rw [if_pos rfl]
    show ((nd' p).1.1, (nd' p).1.2.1, t) = _
    rw [hp]
  have e2 : ∀ q ∈ ps, (setUntil nd' p t q).1 = (nd q).1 := fun q hq => by
    unfold setUntil
    rw [if_neg (fun e => hpn (by rw [← e]; exact hq)), ho q hq]
  constructor
  · rintro (rfl | hx)
    · exact ⟨p, (hq p).2 (.inr rfl), e1⟩
    · obtain ⟨q, hq1, rfl⟩ := (h x).1 hx
      exact ⟨q, (hq q).2 (.inl hq1), e2 q hq1⟩
  · rintro ⟨q, hq1, rfl⟩
    rcases (hq q).1 hq1 with h1 | rfl
    · rw [e2 q h1]
      exact .inr ((h _).2 ⟨q, h1, rfl⟩)
    · exact .inl e1
theorem gr_old {pa pn : Int} {ls : List Ls} {fs : List Fx} {who now : Int} (hG : GrOk pa pn ls fs who now) {l : Ls} (hl : l ∈ ls) (hw : l.2.1 = who) : GrTold pa pn ls fs who now (ls.map (renewL who (now + 20))) l.1 true := by
  obtain ⟨k, hk⟩ := List.mem_iff_getElem?.1 hl
  refine .inr (.inl ⟨rfl, hG, k, l, hk, hw, fun j hj x hx e => ?_, ?_, rfl⟩)
  · exact at_of_pair _ _ hG.1.leases.2.2 k j x l hj hx hk (e.trans hw.symm)
  · rw [renew_eq hG.1.leases k l _ hk, hw]

set_option maxRecDepth 100000 in
set_option maxHeartbeats 6400000 in
theorem implGrant_any (pa pn : Int) (lv fv : Value) (ls : List Ls) (fs : List Fx) (who now : Int) (hl : ls.length ≤ 2000000) (hfl : fs.length ≤ 2000000) (w : World) (h : PoolR w lv fv ls fs) :
    Calls Try.prog 9 #[.agg #[.int .i64 pa, .int .i64 pn, lv, fv], .int .i64 who, .int .i64 now] w (GrEnd pa pn ls fs who now w) := by
  obtain ⟨la, lc, rfl⟩ := rows_form h.leases
  obtain ⟨fa, fc, rfl⟩ := rows_form h.fixes
  have e1 : (w.alloc (.cells #[.int .i64 pa, .int .i64 pn, .slice la ls.length lc, .slice fa fs.length fc] PoolT)).heap.size = w.heap.size + 1 := by simp
  have hB0 : Below w.heap.size w ((w.alloc (.cells #[.int .i64 pa, .int .i64 pn, .slice la ls.length lc, .slice fa fs.length fc] PoolT)).alloc (.cells #[.int .i64 0, .int .i64 0, .slice none 0 0, .slice none 0 0] PoolT)) := ((Below.refl w.heap.size w).alloc (Nat.le_refl _) _).alloc (by simp) _
  have hr0 := VarA.new (w.alloc (.cells #[.int .i64 pa, .int .i64 pn, .slice la ls.length lc, .slice fa fs.length fc] PoolT)) PoolT #[.int .i64 0, .int .i64 0, .slice none 0 0, .slice none 0 0]
  rw [e1] at hr0
  have R0 := Lib.hid hr0
  have P0 : Hid (PB w pa pn (.slice la ls.length lc) (.slice fa fs.length fc) ls fs ((w.alloc (.cells #[.int .i64 pa, .int .i64 pn, .slice la ls.length lc, .slice fa fs.length fc] PoolT)).alloc (.cells #[.int .i64 0, .int .i64 0, .slice none 0 0, .slice none 0 0] PoolT))) := ⟨(VarA.new w PoolT _).alloc _, h.next hB0, hB0⟩
  clear h hr0 e1 hB0
  go_enter Try.func9, Try.ntmps9
  go_upto_region 1 with fail
  generalize (w.alloc (.cells #[.int .i64 pa, .int .i64 pn, .slice la ls.length lc, .slice fa fs.length fc] PoolT)).alloc (.cells #[.int .i64 0, .int .i64 0, .slice none 0 0, .slice none 0 0] PoolT) = Y0 at *
  have k0 : Y0.cell? ⟨w.heap.size, 0, none⟩ = some (.int .i64 pa) := P0.out.box.cell 0
  have k1 : Y0.cell? ⟨w.heap.size, 1, none⟩ = some (.int .i64 pn) := P0.out.box.cell 1
  have k2 : Y0.cell? ⟨w.heap.size, 2, none⟩ = some (.slice la ls.length lc) := P0.out.box.cell 2
  have k3 : Y0.cell? ⟨w.heap.size, 3, none⟩ = some (.slice fa fs.length fc) := P0.out.box.cell 3
  go_wp2_with fail
  refine (implPoolOk_any pa pn _ _ ls fs hl hfl Y0 P0.out.rd).mono ?_
  rintro e Y1 ⟨ht, hb1⟩
  have P1 := Lib.hid (P0.out.next hb1)
  have R1 := Lib.hid (R0.out.next hb1)
  clear hb1 k0 k1 k2 k3 P0 R0
  have k0 : Y1.cell? ⟨w.heap.size, 0, none⟩ = some (.int .i64 pa) := P1.out.box.cell 0
  have k1 : Y1.cell? ⟨w.heap.size, 1, none⟩ = some (.int .i64 pn) := P1.out.box.cell 1
  have k2 : Y1.cell? ⟨w.heap.size, 2, none⟩ = some (.slice la ls.length lc) := P1.out.box.cell 2
  have k3 : Y1.cell? ⟨w.heap.size, 3, none⟩ = some (.slice fa fs.length fc) := P1.out.box.cell 3
  rcases ht with ⟨hP, rfl⟩ | ⟨hP, rfl⟩
  rotate_left
  · have HT : Hid (GrTold pa pn ls fs who now ls 0 false) := .no (.inl fun h => hP h.1)
    clear hP
    go_wp2_with fail
    refine (copyOfPool_any pa pn _ _ ls fs (by omega) (by omega) Y1 P1.out.rd).mono ?_
    rintro e Z2 ⟨lu, fu, rfl, hO⟩
    obtain ⟨ga, gc, rfl⟩ := rows_form hO.pool.leases
    obtain ⟨ka, kc, rfl⟩ := rows_form hO.pool.fixes
    have R2 := R1.out.next hO.below
    have m0 : Z2.cell? ⟨w.heap.size + 1, 0, none⟩ = some (.int .i64 0) := R2.cell 0
    have m1 : Z2.cell? ⟨w.heap.size + 1, 1, none⟩ = some (.int .i64 0) := R2.cell 1
    have m2 : Z2.cell? ⟨w.heap.size + 1, 2, none⟩ = some (.slice none 0 0) := R2.cell 2
    have m3 : Z2.cell? ⟨w.heap.size + 1, 3, none⟩ = some (.slice none 0 0) := R2.cell 3
    have n0 := R2.free 0
    have n1 := R2.free 1
    have n2 := R2.free 2
    have n3 := R2.free 3
    have hb : Below w.heap.size w Z2 := P1.out.below.trans (hO.below.mono P1.out.below.size)
    have RS := (((R2.set 0 (.int .i64 pa)).set 1 (.int .i64 pn)).set 2 (.slice ga ls.length gc)).set 3 (.slice ka fs.length kc)
    have j0 := RS.cell 0
    have j1 := RS.cell 1
    have j2 := RS.cell 2
    have j3 := RS.cell 3
    have HE : Hid (PoolOut w (.slice ga ls.length gc) (.slice ka fs.length kc) ls fs _) := out_four (pa := pa) (pn := pn) (Nat.le_succ _) R2 (hO.lo.imp fun f hf => layLeaseS.lower hf P1.out.below.size) (hO.fo.imp fun f hf => layFixedS.lower hf P1.out.below.size) hb
    clear RS R2 hO hb
    go_wp2_with fail
    exact bodyPost_ret (v := .tuple #[.agg #[.int .i64 pa, .int .i64 pn, .slice ga ls.length gc, .slice ka fs.length kc], .int .i64 0, .bool false]) (by simp [results, Try.results9, go_sem, j0, j1, j2, j3]) rfl ⟨_, _, ls, 0, false, rfl, HT.out, HE.out⟩
  by_cases hwho : 1 ≤ who ∧ who ≤ 99
  rotate_left
  · have HT : Hid (GrTold pa pn ls fs who now ls 0 false) := .no (.inl fun h => hwho h.2.1)
    have CW := Lib.hid (fun X => isWho_no who hwho X)
    clear hP hwho
    go_wp2_with (go_at_call 27; refine (CW.out _).mono ?_; rintro e w' ⟨rfl, hw⟩; rw [hw])
    refine (copyOfPool_any pa pn _ _ ls fs (by omega) (by omega) Y1 P1.out.rd).mono ?_
    rintro e Z2 ⟨lu, fu, rfl, hO⟩
    obtain ⟨ga, gc, rfl⟩ := rows_form hO.pool.leases
    obtain ⟨ka, kc, rfl⟩ := rows_form hO.pool.fixes
    have R2 := R1.out.next hO.below
    have m0 : Z2.cell? ⟨w.heap.size + 1, 0, none⟩ = some (.int .i64 0) := R2.cell 0
    have m1 : Z2.cell? ⟨w.heap.size + 1, 1, none⟩ = some (.int .i64 0) := R2.cell 1
    have m2 : Z2.cell? ⟨w.heap.size + 1, 2, none⟩ = some (.slice none 0 0) := R2.cell 2
    have m3 : Z2.cell? ⟨w.heap.size + 1, 3, none⟩ = some (.slice none 0 0) := R2.cell 3
    have n0 := R2.free 0
    have n1 := R2.free 1
    have n2 := R2.free 2
    have n3 := R2.free 3
    have hb : Below w.heap.size w Z2 := P1.out.below.trans (hO.below.mono P1.out.below.size)
    have RS := (((R2.set 0 (.int .i64 pa)).set 1 (.int .i64 pn)).set 2 (.slice ga ls.length gc)).set 3 (.slice ka fs.length kc)
    have j0 := RS.cell 0
    have j1 := RS.cell 1
    have j2 := RS.cell 2
    have j3 := RS.cell 3
    have HE : Hid (PoolOut w (.slice ga ls.length gc) (.slice ka fs.length kc) ls fs _) := out_four (pa := pa) (pn := pn) (Nat.le_succ _) R2 (hO.lo.imp fun f hf => layLeaseS.lower hf P1.out.below.size) (hO.fo.imp fun f hf => layFixedS.lower hf P1.out.below.size) hb
    clear RS R2 hO hb
    go_wp2_with fail
    exact bodyPost_ret (v := .tuple #[.agg #[.int .i64 pa, .int .i64 pn, .slice ga ls.length gc, .slice ka fs.length kc], .int .i64 0, .bool false]) (by simp [results, Try.results9, go_sem, j0, j1, j2, j3]) rfl ⟨_, _, ls, 0, false, rfl, HT.out, HE.out⟩
  have CW := Lib.hid (fun X => isWho_yes who hwho.1 hwho.2 X)
  by_cases hn0 : now < 0
  · have HT : Hid (GrTold pa pn ls fs who now ls 0 false) := .no (.inl fun h => by have := h.2.2.1; omega)
    clear hP hwho
    go_wp2_with (go_at_call 27; refine (CW.out _).mono ?_; rintro e w' ⟨rfl, hw⟩; rw [hw])
    refine (copyOfPool_any pa pn _ _ ls fs (by omega) (by omega) Y1 P1.out.rd).mono ?_
    rintro e Z2 ⟨lu, fu, rfl, hO⟩
    obtain ⟨ga, gc, rfl⟩ := rows_form hO.pool.leases
    obtain ⟨ka, kc, rfl⟩ := rows_form hO.pool.fixes
    have R2 := R1.out.next hO.below
    have m0 : Z2.cell? ⟨w.heap.size + 1, 0, none⟩ = some (.int .i64 0) := R2.cell 0
    have m1 : Z2.cell? ⟨w.heap.size + 1, 1, none⟩ = some (.int .i64 0) := R2.cell 1
    have m2 : Z2.cell? ⟨w.heap.size + 1, 2, none⟩ = some (.slice none 0 0) := R2.cell 2
    have m3 : Z2.cell? ⟨w.heap.size + 1, 3, none⟩ = some (.slice none 0 0) := R2.cell 3
    have n0 := R2.free 0
    have n1 := R2.free 1
    have n2 := R2.free 2
    have n3 := R2.free 3
    have hb : Below w.heap.size w Z2 := P1.out.below.trans (hO.below.mono P1.out.below.size)
    have RS := (((R2.set 0 (.int .i64 pa)).set 1 (.int .i64 pn)).set 2 (.slice ga ls.length gc)).set 3 (.slice ka fs.length kc)
    have j0 := RS.cell 0
    have j1 := RS.cell 1
    have j2 := RS.cell 2
    have j3 := RS.cell 3
    have HE : Hid (PoolOut w (.slice ga ls.length gc) (.slice ka fs.length kc) ls fs _) := out_four (pa := pa) (pn := pn) (Nat.le_succ _) R2 (hO.lo.imp fun f hf => layLeaseS.lower hf P1.out.below.size) (hO.fo.imp fun f hf => layFixedS.lower hf P1.out.below.size) hb
    clear RS R2 hO hb
    go_wp2_with fail
    exact bodyPost_ret (v := .tuple #[.agg #[.int .i64 pa, .int .i64 pn, .slice ga ls.length gc, .slice ka fs.length kc], .int .i64 0, .bool false]) (by simp [results, Try.results9, go_sem, j0, j1, j2, j3]) rfl ⟨_, _, ls, 0, false, rfl, HT.out, HE.out⟩
  have hd0 : decide (now < 0) = false := decide_eq_false hn0
  by_cases hn1 : 999999980 < now
  · have HT : Hid (GrTold pa pn ls fs who now ls 0 false) := .no (.inl fun h => by have := h.2.2.2; omega)
    clear hP hwho
    go_wp2_with (go_at_call 27; refine (CW.out _).mono ?_; rintro e w' ⟨rfl, hw⟩; rw [hw])
    refine (copyOfPool_any pa pn _ _ ls fs (by omega) (by omega) Y1 P1.out.rd).mono ?_
    rintro e Z2 ⟨lu, fu, rfl, hO⟩
    obtain ⟨ga, gc, rfl⟩ := rows_form hO.pool.leases
    obtain ⟨ka, kc, rfl⟩ := rows_form hO.pool.fixes
    have R2 := R1.out.next hO.below
    have m0 : Z2.cell? ⟨w.heap.size + 1, 0, none⟩ = some (.int .i64 0) := R2.cell 0
    have m1 : Z2.cell? ⟨w.heap.size + 1, 1, none⟩ = some (.int .i64 0) := R2.cell 1
    have m2 : Z2.cell? ⟨w.heap.size + 1, 2, none⟩ = some (.slice none 0 0) := R2.cell 2
    have m3 : Z2.cell? ⟨w.heap.size + 1, 3, none⟩ = some (.slice none 0 0) := R2.cell 3
    have n0 := R2.free 0
    have n1 := R2.free 1
    have n2 := R2.free 2
    have n3 := R2.free 3
    have hb : Below w.heap.size w Z2 := P1.out.below.trans (hO.below.mono P1.out.below.size)
    have RS := (((R2.set 0 (.int .i64 pa)).set 1 (.int .i64 pn)).set 2 (.slice ga ls.length gc)).set 3 (.slice ka fs.length kc)
    have j0 := RS.cell 0
    have j1 := RS.cell 1
    have j2 := RS.cell 2
    have j3 := RS.cell 3
    have HE : Hid (PoolOut w (.slice ga ls.length gc) (.slice ka fs.length kc) ls fs _) := out_four (pa := pa) (pn := pn) (Nat.le_succ _) R2 (hO.lo.imp fun f hf => layLeaseS.lower hf P1.out.below.size) (hO.fo.imp fun f hf => layFixedS.lower hf P1.out.below.size) hb
    clear RS R2 hO hb
    go_wp2_with fail
    exact bodyPost_ret (v := .tuple #[.agg #[.int .i64 pa, .int .i64 pn, .slice ga ls.length gc, .slice ka fs.length kc], .int .i64 0, .bool false]) (by simp [results, Try.results9, go_sem, j0, j1, j2, j3]) rfl ⟨_, _, ls, 0, false, rfl, HT.out, HE.out⟩
  have hd1 : decide (999999980 < now) = false := decide_eq_false hn1
  have HGO : Hid (GrOk pa pn ls fs who now) := ⟨hP, hwho, by omega, by omega⟩
  have hl6 : ls.length ≤ 6 := hP.1.2.2.2.1
  have HAS : Hid (AscL ls) := hP.leases.2.1
  clear hP hwho
  go_wp2_with (go_at_call 27; refine (CW.out _).mono ?_; rintro e w' ⟨rfl, hw⟩; rw [hw])
  clear hd0 hd1 CW
  refine (heapOf_any _ ls Y1 P1.out.rd.leases (by omega) HAS.out).mono ?_
  rintro e Y2 ⟨b0, nd, v, ps, rfl, hH, hLI, hpl, hb2⟩
  obtain ⟨ao, cap, rfl, -⟩ := hH.hw.form
  have hbn : Below Y2.heap.size Y2 (Y2.alloc (.cells #[.slice ao ps.length cap] HpT)) := (Below.refl _ _).alloc (Nat.le_refl _) _
  have H3 : Hid (HeapP (Y2.alloc (.cells #[.slice ao ps.length cap] HpT)) Y1.heap.size Y2.heap.size nd (.slice ao ps.length cap) ps) := (hH.next hbn).rebind (VarA.new Y2 HpT _) hb2.size
  have B3 : Hid (Below Y1.heap.size Y1 (Y2.alloc (.cells #[.slice ao ps.length cap] HpT))) := hb2.trans (hbn.mono hb2.size)
  have HLI := Lib.hid hLI
  have hpl6 : ps.length ≤ 6 := by omega
  have hg2 : Y1.heap.size ≤ Y2.heap.size := hb2.size
  clear hH hLI hpl hb2 hbn k0 k1 k2 k3
  go_upto_region 4 with fail
  generalize Y2.alloc (.cells #[.slice ao ps.length cap] HpT) = Y3 at *
  generalize Y2.heap.size = gb at *
  clear Y2
  have c0 : Y3.cell? ⟨gb, 0, none⟩ = some (.slice ao ps.length cap) := H3.out.hw.var.cell 0
  go_wp2_with fail
  refine (of_any H3.out.hw who (by omega)).mono ?_
  rintro e Y9 ⟨hO, hY9⟩
  rw [hY9]
  clear hY9 Y9
  rcases hO with ⟨p, hpm, hpw, rfl⟩ | ⟨hno, rfl⟩
  · obtain ⟨av, HAV⟩ : ∃ av, Hid ((nd p).1.1 = av) := ⟨_, rfl⟩
    obtain ⟨nx, hnx⟩ : ∃ nx, nx = nd := ⟨_, rfl⟩
    rw [← hnx] at H3 HAV HLI hpw
    clear hnx nd
    have HX := H3
    have BX := B3
    obtain ⟨T, HTT⟩ : ∃ T, Hid (T = ls.map (renewL who (now + 20))) := ⟨_, rfl⟩
    have HGT : Hid (GrTold pa pn ls fs who now T av true) := by
      have h9 := gr_old HGO.out ((HLI.out _).2 ⟨p, hpm, rfl⟩) hpw
      rw [HAV.out, ← HTT.out] at h9
      exact h9
    have HT6 : Hid (LeasesIn (setUntil nx p (now + 20)) ps T) := by
      have h9 := until_old (t := now + 20) HGO.out.1.leases HLI.out H3.out.one hpm hpw
      rw [← HTT.out] at h9
      exact h9
    have HA6 : Hid (AscL T) := (HGT.out.right HGO.out.1).leases.2.1
    clear H3 B3 HLI c0 HTT hpw
    have hst := HX.out.until hpm (now + 20)
    have HNO := Lib.hid (HX.out.hw.node p hpm)
    have u2 : Y3.cell? ⟨p, 2, none⟩ = some (.int .i64 (nx p).1.2.2) := HNO.out.cell 2
    have f2 := HNO.out.free 2
    have H6 := Lib.hid hst.1
    have B6 := Lib.hid (BX.out.trans hst.2)
    have HNP : Hid (VarA p HnT #[.int .i64 av, .int .i64 (nx p).1.2.1, .int .i64 (now + 20), .int .i64 (nx p).2] (Y3.setCell ⟨p, 2, none⟩ (.int .i64 (now + 20)))) := by
      have h9 := HNO.out.set 2 (.int .i64 (now + 20))
      unfold holdA at h9
      rw [HAV.out] at h9
      exact h9
    have hnw : (now : Int) ≤ 999999980 := HGO.out.2.2.2
    have hnw0 : 0 ≤ now := HGO.out.2.2.1
    clear hst HNO
    go_upto_region 11 with fail
    generalize Y3.setCell ⟨p, 2, none⟩ (.int .i64 (now + 20)) = Y6 at *
    have P6 := Lib.hid (P1.out.next B6.out)
    clear u2 f2 HX BX
    have s0 : Y6.cell? ⟨w.heap.size, 0, none⟩ = some (.int .i64 pa) := P6.out.box.cell 0
    have s1 : Y6.cell? ⟨w.heap.size, 1, none⟩ = some (.int .i64 pn) := P6.out.box.cell 1
    have s2 : Y6.cell? ⟨w.heap.size, 2, none⟩ = some (.slice la ls.length lc) := P6.out.box.cell 2
    have s3 : Y6.cell? ⟨w.heap.size, 3, none⟩ = some (.slice fa fs.length fc) := P6.out.box.cell 3
    have s4 : Y6.cell? ⟨p, 0, none⟩ = some (.int .i64 av) := HNP.out.cell 0
    have hs4 : Y1.heap.size ≤ Y6.drew.heap.size := B6.out.size
    have HTO := Lib.hid (heapTold_any (H6.out.next ((Below.refl _ Y6).drew)) T HT6.out HA6.out (by omega) hs4)
    have hwY : w.heap.size ≤ Y6.heap.size := P6.out.below.size
    have HPB6 : Hid (p ≠ gb) := fun e => var_off HNP.out H6.out.hw.var (by decide) e
    go_wp2_with fail
    have hwn : w.heap.size ≠ w.heap.size + 1 := by omega
    have hS0 : Y6.drew.cell? ⟨w.heap.size, 0, none⟩ = some (.int .i64 pa) ∧ Y6.drew.cell? ⟨w.heap.size, 1, none⟩ = some (.int .i64 pn) ∧ Y6.drew.cell? ⟨w.heap.size, 2, none⟩ = some (.slice la ls.length lc) ∧ Y6.drew.cell? ⟨w.heap.size, 3, none⟩ = some (.slice fa fs.length fc) ∧ Y6.drew.cell? ⟨p, 0, none⟩ = some (.int .i64 av) := ⟨s0, s1, s2, s3, s4⟩
    go_region_held3 (fun X => X.cell? ⟨w.heap.size, 0, none⟩ = some (.int .i64 pa) ∧ X.cell? ⟨w.heap.size, 1, none⟩ = some (.int .i64 pn) ∧ X.cell? ⟨w.heap.size, 2, none⟩ = some (.slice la ls.length lc) ∧ X.cell? ⟨w.heap.size, 3, none⟩ = some (.slice fa fs.length fc) ∧ X.cell? ⟨p, 0, none⟩ = some (.int .i64 av)) (with_reducible assumption) (first | (go_at_call 34; refine HTO.out.mono ?_; rintro e W1 ⟨lu, f, rfl, hlo, hc5⟩; obtain ⟨ua, uc, rfl⟩ := rows_form (layLeaseS.read hlo); have B5 : Below Y1.heap.size Y1 W1 := B6.out.trans (((Below.refl Y1.heap.size Y6).drew).trans (hc5.below hg2 hs4)); have P5 := Lib.hid (P1.out.next B5); have R5 := Lib.hid (R1.out.next B5); have N5 := Lib.hid (HNP.out.drew.hchg hc5 HPB6.out (by decide)); have hS5 : W1.cell? ⟨w.heap.size, 0, none⟩ = some (.int .i64 pa) ∧ W1.cell? ⟨w.heap.size, 1, none⟩ = some (.int .i64 pn) ∧ W1.cell? ⟨w.heap.size, 2, none⟩ = some (.slice la ls.length lc) ∧ W1.cell? ⟨w.heap.size, 3, none⟩ = some (.slice fa fs.length fc) ∧ W1.cell? ⟨p, 0, none⟩ = some (.int .i64 av) := ⟨P5.out.box.cell 0, P5.out.box.cell 1, P5.out.box.cell 2, P5.out.box.cell 3, N5.out.cell 0⟩; have HLO5 := Lib.hid hlo; clear hlo B5 hc5) | (go_at_call 33; refine (poolWith_any pa pn la ls.length lc _ fs ua T.length uc (by omega) _ P5.out.rd.fixes).mono ?_; rintro e W2 ⟨k, kc, rfl, hfo, hb6⟩; have R6 := R5.out.next hb6; have N6 := N5.out.next hb6; have X6 := P5.out.box.next hb6; have m0 : W2.cell? ⟨w.heap.size + 1, 0, none⟩ = some (.int .i64 0) := R6.cell 0; have m1 : W2.cell? ⟨w.heap.size + 1, 1, none⟩ = some (.int .i64 0) := R6.cell 1; have m2 : W2.cell? ⟨w.heap.size + 1, 2, none⟩ = some (.slice none 0 0) := R6.cell 2; have m3 : W2.cell? ⟨w.heap.size + 1, 3, none⟩ = some (.slice none 0 0) := R6.cell 3; have n0 := R6.free 0; have n1 := R6.free 1; have n2 := R6.free 2; have n3 := R6.free 3; have hlo6 := Lib.hid (layLeaseS.next HLO5.out hb6); have hS6 : W2.cell? ⟨w.heap.size, 0, none⟩ = some (.int .i64 pa) ∧ W2.cell? ⟨w.heap.size, 1, none⟩ = some (.int .i64 pn) ∧ W2.cell? ⟨w.heap.size, 2, none⟩ = some (.slice la ls.length lc) ∧ W2.cell? ⟨w.heap.size, 3, none⟩ = some (.slice fa fs.length fc) ∧ W2.cell? ⟨p, 0, none⟩ = some (.int .i64 av) := ⟨X6.cell 0, X6.cell 1, X6.cell 2, X6.cell 3, N6.cell 0⟩; have hN7 := var_off N6 R6 (by decide); have X7 := (((X6.off 0 (.int .i64 pa) hwn).off 1 (.int .i64 pn) hwn).off 2 (.slice ua T.length uc) hwn).off 3 (.slice (some ⟨k, 0, none⟩) fs.length kc) hwn; have N7 := (((N6.off 0 (.int .i64 pa) hN7).off 1 (.int .i64 pn) hN7).off 2 (.slice ua T.length uc) hN7).off 3 (.slice (some ⟨k, 0, none⟩) fs.length kc) hN7; have hS7 : ((((W2.setCell ⟨w.heap.size + 1, 0, none⟩ (.int .i64 pa)).setCell ⟨w.heap.size + 1, 1, none⟩ (.int .i64 pn)).setCell ⟨w.heap.size + 1, 2, none⟩ (.slice ua T.length uc)).setCell ⟨w.heap.size + 1, 3, none⟩ (.slice (some ⟨k, 0, none⟩) fs.length kc)).cell? ⟨w.heap.size, 0, none⟩ = some (.int .i64 pa) ∧ ((((W2.setCell ⟨w.heap.size + 1, 0, none⟩ (.int .i64 pa)).setCell ⟨w.heap.size + 1, 1, none⟩ (.int .i64 pn)).setCell ⟨w.heap.size + 1, 2, none⟩ (.slice ua T.length uc)).setCell ⟨w.heap.size + 1, 3, none⟩ (.slice (some ⟨k, 0, none⟩) fs.length kc)).cell? ⟨w.heap.size, 1, none⟩ = some (.int .i64 pn) ∧ ((((W2.setCell ⟨w.heap.size + 1, 0, none⟩ (.int .i64 pa)).setCell ⟨w.heap.size + 1, 1, none⟩ (.int .i64 pn)).setCell ⟨w.heap.size + 1, 2, none⟩ (.slice ua T.length uc)).setCell ⟨w.heap.size + 1, 3, none⟩ (.slice (some ⟨k, 0, none⟩) fs.length kc)).cell? ⟨w.heap.size, 2, none⟩ = some (.slice la ls.length lc) ∧ ((((W2.setCell ⟨w.heap.size + 1, 0, none⟩ (.int .i64 pa)).setCell ⟨w.heap.size + 1, 1, none⟩ (.int .i64 pn)).setCell ⟨w.heap.size + 1, 2, none⟩ (.slice ua T.length uc)).setCell ⟨w.heap.size + 1, 3, none⟩ (.slice (some ⟨k, 0, none⟩) fs.length kc)).cell? ⟨w.heap.size, 3, none⟩ = some (.slice fa fs.length fc) ∧ ((((W2.setCell ⟨w.heap.size + 1, 0, none⟩ (.int .i64 pa)).setCell ⟨w.heap.size + 1, 1, none⟩ (.int .i64 pn)).setCell ⟨w.heap.size + 1, 2, none⟩ (.slice ua T.length uc)).setCell ⟨w.heap.size + 1, 3, none⟩ (.slice (some ⟨k, 0, none⟩) fs.length kc)).cell? ⟨p, 0, none⟩ = some (.int .i64 av) := ⟨X7.cell 0, X7.cell 1, X7.cell 2, X7.cell 3, N7.cell 0⟩))

    all_goals
      have RS := (((R6.set 0 (.int .i64 pa)).set 1 (.int .i64 pn)).set 2 (.slice ua T.length uc)).set 3 (.slice (some ⟨k, 0, none⟩) fs.length kc)
      have j0 := RS.cell 0
      have j1 := RS.cell 1
      have j2 := RS.cell 2
      have j3 := RS.cell 3
      have hb7 : Below w.heap.size w W2 := P5.out.below.trans (hb6.mono P5.out.below.size)
      have HE := Lib.hid (out_four (w := w) (pa := pa) (pn := pn) (Nat.le_succ _) R6 ⟨_, layLeaseS.lower hlo6.out hwY⟩ ⟨_, layFixedS.lower hfo P5.out.below.size⟩ hb7)
      clear RS R5 R6 P5 N5 N6 HLO5 hlo6 hfo hb6 hb7 X6 X7 N7 hS5 hS6 hS7
      go_wp2_with fail
      exact bodyPost_ret (v := .tuple #[.agg #[.int .i64 pa, .int .i64 pn, .slice ua T.length uc, .slice (some ⟨k, 0, none⟩) fs.length kc], .int .i64 av, .bool true]) (by simp [results, Try.results9, go_sem, j0, j1, j2, j3]) rfl ⟨_, _, T, av, true, rfl, HGT.out, HE.out⟩
  · have HNO : Hid (NoOne ls who) := fun j x hx e => by
      obtain ⟨q, hq, e2⟩ := (HLI.out x).1 (List.mem_of_getElem? hx)
      exact hno q hq (by rw [e2]; exact e)
    clear hno
    have P3 := Lib.hid (P1.out.next B3.out)
    have R3 := Lib.hid (R1.out.next B3.out)
    have k0 : Y3.cell? ⟨w.heap.size, 0, none⟩ = some (.int .i64 pa) := P3.out.box.cell 0
    have k1 : Y3.cell? ⟨w.heap.size, 1, none⟩ = some (.int .i64 pn) := P3.out.box.cell 1
    have k2 : Y3.cell? ⟨w.heap.size, 2, none⟩ = some (.slice la ls.length lc) := P3.out.box.cell 2
    have k3 : Y3.cell? ⟨w.heap.size, 3, none⟩ = some (.slice fa fs.length fc) := P3.out.box.cell 3
    have HFR := Lib.hid (addrFor_any pa pn _ _ ls fs who hl hfl HGO.out.1 Y3 P3.out.rd)
    obtain ⟨av, HAV0⟩ : ∃ av, Hid (freeP pa pn ls fs who = av) := ⟨_, rfl⟩
    rw [HAV0.out] at HFR
    go_wp2_with fail
    refine HFR.out.mono ?_
    rintro e Y4 ⟨bf, rfl, hbf, hb4⟩
    have P4 := Lib.hid (P3.out.next hb4)
    have R4 := Lib.hid (R3.out.next hb4)
    have H4 := Lib.hid (H3.out.next hb4)
    have B4 := Lib.hid (B3.out.trans (hb4.mono B3.out.size))
    clear hb4 P3 R3 H3 B3 HFR k0 k1 k2 k3 c0
    have k0 : Y4.cell? ⟨w.heap.size, 0, none⟩ = some (.int .i64 pa) := P4.out.box.cell 0
    have k1 : Y4.cell? ⟨w.heap.size, 1, none⟩ = some (.int .i64 pn) := P4.out.box.cell 1
    have k2 : Y4.cell? ⟨w.heap.size, 2, none⟩ = some (.slice la ls.length lc) := P4.out.box.cell 2
    have k3 : Y4.cell? ⟨w.heap.size, 3, none⟩ = some (.slice fa fs.length fc) := P4.out.box.cell 3
    cases bf
    · have HT : Hid (GrTold pa pn ls fs who now ls 0 false) := .no (.inr ⟨HNO.out, .inr (by rw [HAV0.out]; exact Classical.byContradiction fun h => by cases hbf.2 h)⟩)
      clear hbf
      go_wp2_with fail
      refine (copyOfPool_any pa pn _ _ ls fs (by omega) (by omega) Y4 P4.out.rd).mono ?_
      rintro e Z2 ⟨lu, fu, rfl, hO⟩
      obtain ⟨ga, gc, rfl⟩ := rows_form hO.pool.leases
      obtain ⟨ka, kc, rfl⟩ := rows_form hO.pool.fixes
      have R2 := R4.out.next hO.below
      have m0 : Z2.cell? ⟨w.heap.size + 1, 0, none⟩ = some (.int .i64 0) := R2.cell 0
      have m1 : Z2.cell? ⟨w.heap.size + 1, 1, none⟩ = some (.int .i64 0) := R2.cell 1
      have m2 : Z2.cell? ⟨w.heap.size + 1, 2, none⟩ = some (.slice none 0 0) := R2.cell 2
      have m3 : Z2.cell? ⟨w.heap.size + 1, 3, none⟩ = some (.slice none 0 0) := R2.cell 3
      have n0 := R2.free 0
      have n1 := R2.free 1
      have n2 := R2.free 2
      have n3 := R2.free 3
      have hb : Below w.heap.size w Z2 := P4.out.below.trans (hO.below.mono P4.out.below.size)
      have RS := (((R2.set 0 (.int .i64 pa)).set 1 (.int .i64 pn)).set 2 (.slice ga ls.length gc)).set 3 (.slice ka fs.length kc)
      have j0 := RS.cell 0
      have j1 := RS.cell 1
      have j2 := RS.cell 2
      have j3 := RS.cell 3
      have HE : Hid (PoolOut w (.slice ga ls.length gc) (.slice ka fs.length kc) ls fs _) := out_four (pa := pa) (pn := pn) (Nat.le_succ _) R2 (hO.lo.imp fun f hf => layLeaseS.lower hf P4.out.below.size) (hO.fo.imp fun f hf => layFixedS.lower hf P4.out.below.size) hb
      clear RS R2 hO hb
      go_wp2_with fail
      exact bodyPost_ret (v := .tuple #[.agg #[.int .i64 pa, .int .i64 pn, .slice ga ls.length gc, .slice ka fs.length kc], .int .i64 0, .bool false]) (by simp [results, Try.results9, go_sem, j0, j1, j2, j3]) rfl ⟨_, _, ls, 0, false, rfl, HT.out, HE.out⟩
    have HAZ : Hid (av ≠ 0) := hbf.1 rfl
    clear hbf
    by_cases hfull : ls.length = 6
    · have HT : Hid (GrTold pa pn ls fs who now ls 0 false) := .no (.inr ⟨HNO.out, .inl hfull⟩)
      have hbq : ((ls.length : Int) == 6) = true := by rw [beq_iff_eq]; omega
      have HFU := Lib.hid hfull
      clear hfull
      go_wp2_with fail
      refine (copyOfPool_any pa pn _ _ ls fs (by omega) (by omega) Y4 P4.out.rd).mono ?_
      rintro e Z2 ⟨lu, fu, rfl, hO⟩
      obtain ⟨ga, gc, rfl⟩ := rows_form hO.pool.leases
      obtain ⟨ka, kc, rfl⟩ := rows_form hO.pool.fixes
      have R2 := R4.out.next hO.below
      have m0 : Z2.cell? ⟨w.heap.size + 1, 0, none⟩ = some (.int .i64 0) := R2.cell 0
      have m1 : Z2.cell? ⟨w.heap.size + 1, 1, none⟩ = some (.int .i64 0) := R2.cell 1
      have m2 : Z2.cell? ⟨w.heap.size + 1, 2, none⟩ = some (.slice none 0 0) := R2.cell 2
      have m3 : Z2.cell? ⟨w.heap.size + 1, 3, none⟩ = some (.slice none 0 0) := R2.cell 3
      have n0 := R2.free 0
      have n1 := R2.free 1
      have n2 := R2.free 2
      have n3 := R2.free 3
      have hb : Below w.heap.size w Z2 := P4.out.below.trans (hO.below.mono P4.out.below.size)
      have RS := (((R2.set 0 (.int .i64 pa)).set 1 (.int .i64 pn)).set 2 (.slice ga ls.length gc)).set 3 (.slice ka fs.length kc)
      have j0 := RS.cell 0
      have j1 := RS.cell 1
      have j2 := RS.cell 2
      have j3 := RS.cell 3
      have HE : Hid (PoolOut w (.slice ga ls.length gc) (.slice ka fs.length kc) ls fs _) := out_four (pa := pa) (pn := pn) (Nat.le_succ _) R2 (hO.lo.imp fun f hf => layLeaseS.lower hf P4.out.below.size) (hO.fo.imp fun f hf => layFixedS.lower hf P4.out.below.size) hb
      clear RS R2 hO hb
      go_wp2_with fail
      exact bodyPost_ret (v := .tuple #[.agg #[.int .i64 pa, .int .i64 pn, .slice ga ls.length gc, .slice ka fs.length kc], .int .i64 0, .bool false]) (by simp [results, Try.results9, go_sem, j0, j1, j2, j3]) rfl ⟨_, _, ls, 0, false, rfl, HT.out, HE.out⟩
    have hbq : ((ls.length : Int) == 6) = false := by rw [beq_eq_false_iff_ne]; omega
    have HFR := Lib.hid (free_right HGO.out.1 HNO.out (by rw [HAV0.out]; exact HAZ.out))
    have HNA : Hid (∀ l ∈ ls, l.1 ≠ av) := by
      have h9 := HFR.out.2.2
      rw [HAV0.out] at h9
      exact h9
    have HGT0 : Hid (GrTold pa pn ls fs who now (withL ls av who (now + 20)) av true) := .inr (.inr ⟨rfl, HGO.out, HNO.out, hfull, by rw [HAV0.out]; exact HAZ.out, HAV0.out.symm, rfl⟩)
    have HPU := Lib.hid (put_any H4.out av who 0 (fun q hq e => HNA.out _ ((HLI.out _).2 ⟨q, hq, rfl⟩) e) (by omega) B4.out.size)
    clear hfull HFR
    go_wp2_with fail
    refine HPU.out.mono ?_
    rintro e Y5 ⟨p, nx, v5, qs, rfl, h1, h2, h3, h4, h5, h6, h7⟩
    have hpm : p ∈ qs := (h3 p).2 (.inr rfl)
    have HX := Lib.hid h1
    have BX := Lib.hid (B4.out.trans (h7.below hg2 B4.out.size))
    have HAV : Hid ((nx p).1.1 = av) := by show _ = _; rw [h4]
    obtain ⟨T, HTT⟩ : ∃ T, Hid (T = withL ls av who (now + 20)) := ⟨_, rfl⟩
    have HGT : Hid (GrTold pa pn ls fs who now T av true) := by
      have h9 := HGT0.out
      rw [← HTT.out] at h9
      exact h9
    have HT6 : Hid (LeasesIn (setUntil nx p (now + 20)) qs T) := by
      have h9 := until_new (t := now + 20) HLI.out HNA.out h6 h3 h5 h4
      rw [← HTT.out] at h9
      exact h9
    have HA6 : Hid (AscL T) := (HGT.out.right HGO.out.1).leases.2.1
    have hql : qs.length ≤ 7 := by omega
    clear h1 h2 h3 h4 h5 h6 h7 HPU H4 B4 P4 R4 HGT0 HTT HLI HNA k0 k1 k2 k3 hbq
    have hst := HX.out.until hpm (now + 20)
    have HNO := Lib.hid (HX.out.hw.node p hpm)
    have u2 : Y5.cell? ⟨p, 2, none⟩ = some (.int .i64 (nx p).1.2.2) := HNO.out.cell 2
    have f2 := HNO.out.free 2
    have H6 := Lib.hid hst.1
    have B6 := Lib.hid (BX.out.trans hst.2)
    have HNP : Hid (VarA p HnT #[.int .i64 av, .int .i64 (nx p).1.2.1, .int .i64 (now + 20), .int .i64 (nx p).2] (Y5.setCell ⟨p, 2, none⟩ (.int .i64 (now + 20)))) := by
      have h9 := HNO.out.set 2 (.int .i64 (now + 20))
      unfold holdA at h9
      rw [HAV.out] at h9
      exact h9
    have hnw : (now : Int) ≤ 999999980 := HGO.out.2.2.2
    have hnw0 : 0 ≤ now := HGO.out.2.2.1
    clear hst HNO
    go_upto_region 11 with fail
    generalize Y5.setCell ⟨p, 2, none⟩ (.int .i64 (now + 20)) = Y6 at *
    have P6 := Lib.hid (P1.out.next B6.out)
    clear u2 f2 HX BX
    have s0 : Y6.cell? ⟨w.heap.size, 0, none⟩ = some (.int .i64 pa) := P6.out.box.cell 0
    have s1 : Y6.cell? ⟨w.heap.size, 1, none⟩ = some (.int .i64 pn) := P6.out.box.cell 1
    have s2 : Y6.cell? ⟨w.heap.size, 2, none⟩ = some (.slice la ls.length lc) := P6.out.box.cell 2
    have s3 : Y6.cell? ⟨w.heap.size, 3, none⟩ = some (.slice fa fs.length fc) := P6.out.box.cell 3
    have s4 : Y6.cell? ⟨p, 0, none⟩ = some (.int .i64 av) := HNP.out.cell 0
    have hs4 : Y1.heap.size ≤ Y6.drew.heap.size := B6.out.size
    have HTO := Lib.hid (heapTold_any (H6.out.next ((Below.refl _ Y6).drew)) T HT6.out HA6.out (by omega) hs4)
    have hwY : w.heap.size ≤ Y6.heap.size := P6.out.below.size
    have HPB6 : Hid (p ≠ gb) := fun e => var_off HNP.out H6.out.hw.var (by decide) e
    go_wp2_with fail
    have hwn : w.heap.size ≠ w.heap.size + 1 := by omega
    have hS0 : Y6.drew.cell? ⟨w.heap.size, 0, none⟩ = some (.int .i64 pa) ∧ Y6.drew.cell? ⟨w.heap.size, 1, none⟩ = some (.int .i64 pn) ∧ Y6.drew.cell? ⟨w.heap.size, 2, none⟩ = some (.slice la ls.length lc) ∧ Y6.drew.cell? ⟨w.heap.size, 3, none⟩ = some (.slice fa fs.length fc) ∧ Y6.drew.cell? ⟨p, 0, none⟩ = some (.int .i64 av) := ⟨s0, s1, s2, s3, s4⟩
    go_region_held3 (fun X => X.cell? ⟨w.heap.size, 0, none⟩ = some (.int .i64 pa) ∧ X.cell? ⟨w.heap.size, 1, none⟩ = some (.int .i64 pn) ∧ X.cell? ⟨w.heap.size, 2, none⟩ = some (.slice la ls.length lc) ∧ X.cell? ⟨w.heap.size, 3, none⟩ = some (.slice fa fs.length fc) ∧ X.cell? ⟨p, 0, none⟩ = some (.int .i64 av)) (with_reducible assumption) (first | (go_at_call 34; refine HTO.out.mono ?_; rintro e W1 ⟨lu, f, rfl, hlo, hc5⟩; obtain ⟨ua, uc, rfl⟩ := rows_form (layLeaseS.read hlo); have B5 : Below Y1.heap.size Y1 W1 := B6.out.trans (((Below.refl Y1.heap.size Y6).drew).trans (hc5.below hg2 hs4)); have P5 := Lib.hid (P1.out.next B5); have R5 := Lib.hid (R1.out.next B5); have N5 := Lib.hid (HNP.out.drew.hchg hc5 HPB6.out (by decide)); have hS5 : W1.cell? ⟨w.heap.size, 0, none⟩ = some (.int .i64 pa) ∧ W1.cell? ⟨w.heap.size, 1, none⟩ = some (.int .i64 pn) ∧ W1.cell? ⟨w.heap.size, 2, none⟩ = some (.slice la ls.length lc) ∧ W1.cell? ⟨w.heap.size, 3, none⟩ = some (.slice fa fs.length fc) ∧ W1.cell? ⟨p, 0, none⟩ = some (.int .i64 av) := ⟨P5.out.box.cell 0, P5.out.box.cell 1, P5.out.box.cell 2, P5.out.box.cell 3, N5.out.cell 0⟩; have HLO5 := Lib.hid hlo; clear hlo B5 hc5) | (go_at_call 33; refine (poolWith_any pa pn la ls.length lc _ fs ua T.length uc (by omega) _ P5.out.rd.fixes).mono ?_; rintro e W2 ⟨k, kc, rfl, hfo, hb6⟩; have R6 := R5.out.next hb6; have N6 := N5.out.next hb6; have X6 := P5.out.box.next hb6; have m0 : W2.cell? ⟨w.heap.size + 1, 0, none⟩ = some (.int .i64 0) := R6.cell 0; have m1 : W2.cell? ⟨w.heap.size + 1, 1, none⟩ = some (.int .i64 0) := R6.cell 1; have m2 : W2.cell? ⟨w.heap.size + 1, 2, none⟩ = some (.slice none 0 0) := R6.cell 2; have m3 : W2.cell? ⟨w.heap.size + 1, 3, none⟩ = some (.slice none 0 0) := R6.cell 3; have n0 := R6.free 0; have n1 := R6.free 1; have n2 := R6.free 2; have n3 := R6.free 3; have hlo6 := Lib.hid (layLeaseS.next HLO5.out hb6); have hS6 : W2.cell? ⟨w.heap.size, 0, none⟩ = some (.int .i64 pa) ∧ W2.cell? ⟨w.heap.size, 1, none⟩ = some (.int .i64 pn) ∧ W2.cell? ⟨w.heap.size, 2, none⟩ = some (.slice la ls.length lc) ∧ W2.cell? ⟨w.heap.size, 3, none⟩ = some (.slice fa fs.length fc) ∧ W2.cell? ⟨p, 0, none⟩ = some (.int .i64 av) := ⟨X6.cell 0, X6.cell 1, X6.cell 2, X6.cell 3, N6.cell 0⟩; have hN7 := var_off N6 R6 (by decide); have X7 := (((X6.off 0 (.int .i64 pa) hwn).off 1 (.int .i64 pn) hwn).off 2 (.slice ua T.length uc) hwn).off 3 (.slice (some ⟨k, 0, none⟩) fs.length kc) hwn; have N7 := (((N6.off 0 (.int .i64 pa) hN7).off 1 (.int .i64 pn) hN7).off 2 (.slice ua T.length uc) hN7).off 3 (.slice (some ⟨k, 0, none⟩) fs.length kc) hN7; have hS7 : ((((W2.setCell ⟨w.heap.size + 1, 0, none⟩ (.int .i64 pa)).setCell ⟨w.heap.size + 1, 1, none⟩ (.int .i64 pn)).setCell ⟨w.heap.size + 1, 2, none⟩ (.slice ua T.length uc)).setCell ⟨w.heap.size + 1, 3, none⟩ (.slice (some ⟨k, 0, none⟩) fs.length kc)).cell? ⟨w.heap.size, 0, none⟩ = some (.int .i64 pa) ∧ ((((W2.setCell ⟨w.heap.size + 1, 0, none⟩ (.int .i64 pa)).setCell ⟨w.heap.size + 1, 1, none⟩ (.int .i64 pn)).setCell ⟨w.heap.size + 1, 2, none⟩ (.slice ua T.length uc)).setCell ⟨w.heap.size + 1, 3, none⟩ (.slice (some ⟨k, 0, none⟩) fs.length kc)).cell? ⟨w.heap.size, 1, none⟩ = some (.int .i64 pn) ∧ ((((W2.setCell ⟨w.heap.size + 1, 0, none⟩ (.int .i64 pa)).setCell ⟨w.heap.size + 1, 1, none⟩ (.int .i64 pn)).setCell ⟨w.heap.size + 1, 2, none⟩ (.slice ua T.length uc)).setCell ⟨w.heap.size + 1, 3, none⟩ (.slice (some ⟨k, 0, none⟩) fs.length kc)).cell? ⟨w.heap.size, 2, none⟩ = some (.slice la ls.length lc) ∧ ((((W2.setCell ⟨w.heap.size + 1, 0, none⟩ (.int .i64 pa)).setCell ⟨w.heap.size + 1, 1, none⟩ (.int .i64 pn)).setCell ⟨w.heap.size + 1, 2, none⟩ (.slice ua T.length uc)).setCell ⟨w.heap.size + 1, 3, none⟩ (.slice (some ⟨k, 0, none⟩) fs.length kc)).cell? ⟨w.heap.size, 3, none⟩ = some (.slice fa fs.length fc) ∧ ((((W2.setCell ⟨w.heap.size + 1, 0, none⟩ (.int .i64 pa)).setCell ⟨w.heap.size + 1, 1, none⟩ (.int .i64 pn)).setCell ⟨w.heap.size + 1, 2, none⟩ (.slice ua T.length uc)).setCell ⟨w.heap.size + 1, 3, none⟩ (.slice (some ⟨k, 0, none⟩) fs.length kc)).cell? ⟨p, 0, none⟩ = some (.int .i64 av) := ⟨X7.cell 0, X7.cell 1, X7.cell 2, X7.cell 3, N7.cell 0⟩))

    all_goals
      have RS := (((R6.set 0 (.int .i64 pa)).set 1 (.int .i64 pn)).set 2 (.slice ua T.length uc)).set 3 (.slice (some ⟨k, 0, none⟩) fs.length kc)
      have j0 := RS.cell 0
      have j1 := RS.cell 1
      have j2 := RS.cell 2
      have j3 := RS.cell 3
      have hb7 : Below w.heap.size w W2 := P5.out.below.trans (hb6.mono P5.out.below.size)
      have HE := Lib.hid (out_four (w := w) (pa := pa) (pn := pn) (Nat.le_succ _) R6 ⟨_, layLeaseS.lower hlo6.out hwY⟩ ⟨_, layFixedS.lower hfo P5.out.below.size⟩ hb7)
      clear RS R5 R6 P5 N5 N6 HLO5 hlo6 hfo hb6 hb7 X6 X7 N7 hS5 hS6 hS7
      go_wp2_with fail
      exact bodyPost_ret (v := .tuple #[.agg #[.int .i64 pa, .int .i64 pn, .slice ua T.length uc, .slice (some ⟨k, 0, none⟩) fs.length kc], .int .i64 av, .bool true]) (by simp [results, Try.results9, go_sem, j0, j1, j2, j3]) rfl ⟨_, _, T, av, true, rfl, HGT.out, HE.out⟩

end Go.Proofs.Ytphmomlgmnllkaq
