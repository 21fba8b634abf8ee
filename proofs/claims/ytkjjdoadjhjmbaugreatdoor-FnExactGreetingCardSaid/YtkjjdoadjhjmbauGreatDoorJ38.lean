/-
  What an event of a greeting does, by the given code.
-/
import Derived.Test.YtkjjdoadjhjmbauGreatDoorJ35
import Derived.Test.YtkjjdoadjhjmbauGreatDoorJ37
import Derived.Deep.RegionLaw
namespace Go.Proofs.YtkjjdoadjhjmbauGreatDoor
open Go.RowKit

section
variable {lo T gl gs ga : Nat} {va vb : Value} {a0 a1 a2 a3 a4 b0 b1 b2 b3 b4 : Int} {a5 a6 b5 b6 : ByteArray} {sa sb : List ByteArray} {ia ib : Nat}
set_option maxRecDepth 100000 in
set_option maxHeartbeats 1600000 in
theorem specDo0_none (stay : Bool) (X : World) (hi : sa.length ≤ ia) (_ : ia ≤ 100000000) (h : GM lo T gl gs ga va vb (a0, a1, a2, a3, a4, a5, a6) (b0, b1, b2, b3, b4, b5, b6) sa sb ia ib X) :
    Calls Tryz.prog 35 #[.pointer (some ⟨T, 0, none⟩), .int .i64 0, .bool stay] X fun r X' => r = .returned (.tuple #[]) ∧ GM lo T gl gs ga va vb (a0, a1, a2, a3, a4, a5, a6) (b0, b1, b2, b3, b4, b5, b6) sa sb ia ib X' ∧ Below lo X X' := by
  obtain ⟨ao, ac, rfl⟩ := rows_form (layStringS.read h.rowA)
  have H := Lib.hid h
  have t0 : X.cell? ⟨T, 0, none⟩ = some (.slice (some ⟨gl, 0, none⟩) 2 2) := h.var.cell 0
  have t1 : X.cell? ⟨T, 1, none⟩ = some (.slice (some ⟨gs, 0, none⟩) 2 2) := h.var.cell 1
  have t2 : X.cell? ⟨T, 2, none⟩ = some (.slice (some ⟨ga, 0, none⟩) 2 2) := h.var.cell 2
  have g0 : X.cell? ⟨ga, 0, none⟩ = some (.int .i64 (ia : Nat)) := h.at_.cell 0
  have s0 : X.cell? ⟨gs, 0, none⟩ = some (.slice ao sa.length ac) := h.said.cell 0
  have hi' : ((sa.length : Nat) : Int) ≤ (ia : Nat) := by omega
  clear h
  go_enter Tryz.func35, Tryz.ntmps35
  go_wp2_with fail
  go_quiet (fail)
  go_wp2_with fail
  exact bodyPost_ret (v := .tuple #[]) (results_none rfl _ _ _) rfl ⟨rfl, H.out.next (below_drewN (Below.refl _ _) _), below_drewN (Below.refl _ _) _⟩
set_option maxRecDepth 100000 in
set_option maxHeartbeats 3200000 in
theorem specDo0_some {c0 c1 c2 c3 c4 : Int} {c5 c6 s t : ByteArray} (stay : Bool) (j : Nat) (hj : j = if stay then ia else ia + 1) (X : World) (hs : sa[ia]? = some s) (hh : HearD (b0, b1, b2, b3, b4, b5, b6) s (c0, c1, c2, c3, c4, c5, c6) t) (hm : ia ≤ 100000000) (hx0 : -9223372036854775808 ≤ b0 ∧ b0 ≤ 9223372036854775807) (h5 : b5.size ≤ 100000000) (h6 : b6.size ≤ 100000000) (hss : s.size ≤ 100000000) (hol : sb.length ≤ 100000000) (hlo : lo ≤ X.heap.size) (h : GM lo T gl gs ga va vb (a0, a1, a2, a3, a4, a5, a6) (b0, b1, b2, b3, b4, b5, b6) sa sb ia ib X) :
    Calls Tryz.prog 35 #[.pointer (some ⟨T, 0, none⟩), .int .i64 0, .bool stay] X fun r X' => r = .returned (.tuple #[]) ∧ (∃ vb', GM lo T gl gs ga va vb' (a0, a1, a2, a3, a4, a5, a6) (c0, c1, c2, c3, c4, c5, c6) sa (saidT sb t) j ib X') ∧ Below lo X X' := by
  obtain ⟨ao, ac, rfl⟩ := rows_form (layStringS.read h.rowA)
  obtain ⟨bo, bc, rfl⟩ := rows_form (layStringS.read h.rowB)
  obtain ⟨i1, hi1, hz1, hsz1, hby1⟩ := info_of infoString
  have hil : ia < sa.length := (List.getElem?_eq_some_iff.1 hs).1
  have H := Lib.hid h
  have t0 : X.cell? ⟨T, 0, none⟩ = some (.slice (some ⟨gl, 0, none⟩) 2 2) := h.var.cell 0
  have t1 : X.cell? ⟨T, 1, none⟩ = some (.slice (some ⟨gs, 0, none⟩) 2 2) := h.var.cell 1
  have t2 : X.cell? ⟨T, 2, none⟩ = some (.slice (some ⟨ga, 0, none⟩) 2 2) := h.var.cell 2
  have g0 : X.cell? ⟨ga, 0, none⟩ = some (.int .i64 (ia : Nat)) := h.at_.cell 0
  have s0 : X.cell? ⟨gs, 0, none⟩ = some (.slice ao sa.length ac) := h.said.cell 0
  have hi' : ¬ (((sa.length : Nat) : Int) ≤ (ia : Nat)) := by omega
  have hi2 : (((ia : Nat) : Int)) < ((sa.length : Nat) : Int) := by omega
  obtain ⟨g, og, cs, rfl, hg, hr, hc⟩ := rows_elem (layStringS.read h.rowA) ia s hs
  rw [layString_rd] at hr
  subst hr
  have e0 : X.cell? ⟨g, og + ia, none⟩ = some (.string s) := (by have h9 := hc 0 _ rfl; rw [str_k] at h9; exact h9)
  obtain ⟨y4, y6, hh, hce⟩ := hh
  simp only [Prod.mk.injEq] at hce
  obtain ⟨rfl, rfl, rfl, rfl, rfl, rfl, rfl⟩ := hce
  have HH := Lib.hid hh
  have HJ := Lib.hid hj
  clear h hc hs hh hj
  go_enter Tryz.func35, Tryz.ntmps35
  go_wp2_with fail
  go_quiet (fail)
  have HBA : Below X.heap.size X (X.drewN nq) := below_drewN (Below.refl _ _) _
  generalize X.drewN nq = XA at *
  replace H := Lib.hid (H.out.next HBA)
  have e1 : XA.cell? ⟨g, og + ia, none⟩ = some (.string s) := by rw [HBA.cell (p := ⟨g, og + ia, none⟩) hg]; exact e0
  have BA := Lib.hid (HBA.mono hlo)
  clear HBA e0 t0 t1 t2 g0 s0
  have t0 : XA.cell? ⟨T, 0, none⟩ = some (.slice (some ⟨gl, 0, none⟩) 2 2) := H.out.var.cell 0
  have t1 : XA.cell? ⟨T, 1, none⟩ = some (.slice (some ⟨gs, 0, none⟩) 2 2) := H.out.var.cell 1
  have t2 : XA.cell? ⟨T, 2, none⟩ = some (.slice (some ⟨ga, 0, none⟩) 2 2) := H.out.var.cell 2
  have g0 : XA.cell? ⟨ga, 0, none⟩ = some (.int .i64 (ia : Nat)) := H.out.at_.cell 0
  have s0 : XA.cell? ⟨gs, 0, none⟩ = some (.slice (some ⟨g, og, none⟩) sa.length ac) := H.out.said.cell 0
  go_wp2_with fail
  go_quiet (fail)
  have HBA : Below XA.heap.size XA (XA.drewN nq) := below_drewN (Below.refl _ _) _
  generalize XA.drewN nq = XB at *
  replace H := Lib.hid (H.out.next HBA)
  replace BA := Lib.hid (BA.out.trans (HBA.mono (Nat.le_trans hlo BA.out.size)))
  clear HBA e1 t0 t1 t2 g0 s0
  cases stay
  case' true =>
    obtain rfl : j = ia := HJ.out
    go_upto_region 4 with fail
    have H2 := H
    have B2 := BA
    generalize XB = X2 at H2 B2
    clear H BA
  case' false =>
    obtain rfl : j = ia + 1 := HJ.out
    have t2 : XB.cell? ⟨T, 2, none⟩ = some (.slice (some ⟨ga, 0, none⟩) 2 2) := H.out.var.cell 2
    have g0 : XB.cell? ⟨ga, 0, none⟩ = some (.int .i64 (ia : Nat)) := H.out.at_.cell 0
    have q0 := H.out.at_.free 0
    have H2 := Lib.hid (H.out.took0 (ia + 1))
    rw [show (((ia + 1 : Nat) : Nat) : Int) = (ia : Nat) + 1 by omega] at H2
    have B2 := Lib.hid (BA.out.trans (only_below (Only.setCell (c := ga) (w := XB) 0 (.int .i64 (((ia : Nat) : Int) + 1))) H.out.low.2.2.2 (Nat.le_trans hlo BA.out.size)))
    go_upto_region 4 with fail
    generalize XB.setCell ⟨ga, 0, none⟩ (.int .i64 (((ia : Nat) : Int) + 1)) = X2 at *
    clear H BA t2 g0 q0
  all_goals
    have t0 : X2.cell? ⟨T, 0, none⟩ = some (.slice (some ⟨gl, 0, none⟩) 2 2) := H2.out.var.cell 0
    have y0 : X2.cell? ⟨gl, 7, none⟩ = some (.int .i64 c0) := H2.out.list.cell 7
    have y1 : X2.cell? ⟨gl, 8, none⟩ = some (.int .i64 c1) := H2.out.list.cell 8
    have y2 : X2.cell? ⟨gl, 9, none⟩ = some (.int .i64 c2) := H2.out.list.cell 9
    have y3 : X2.cell? ⟨gl, 10, none⟩ = some (.int .i64 c3) := H2.out.list.cell 10
    have y4 : X2.cell? ⟨gl, 11, none⟩ = some (.int .i64 b4) := H2.out.list.cell 11
    have y5 : X2.cell? ⟨gl, 12, none⟩ = some (.string c5) := H2.out.list.cell 12
    have y6 : X2.cell? ⟨gl, 13, none⟩ = some (.string b6) := H2.out.list.cell 13
    have KH := Lib.hid (specHear_any c0 c1 c2 c3 b4 c5 b6 s hx0 h5 h6 hss c4 c6 t HH.out X2)
    go_wp2_with fail
    refine KH.out.mono ?_
    rintro e X3 ⟨rfl, hb⟩
    have H3 := Lib.hid (H2.out.next hb)
    have B3 := Lib.hid (B2.out.trans (hb.mono (Nat.le_trans hlo B2.out.size)))
    clear H2 B2 hb KH t0 y0 y1 y2 y3 y4 y5 y6
    have hal : Below X3.heap.size X3 (X3.alloc (.cells #[.int .i64 c0, .int .i64 c1, .int .i64 c2, .int .i64 c3, .int .i64 c4, .string c5, .string c6] GreeterT)) := (Below.refl _ _).alloc (Nat.le_refl _) _
    have VG := Lib.hid (VarA.new X3 GreeterT #[.int .i64 c0, .int .i64 c1, .int .i64 c2, .int .i64 c3, .int .i64 c4, .string c5, .string c6])
    have H4 := Lib.hid (H3.out.next hal)
    have B4 := Lib.hid (B3.out.trans (hal.mono (Nat.le_trans hlo B3.out.size)))
    clear hal H3 B3
    go_upto_region 5 with fail
    generalize X3.alloc (.cells #[.int .i64 c0, .int .i64 c1, .int .i64 c2, .int .i64 c3, .int .i64 c4, .string c5, .string c6] GreeterT) = X4 at *
    generalize X3.heap.size = gn at *
    have t0 : X4.cell? ⟨T, 0, none⟩ = some (.slice (some ⟨gl, 0, none⟩) 2 2) := H4.out.var.cell 0
    have y0 : X4.cell? ⟨gl, 7, none⟩ = some (.int .i64 c0) := H4.out.list.cell 7
    have f0 := H4.out.list.free 7
    have y1 : X4.cell? ⟨gl, 8, none⟩ = some (.int .i64 c1) := H4.out.list.cell 8
    have f1 := H4.out.list.free 8
    have y2 : X4.cell? ⟨gl, 9, none⟩ = some (.int .i64 c2) := H4.out.list.cell 9
    have f2 := H4.out.list.free 9
    have y3 : X4.cell? ⟨gl, 10, none⟩ = some (.int .i64 c3) := H4.out.list.cell 10
    have f3 := H4.out.list.free 10
    have y4 : X4.cell? ⟨gl, 11, none⟩ = some (.int .i64 b4) := H4.out.list.cell 11
    have f4 := H4.out.list.free 11
    have y5 : X4.cell? ⟨gl, 12, none⟩ = some (.string c5) := H4.out.list.cell 12
    have f5 := H4.out.list.free 12
    have y6 : X4.cell? ⟨gl, 13, none⟩ = some (.string b6) := H4.out.list.cell 13
    have f6 := H4.out.list.free 13
    have e0 : X4.cell? ⟨gn, 0, none⟩ = some (.int .i64 c0) := VG.out.cell 0
    have e1 : X4.cell? ⟨gn, 1, none⟩ = some (.int .i64 c1) := VG.out.cell 1
    have e2 : X4.cell? ⟨gn, 2, none⟩ = some (.int .i64 c2) := VG.out.cell 2
    have e3 : X4.cell? ⟨gn, 3, none⟩ = some (.int .i64 c3) := VG.out.cell 3
    have e4 : X4.cell? ⟨gn, 4, none⟩ = some (.int .i64 c4) := VG.out.cell 4
    have e5 : X4.cell? ⟨gn, 5, none⟩ = some (.string c5) := VG.out.cell 5
    have e6 : X4.cell? ⟨gn, 6, none⟩ = some (.string c6) := VG.out.cell 6
    have hlx : lo ≤ X4.heap.size := Nat.le_trans hlo B4.out.size
    have hX5 : Only gl X4 (((((((X4.setCell ⟨gl, 7, none⟩ (.int .i64 c0)).setCell ⟨gl, 8, none⟩ (.int .i64 c1)).setCell ⟨gl, 9, none⟩ (.int .i64 c2)).setCell ⟨gl, 10, none⟩ (.int .i64 c3)).setCell ⟨gl, 11, none⟩ (.int .i64 c4)).setCell ⟨gl, 12, none⟩ (.string c5)).setCell ⟨gl, 13, none⟩ (.string c6)) := (((((((Only.setCell 7 (.int .i64 c0) : Only gl X4 _).trans (Only.setCell 8 (.int .i64 c1))).trans (Only.setCell 9 (.int .i64 c2))).trans (Only.setCell 10 (.int .i64 c3))).trans (Only.setCell 11 (.int .i64 c4))).trans (Only.setCell 12 (.string c5))).trans (Only.setCell 13 (.string c6)))
    have H5 := Lib.hid ((H4.out.heardB (c0 := c0) (c1 := c1) (c2 := c2) (c3 := c3) (c4 := c4) (c5 := c5) (c6 := c6)).next ((Below.refl _ _).drew))
    have B5 := Lib.hid ((B4.out.trans (only_below hX5 H4.out.low.2.1 hlx)).drew)
    clear hX5
    go_region
    all_goals
      go_upto_region 6 with fail
      generalize (((((((X4.setCell ⟨gl, 7, none⟩ (.int .i64 c0)).setCell ⟨gl, 8, none⟩ (.int .i64 c1)).setCell ⟨gl, 9, none⟩ (.int .i64 c2)).setCell ⟨gl, 10, none⟩ (.int .i64 c3)).setCell ⟨gl, 11, none⟩ (.int .i64 c4)).setCell ⟨gl, 12, none⟩ (.string c5)).setCell ⟨gl, 13, none⟩ (.string c6)).drew = X5 at *
      clear t0 H4 B4 VG hlx y0 f0 e0 y1 f1 e1 y2 f2 e2 y3 f3 e3 y4 f4 e4 y5 f5 e5 y6 f6 e6
      by_cases ht : t = ⟨#[]⟩
      · subst ht
        go_wp2_with fail
        refine bodyPost_end (results_none rfl _ _ _) rfl ⟨rfl, ⟨(.slice bo sb.length bc), ?_⟩, B5.out⟩
        rw [saidT_none]
        exact H5.out
      · have kt : (t.toList == []) = false := by
          rw [beq_eq_false_iff_ne, ByteArray.toList_eq]
          exact fun e => ht (ByteArray.ext (Array.toList_inj.1 (e.trans rfl)))
        have hsd : saidT sb t = sb ++ [t] := by unfold saidT; rw [if_neg ht]
        have HSD := Lib.hid hsd
        clear ht hsd
        go_upto_region 7 with fail
        have t1 : X5.cell? ⟨T, 1, none⟩ = some (.slice (some ⟨gs, 0, none⟩) 2 2) := H5.out.var.cell 1
        have s1 : X5.cell? ⟨gs, 1, none⟩ = some (.slice bo sb.length bc) := H5.out.said.cell 1
        have AD : Below X5.heap.size X5 (X5.alloc (.cells #[.string t] StringT)).drew := ((Below.refl _ _).alloc (Nat.le_refl _) _).drew
        have H6 := Lib.hid (H5.out.next AD)
        have B6 := Lib.hid (B5.out.trans (AD.mono (Nat.le_trans hlo B5.out.size)))
        have r1 : (X5.alloc (.cells #[.string t] StringT)).cell? ⟨T, 1, none⟩ = some (.slice (some ⟨gs, 0, none⟩) 2 2) := H6.out.var.cell 1
        have r2 : (X5.alloc (.cells #[.string t] StringT)).cell? ⟨gs, 1, none⟩ = some (.slice bo sb.length bc) := H6.out.said.cell 1
        have hws : lo ≤ (X5.alloc (.cells #[.string t] StringT)).drew.heap.size := Nat.le_trans hlo B6.out.size
        have hw9 : IntKind.i64.wrap 1 = 1 := by rw [IntKind.wrap_i64]; omega
        clear AD H5 B5
        go_region_law (refine step_pushT rfl (.tmp 88) (.tmp 90) 31 rfl lo StringT i1 (.string ⟨#[]⟩) 16 layString flatString Tryz.underlying31 hi1 hz1 hsz1 hby1 rfl (by omega) (.slice bo sb.length bc) (blk (.slice bo sb.length bc)) sb (by first | rfl | simp [Act.eval, Act.put]) H6.out.rowB t [.string t] rfl ⟨X5.heap.size, 0, none⟩ (by first | rfl | simp [Act.eval, Act.put]) (fun j u hj => lit_cells_one X5 #[.string t] StringT j u hj) (by omega) hws ?_; intro v1 w2 hown1 hnn1 htl1 hgr1 hbe1; obtain ⟨a9, k9, rfl, hblk, -, -⟩ := flat_some flatString hown1 hnn1; obtain ⟨l9, HL9⟩ : ∃ l : Nat, Hid (l = (sb ++ [t]).length) := ⟨_, Lib.hid rfl⟩; rw [← HL9.out] at hown1 htl1 hblk; rw [← HL9.out]; have hchg : Chg (blk (.slice bo sb.length bc)) (X5.alloc (.cells #[.string t] StringT)).drew w2 := Chg.grown hgr1 _ (fun k hk => by simp [blk, hk]); obtain ⟨hvr, htv, hgm⟩ := H6.out.saidB hown1 htl1 hchg; have g1 : w2.cell? ⟨gs, 1, none⟩ = some (.slice bo sb.length bc) := hvr.cell 1; have u1 := hvr.free 1; have g2 : w2.cell? ⟨T, 1, none⟩ = some (.slice (some ⟨gs, 0, none⟩) 2 2) := htv.cell 1)
        all_goals
          have HG := Lib.hid hgm
          have BG := Lib.hid ((B6.out.trans hbe1).trans (only_below (Only.setCell (c := gs) (w := w2) 1 (.slice (some ⟨a9, 0, none⟩) l9 k9)) H6.out.low.2.2.1 (Nat.le_trans hlo (B6.out.trans hbe1).size)))
          clear hgm hown1 hnn1 htl1 hgr1 hbe1 hblk hchg r1 r2 s1 t1
          go_wp2_with fail
          refine bodyPost_end (results_none rfl _ _ _) rfl ⟨rfl, ⟨.slice (some ⟨a9, 0, none⟩) l9 k9, ?_⟩, ?_⟩
          · rw [HSD.out]
            exact HG.out
          · exact BG.out

set_option maxRecDepth 100000 in
set_option maxHeartbeats 1600000 in
theorem specDo1_none (stay : Bool) (X : World) (hi : sb.length ≤ ib) (_ : ib ≤ 100000000) (h : GM lo T gl gs ga va vb (a0, a1, a2, a3, a4, a5, a6) (b0, b1, b2, b3, b4, b5, b6) sa sb ia ib X) :
    Calls Tryz.prog 35 #[.pointer (some ⟨T, 0, none⟩), .int .i64 1, .bool stay] X fun r X' => r = .returned (.tuple #[]) ∧ GM lo T gl gs ga va vb (a0, a1, a2, a3, a4, a5, a6) (b0, b1, b2, b3, b4, b5, b6) sa sb ia ib X' ∧ Below lo X X' := by
  obtain ⟨bo, bc, rfl⟩ := rows_form (layStringS.read h.rowB)
  have H := Lib.hid h
  have t0 : X.cell? ⟨T, 0, none⟩ = some (.slice (some ⟨gl, 0, none⟩) 2 2) := h.var.cell 0
  have t1 : X.cell? ⟨T, 1, none⟩ = some (.slice (some ⟨gs, 0, none⟩) 2 2) := h.var.cell 1
  have t2 : X.cell? ⟨T, 2, none⟩ = some (.slice (some ⟨ga, 0, none⟩) 2 2) := h.var.cell 2
  have g0 : X.cell? ⟨ga, 1, none⟩ = some (.int .i64 (ib : Nat)) := h.at_.cell 1
  have s0 : X.cell? ⟨gs, 1, none⟩ = some (.slice bo sb.length bc) := h.said.cell 1
  have hi' : ((sb.length : Nat) : Int) ≤ (ib : Nat) := by omega
  clear h
  go_enter Tryz.func35, Tryz.ntmps35
  go_wp2_with fail
  go_quiet (fail)
  go_wp2_with fail
  exact bodyPost_ret (v := .tuple #[]) (results_none rfl _ _ _) rfl ⟨rfl, H.out.next (below_drewN (Below.refl _ _) _), below_drewN (Below.refl _ _) _⟩
set_option maxRecDepth 100000 in
set_option maxHeartbeats 3200000 in
theorem specDo1_some {c0 c1 c2 c3 c4 : Int} {c5 c6 s t : ByteArray} (stay : Bool) (j : Nat) (hj : j = if stay then ib else ib + 1) (X : World) (hs : sb[ib]? = some s) (hh : HearD (a0, a1, a2, a3, a4, a5, a6) s (c0, c1, c2, c3, c4, c5, c6) t) (hm : ib ≤ 100000000) (hx0 : -9223372036854775808 ≤ a0 ∧ a0 ≤ 9223372036854775807) (h5 : a5.size ≤ 100000000) (h6 : a6.size ≤ 100000000) (hss : s.size ≤ 100000000) (hol : sa.length ≤ 100000000) (hlo : lo ≤ X.heap.size) (h : GM lo T gl gs ga va vb (a0, a1, a2, a3, a4, a5, a6) (b0, b1, b2, b3, b4, b5, b6) sa sb ia ib X) :
    Calls Tryz.prog 35 #[.pointer (some ⟨T, 0, none⟩), .int .i64 1, .bool stay] X fun r X' => r = .returned (.tuple #[]) ∧ (∃ va', GM lo T gl gs ga va' vb (c0, c1, c2, c3, c4, c5, c6) (b0, b1, b2, b3, b4, b5, b6) (saidT sa t) sb ia j X') ∧ Below lo X X' := by
  obtain ⟨bo, bc, rfl⟩ := rows_form (layStringS.read h.rowB)
  obtain ⟨ao, ac, rfl⟩ := rows_form (layStringS.read h.rowA)
  obtain ⟨i1, hi1, hz1, hsz1, hby1⟩ := info_of infoString
  have hil : ib < sb.length := (List.getElem?_eq_some_iff.1 hs).1
  have H := Lib.hid h
  have t0 : X.cell? ⟨T, 0, none⟩ = some (.slice (some ⟨gl, 0, none⟩) 2 2) := h.var.cell 0
  have t1 : X.cell? ⟨T, 1, none⟩ = some (.slice (some ⟨gs, 0, none⟩) 2 2) := h.var.cell 1
  have t2 : X.cell? ⟨T, 2, none⟩ = some (.slice (some ⟨ga, 0, none⟩) 2 2) := h.var.cell 2
  have g0 : X.cell? ⟨ga, 1, none⟩ = some (.int .i64 (ib : Nat)) := h.at_.cell 1
  have s0 : X.cell? ⟨gs, 1, none⟩ = some (.slice bo sb.length bc) := h.said.cell 1
  have hi' : ¬ (((sb.length : Nat) : Int) ≤ (ib : Nat)) := by omega
  have hi2 : (((ib : Nat) : Int)) < ((sb.length : Nat) : Int) := by omega
  obtain ⟨g, og, cs, rfl, hg, hr, hc⟩ := rows_elem (layStringS.read h.rowB) ib s hs
  rw [layString_rd] at hr
  subst hr
  have e0 : X.cell? ⟨g, og + ib, none⟩ = some (.string s) := (by have h9 := hc 0 _ rfl; rw [str_k] at h9; exact h9)
  obtain ⟨y4, y6, hh, hce⟩ := hh
  simp only [Prod.mk.injEq] at hce
  obtain ⟨rfl, rfl, rfl, rfl, rfl, rfl, rfl⟩ := hce
  have HH := Lib.hid hh
  have HJ := Lib.hid hj
  clear h hc hs hh hj
  go_enter Tryz.func35, Tryz.ntmps35
  go_wp2_with fail
  go_quiet (fail)
  have HBA : Below X.heap.size X (X.drewN nq) := below_drewN (Below.refl _ _) _
  generalize X.drewN nq = XA at *
  replace H := Lib.hid (H.out.next HBA)
  have e1 : XA.cell? ⟨g, og + ib, none⟩ = some (.string s) := by rw [HBA.cell (p := ⟨g, og + ib, none⟩) hg]; exact e0
  have BA := Lib.hid (HBA.mono hlo)
  clear HBA e0 t0 t1 t2 g0 s0
  have t0 : XA.cell? ⟨T, 0, none⟩ = some (.slice (some ⟨gl, 0, none⟩) 2 2) := H.out.var.cell 0
  have t1 : XA.cell? ⟨T, 1, none⟩ = some (.slice (some ⟨gs, 0, none⟩) 2 2) := H.out.var.cell 1
  have t2 : XA.cell? ⟨T, 2, none⟩ = some (.slice (some ⟨ga, 0, none⟩) 2 2) := H.out.var.cell 2
  have g0 : XA.cell? ⟨ga, 1, none⟩ = some (.int .i64 (ib : Nat)) := H.out.at_.cell 1
  have s0 : XA.cell? ⟨gs, 1, none⟩ = some (.slice (some ⟨g, og, none⟩) sb.length bc) := H.out.said.cell 1
  go_wp2_with fail
  go_quiet (fail)
  have HBA : Below XA.heap.size XA (XA.drewN nq) := below_drewN (Below.refl _ _) _
  generalize XA.drewN nq = XB at *
  replace H := Lib.hid (H.out.next HBA)
  replace BA := Lib.hid (BA.out.trans (HBA.mono (Nat.le_trans hlo BA.out.size)))
  clear HBA e1 t0 t1 t2 g0 s0
  cases stay
  case' true =>
    obtain rfl : j = ib := HJ.out
    go_upto_region 4 with fail
    have H2 := H
    have B2 := BA
    generalize XB = X2 at H2 B2
    clear H BA
  case' false =>
    obtain rfl : j = ib + 1 := HJ.out
    have t2 : XB.cell? ⟨T, 2, none⟩ = some (.slice (some ⟨ga, 0, none⟩) 2 2) := H.out.var.cell 2
    have g0 : XB.cell? ⟨ga, 1, none⟩ = some (.int .i64 (ib : Nat)) := H.out.at_.cell 1
    have q0 := H.out.at_.free 1
    have H2 := Lib.hid (H.out.took1 (ib + 1))
    rw [show (((ib + 1 : Nat) : Nat) : Int) = (ib : Nat) + 1 by omega] at H2
    have B2 := Lib.hid (BA.out.trans (only_below (Only.setCell (c := ga) (w := XB) 1 (.int .i64 (((ib : Nat) : Int) + 1))) H.out.low.2.2.2 (Nat.le_trans hlo BA.out.size)))
    go_upto_region 4 with fail
    generalize XB.setCell ⟨ga, 1, none⟩ (.int .i64 (((ib : Nat) : Int) + 1)) = X2 at *
    clear H BA t2 g0 q0
  all_goals
    have t0 : X2.cell? ⟨T, 0, none⟩ = some (.slice (some ⟨gl, 0, none⟩) 2 2) := H2.out.var.cell 0
    have y0 : X2.cell? ⟨gl, 0, none⟩ = some (.int .i64 c0) := H2.out.list.cell 0
    have y1 : X2.cell? ⟨gl, 1, none⟩ = some (.int .i64 c1) := H2.out.list.cell 1
    have y2 : X2.cell? ⟨gl, 2, none⟩ = some (.int .i64 c2) := H2.out.list.cell 2
    have y3 : X2.cell? ⟨gl, 3, none⟩ = some (.int .i64 c3) := H2.out.list.cell 3
    have y4 : X2.cell? ⟨gl, 4, none⟩ = some (.int .i64 a4) := H2.out.list.cell 4
    have y5 : X2.cell? ⟨gl, 5, none⟩ = some (.string c5) := H2.out.list.cell 5
    have y6 : X2.cell? ⟨gl, 6, none⟩ = some (.string a6) := H2.out.list.cell 6
    have KH := Lib.hid (specHear_any c0 c1 c2 c3 a4 c5 a6 s hx0 h5 h6 hss c4 c6 t HH.out X2)
    go_wp2_with fail
    refine KH.out.mono ?_
    rintro e X3 ⟨rfl, hb⟩
    have H3 := Lib.hid (H2.out.next hb)
    have B3 := Lib.hid (B2.out.trans (hb.mono (Nat.le_trans hlo B2.out.size)))
    clear H2 B2 hb KH t0 y0 y1 y2 y3 y4 y5 y6
    have hal : Below X3.heap.size X3 (X3.alloc (.cells #[.int .i64 c0, .int .i64 c1, .int .i64 c2, .int .i64 c3, .int .i64 c4, .string c5, .string c6] GreeterT)) := (Below.refl _ _).alloc (Nat.le_refl _) _
    have VG := Lib.hid (VarA.new X3 GreeterT #[.int .i64 c0, .int .i64 c1, .int .i64 c2, .int .i64 c3, .int .i64 c4, .string c5, .string c6])
    have H4 := Lib.hid (H3.out.next hal)
    have B4 := Lib.hid (B3.out.trans (hal.mono (Nat.le_trans hlo B3.out.size)))
    clear hal H3 B3
    go_upto_region 5 with fail
    generalize X3.alloc (.cells #[.int .i64 c0, .int .i64 c1, .int .i64 c2, .int .i64 c3, .int .i64 c4, .string c5, .string c6] GreeterT) = X4 at *
    generalize X3.heap.size = gn at *
    have t0 : X4.cell? ⟨T, 0, none⟩ = some (.slice (some ⟨gl, 0, none⟩) 2 2) := H4.out.var.cell 0
    have y0 : X4.cell? ⟨gl, 0, none⟩ = some (.int .i64 c0) := H4.out.list.cell 0
    have f0 := H4.out.list.free 0
    have y1 : X4.cell? ⟨gl, 1, none⟩ = some (.int .i64 c1) := H4.out.list.cell 1
    have f1 := H4.out.list.free 1
    have y2 : X4.cell? ⟨gl, 2, none⟩ = some (.int .i64 c2) := H4.out.list.cell 2
    have f2 := H4.out.list.free 2
    have y3 : X4.cell? ⟨gl, 3, none⟩ = some (.int .i64 c3) := H4.out.list.cell 3
    have f3 := H4.out.list.free 3
    have y4 : X4.cell? ⟨gl, 4, none⟩ = some (.int .i64 a4) := H4.out.list.cell 4
    have f4 := H4.out.list.free 4
    have y5 : X4.cell? ⟨gl, 5, none⟩ = some (.string c5) := H4.out.list.cell 5
    have f5 := H4.out.list.free 5
    have y6 : X4.cell? ⟨gl, 6, none⟩ = some (.string a6) := H4.out.list.cell 6
    have f6 := H4.out.list.free 6
    have e0 : X4.cell? ⟨gn, 0, none⟩ = some (.int .i64 c0) := VG.out.cell 0
    have e1 : X4.cell? ⟨gn, 1, none⟩ = some (.int .i64 c1) := VG.out.cell 1
    have e2 : X4.cell? ⟨gn, 2, none⟩ = some (.int .i64 c2) := VG.out.cell 2
    have e3 : X4.cell? ⟨gn, 3, none⟩ = some (.int .i64 c3) := VG.out.cell 3
    have e4 : X4.cell? ⟨gn, 4, none⟩ = some (.int .i64 c4) := VG.out.cell 4
    have e5 : X4.cell? ⟨gn, 5, none⟩ = some (.string c5) := VG.out.cell 5
    have e6 : X4.cell? ⟨gn, 6, none⟩ = some (.string c6) := VG.out.cell 6
    have hlx : lo ≤ X4.heap.size := Nat.le_trans hlo B4.out.size
    have hX5 : Only gl X4 (((((((X4.setCell ⟨gl, 0, none⟩ (.int .i64 c0)).setCell ⟨gl, 1, none⟩ (.int .i64 c1)).setCell ⟨gl, 2, none⟩ (.int .i64 c2)).setCell ⟨gl, 3, none⟩ (.int .i64 c3)).setCell ⟨gl, 4, none⟩ (.int .i64 c4)).setCell ⟨gl, 5, none⟩ (.string c5)).setCell ⟨gl, 6, none⟩ (.string c6)) := (((((((Only.setCell 0 (.int .i64 c0) : Only gl X4 _).trans (Only.setCell 1 (.int .i64 c1))).trans (Only.setCell 2 (.int .i64 c2))).trans (Only.setCell 3 (.int .i64 c3))).trans (Only.setCell 4 (.int .i64 c4))).trans (Only.setCell 5 (.string c5))).trans (Only.setCell 6 (.string c6)))
    have H5 := Lib.hid ((H4.out.heardA (c0 := c0) (c1 := c1) (c2 := c2) (c3 := c3) (c4 := c4) (c5 := c5) (c6 := c6)).next ((Below.refl _ _).drew))
    have B5 := Lib.hid ((B4.out.trans (only_below hX5 H4.out.low.2.1 hlx)).drew)
    clear hX5
    go_region
    all_goals
      go_upto_region 6 with fail
      generalize (((((((X4.setCell ⟨gl, 0, none⟩ (.int .i64 c0)).setCell ⟨gl, 1, none⟩ (.int .i64 c1)).setCell ⟨gl, 2, none⟩ (.int .i64 c2)).setCell ⟨gl, 3, none⟩ (.int .i64 c3)).setCell ⟨gl, 4, none⟩ (.int .i64 c4)).setCell ⟨gl, 5, none⟩ (.string c5)).setCell ⟨gl, 6, none⟩ (.string c6)).drew = X5 at *
      clear t0 H4 B4 VG hlx y0 f0 e0 y1 f1 e1 y2 f2 e2 y3 f3 e3 y4 f4 e4 y5 f5 e5 y6 f6 e6
      by_cases ht : t = ⟨#[]⟩
      · subst ht
        go_wp2_with fail
        refine bodyPost_end (results_none rfl _ _ _) rfl ⟨rfl, ⟨(.slice ao sa.length ac), ?_⟩, B5.out⟩
        rw [saidT_none]
        exact H5.out
      · have kt : (t.toList == []) = false := by
          rw [beq_eq_false_iff_ne, ByteArray.toList_eq]
          exact fun e => ht (ByteArray.ext (Array.toList_inj.1 (e.trans rfl)))
        have hsd : saidT sa t = sa ++ [t] := by unfold saidT; rw [if_neg ht]
        have HSD := Lib.hid hsd
        clear ht hsd
        go_upto_region 7 with fail
        have t1 : X5.cell? ⟨T, 1, none⟩ = some (.slice (some ⟨gs, 0, none⟩) 2 2) := H5.out.var.cell 1
        have s1 : X5.cell? ⟨gs, 0, none⟩ = some (.slice ao sa.length ac) := H5.out.said.cell 0
        have AD : Below X5.heap.size X5 (X5.alloc (.cells #[.string t] StringT)).drew := ((Below.refl _ _).alloc (Nat.le_refl _) _).drew
        have H6 := Lib.hid (H5.out.next AD)
        have B6 := Lib.hid (B5.out.trans (AD.mono (Nat.le_trans hlo B5.out.size)))
        have r1 : (X5.alloc (.cells #[.string t] StringT)).cell? ⟨T, 1, none⟩ = some (.slice (some ⟨gs, 0, none⟩) 2 2) := H6.out.var.cell 1
        have r2 : (X5.alloc (.cells #[.string t] StringT)).cell? ⟨gs, 0, none⟩ = some (.slice ao sa.length ac) := H6.out.said.cell 0
        have hws : lo ≤ (X5.alloc (.cells #[.string t] StringT)).drew.heap.size := Nat.le_trans hlo B6.out.size
        have hw9 : IntKind.i64.wrap 0 = 0 := by rw [IntKind.wrap_i64]; omega
        clear AD H5 B5
        go_region_law (refine step_pushT rfl (.tmp 88) (.tmp 90) 31 rfl lo StringT i1 (.string ⟨#[]⟩) 16 layString flatString Tryz.underlying31 hi1 hz1 hsz1 hby1 rfl (by omega) (.slice ao sa.length ac) (blk (.slice ao sa.length ac)) sa (by first | rfl | simp [Act.eval, Act.put]) H6.out.rowA t [.string t] rfl ⟨X5.heap.size, 0, none⟩ (by first | rfl | simp [Act.eval, Act.put]) (fun j u hj => lit_cells_one X5 #[.string t] StringT j u hj) (by omega) hws ?_; intro v1 w2 hown1 hnn1 htl1 hgr1 hbe1; obtain ⟨a9, k9, rfl, hblk, -, -⟩ := flat_some flatString hown1 hnn1; obtain ⟨l9, HL9⟩ : ∃ l : Nat, Hid (l = (sa ++ [t]).length) := ⟨_, Lib.hid rfl⟩; rw [← HL9.out] at hown1 htl1 hblk; rw [← HL9.out]; have hchg : Chg (blk (.slice ao sa.length ac)) (X5.alloc (.cells #[.string t] StringT)).drew w2 := Chg.grown hgr1 _ (fun k hk => by simp [blk, hk]); obtain ⟨hvr, htv, hgm⟩ := H6.out.saidA hown1 htl1 hchg; have g1 : w2.cell? ⟨gs, 0, none⟩ = some (.slice ao sa.length ac) := hvr.cell 0; have u1 := hvr.free 0; have g2 : w2.cell? ⟨T, 1, none⟩ = some (.slice (some ⟨gs, 0, none⟩) 2 2) := htv.cell 1)
        all_goals
          have HG := Lib.hid hgm
          have BG := Lib.hid ((B6.out.trans hbe1).trans (only_below (Only.setCell (c := gs) (w := w2) 0 (.slice (some ⟨a9, 0, none⟩) l9 k9)) H6.out.low.2.2.1 (Nat.le_trans hlo (B6.out.trans hbe1).size)))
          clear hgm hown1 hnn1 htl1 hgr1 hbe1 hblk hchg r1 r2 s1 t1
          go_wp2_with fail
          refine bodyPost_end (results_none rfl _ _ _) rfl ⟨rfl, ⟨.slice (some ⟨a9, 0, none⟩) l9 k9, ?_⟩, ?_⟩
          · rw [HSD.out]
            exact HG.out
          · exact BG.out

end

end Go.Proofs.YtkjjdoadjhjmbauGreatDoor
