/-
  The program's TidySlots.
-/
import Derived.Test.YtoaifgblbfdncaaDoorJ29
import Derived.Test.YtoaifgblbfdncaaDoorJ07
import Derived.Test.YtoaifgblbfdncaaDoorJ31
namespace Go.Proofs.YtoaifgblbfdncaaDoor
open Go.RowKit

set_option maxRecDepth 100000 in
set_option maxHeartbeats 6400000 in
theorem implTidySlots_gen (HG : CloneS) (x0 : Int) (x1 x2 : ByteArray) (x3 : Int) (v4 : Value) (r4 : List Int) (x5 : Int) (y0 : Int) (y1 y2 : ByteArray) (y3 : Int) (u4 : Value) (s4 : List Int) (y5 : Int) (now : Int) (hs1 : x1.size ≤ 10000000) (hs2 : x2.size ≤ 10000000) (hs3 : y1.size ≤ 10000000) (hs4 : y2.size ≤ 10000000) (hl : r4.length ≤ 10000000) (hk : s4.length ≤ 10000000) (w : World) (h : layIntS.rd w [v4] r4) (k : layIntS.rd w [u4] s4) :
    Calls Tryd.prog 11 #[.agg #[.int .i64 x0, .string x1, .string x2, .int .i64 x3, v4, .int .i64 x5, .int .i64 y0, .string y1, .string y2, .int .i64 y3, u4, .int .i64 y5], .int .i64 now] w (TidyEnd x0 x1 x2 x3 r4 x5 y0 y1 y2 y3 s4 y5 now w) := by
  obtain ⟨a4, p4, rfl⟩ := rows_form h
  obtain ⟨b4, q4, rfl⟩ := rows_form k
  have e1 : (w.alloc (.cells #[.int .i64 x0, .string x1, .string x2, .int .i64 x3, .slice a4 r4.length p4, .int .i64 x5, .int .i64 y0, .string y1, .string y2, .int .i64 y3, .slice b4 s4.length q4, .int .i64 y5] SlotsT)).heap.size = w.heap.size + 1 := by simp
  have h2 := VarA.new (w.alloc (.cells #[.int .i64 x0, .string x1, .string x2, .int .i64 x3, .slice a4 r4.length p4, .int .i64 x5, .int .i64 y0, .string y1, .string y2, .int .i64 y3, .slice b4 s4.length q4, .int .i64 y5] SlotsT)) SlotsT #[.int .i64 0, .string ⟨#[]⟩, .string ⟨#[]⟩, .int .i64 0, .slice none 0 0, .int .i64 0, .int .i64 0, .string ⟨#[]⟩, .string ⟨#[]⟩, .int .i64 0, .slice none 0 0, .int .i64 0]
  rw [e1] at h2
  have A0 := Lib.hid ((VarA.new w SlotsT #[.int .i64 x0, .string x1, .string x2, .int .i64 x3, .slice a4 r4.length p4, .int .i64 x5, .int .i64 y0, .string y1, .string y2, .int .i64 y3, .slice b4 s4.length q4, .int .i64 y5]).alloc (.cells #[.int .i64 0, .string ⟨#[]⟩, .string ⟨#[]⟩, .int .i64 0, .slice none 0 0, .int .i64 0, .int .i64 0, .string ⟨#[]⟩, .string ⟨#[]⟩, .int .i64 0, .slice none 0 0, .int .i64 0] SlotsT))
  have A1 := Lib.hid h2
  have BY := Lib.hid (((Below.refl w.heap.size w).alloc (Nat.le_refl _) (.cells #[.int .i64 x0, .string x1, .string x2, .int .i64 x3, .slice a4 r4.length p4, .int .i64 x5, .int .i64 y0, .string y1, .string y2, .int .i64 y3, .slice b4 s4.length q4, .int .i64 y5] SlotsT)).alloc (by simp) (.cells #[.int .i64 0, .string ⟨#[]⟩, .string ⟨#[]⟩, .int .i64 0, .slice none 0 0, .int .i64 0, .int .i64 0, .string ⟨#[]⟩, .string ⟨#[]⟩, .int .i64 0, .slice none 0 0, .int .i64 0] SlotsT))
  have hz : Hid (w.heap.size + 2 ≤ ((w.alloc (.cells #[.int .i64 x0, .string x1, .string x2, .int .i64 x3, .slice a4 r4.length p4, .int .i64 x5, .int .i64 y0, .string y1, .string y2, .int .i64 y3, .slice b4 s4.length q4, .int .i64 y5] SlotsT)).alloc (.cells #[.int .i64 0, .string ⟨#[]⟩, .string ⟨#[]⟩, .int .i64 0, .slice none 0 0, .int .i64 0, .int .i64 0, .string ⟨#[]⟩, .string ⟨#[]⟩, .int .i64 0, .slice none 0 0, .int .i64 0] SlotsT)).heap.size) := Lib.hid (by simp)
  have HR := Lib.hid h
  have HK := Lib.hid k
  clear h k h2 e1
  obtain ⟨Q, HQ⟩ : ∃ Q : Ending → World → Prop, Hid (Q = TidyEnd x0 x1 x2 x3 r4 x5 y0 y1 y2 y3 s4 y5 now w) := ⟨_, Lib.hid rfl⟩
  rw [← HQ.out]
  go_enter Tryd.func11, Tryd.ntmps11
  go_upto_region 1 with fail
  generalize ((w.alloc (.cells #[.int .i64 x0, .string x1, .string x2, .int .i64 x3, .slice a4 r4.length p4, .int .i64 x5, .int .i64 y0, .string y1, .string y2, .int .i64 y3, .slice b4 s4.length q4, .int .i64 y5] SlotsT)).alloc (.cells #[.int .i64 0, .string ⟨#[]⟩, .string ⟨#[]⟩, .int .i64 0, .slice none 0 0, .int .i64 0, .int .i64 0, .string ⟨#[]⟩, .string ⟨#[]⟩, .int .i64 0, .slice none 0 0, .int .i64 0] SlotsT)) = Y at *
  have c0 : Y.cell? ⟨w.heap.size, 0, none⟩ = some (.int .i64 x0) := A0.out.cell 0
  have c1 : Y.cell? ⟨w.heap.size, 1, none⟩ = some (.string x1) := A0.out.cell 1
  have c2 : Y.cell? ⟨w.heap.size, 2, none⟩ = some (.string x2) := A0.out.cell 2
  have c3 : Y.cell? ⟨w.heap.size, 3, none⟩ = some (.int .i64 x3) := A0.out.cell 3
  have c4 : Y.cell? ⟨w.heap.size, 4, none⟩ = some (.slice a4 r4.length p4) := A0.out.cell 4
  have c5 : Y.cell? ⟨w.heap.size, 5, none⟩ = some (.int .i64 x5) := A0.out.cell 5
  have c6 : Y.cell? ⟨w.heap.size, 6, none⟩ = some (.int .i64 y0) := A0.out.cell 6
  have c7 : Y.cell? ⟨w.heap.size, 7, none⟩ = some (.string y1) := A0.out.cell 7
  have c8 : Y.cell? ⟨w.heap.size, 8, none⟩ = some (.string y2) := A0.out.cell 8
  have c9 : Y.cell? ⟨w.heap.size, 9, none⟩ = some (.int .i64 y3) := A0.out.cell 9
  have c10 : Y.cell? ⟨w.heap.size, 10, none⟩ = some (.slice b4 s4.length q4) := A0.out.cell 10
  have c11 : Y.cell? ⟨w.heap.size, 11, none⟩ = some (.int .i64 y5) := A0.out.cell 11
  have K := Lib.hid (copyOfSlots_any HG x0 x1 x2 x3 _ r4 x5 y0 y1 y2 y3 _ s4 y5 hs1 hs2 hs3 hs4 hl hk Y (layIntS.below HR.out BY.out) (layIntS.below HK.out BY.out))
  go_wp2_with fail
  refine (K.out).mono ?_
  rintro e Y1 ⟨v5, v6, f, g, rfl, hd, o1, o2, hb⟩
  obtain ⟨ma, mk, rfl⟩ := rows_form (layIntS.read o1)
  obtain ⟨la, lk, rfl⟩ := rows_form (layIntS.read o2)
  have ND := Lib.hid hd
  have F1 : Hid (∀ a ∈ f, w.heap.size + 2 ≤ a ∧ a < Y1.heap.size) := Lib.hid (fun a ha => by have := layIntS.blocks o1 a ha; have := hz.out; omega)
  have F2 : Hid (∀ a ∈ g, w.heap.size + 2 ≤ a ∧ a < Y1.heap.size) := Lib.hid (fun a ha => by have := layIntS.blocks o2 a ha; have := hz.out; omega)
  have hal : Below Y1.heap.size Y1 (Y1.alloc (.cells #[.int .i64 x0, .string x1, .string x2, .int .i64 x3, .slice ma r4.length mk, .int .i64 x5, .int .i64 y0, .string y1, .string y2, .int .i64 y3, .slice la s4.length lk, .int .i64 y5] SlotsT)) := (Below.refl _ _).alloc (Nat.le_refl _) _
  have O1 := Lib.hid (layIntS.lower (layIntS.next o1 hal) (Nat.le_trans (show w.heap.size + 2 ≤ _ from hz.out) (Nat.le_refl _)))
  have O2 := Lib.hid (layIntS.lower (layIntS.next o2 hal) (Nat.le_trans (show w.heap.size + 2 ≤ _ from hz.out) (Nat.le_refl _)))
  replace A0 := Lib.hid ((A0.out.next hb).next hal)
  replace A1 := Lib.hid ((A1.out.next hb).next hal)
  have A2 := Lib.hid (VarA.new Y1 SlotsT #[.int .i64 x0, .string x1, .string x2, .int .i64 x3, .slice ma r4.length mk, .int .i64 x5, .int .i64 y0, .string y1, .string y2, .int .i64 y3, .slice la s4.length lk, .int .i64 y5])
  have hz1 : Hid (w.heap.size + 2 ≤ Y1.heap.size) := Lib.hid (Nat.le_trans hz.out hb.size)
  replace BY := Lib.hid ((BY.out.trans (hb.mono BY.out.size)).trans (hal.mono (Nat.le_trans BY.out.size hb.size)))
  clear hb hal hd o1 o2 K c0 c1 c2 c3 c4 c5 c6 c7 c8 c9 c10 c11
  go_upto_region 2 with fail
  generalize Y1.alloc (.cells #[.int .i64 x0, .string x1, .string x2, .int .i64 x3, .slice ma r4.length mk, .int .i64 x5, .int .i64 y0, .string y1, .string y2, .int .i64 y3, .slice la s4.length lk, .int .i64 y5] SlotsT) = Y2 at *
  generalize Y1.heap.size = G at *
  have m11 : Y2.cell? ⟨G, 11, none⟩ = some (.int .i64 y5) := A2.out.cell 11
  by_cases hu : y5 ≤ now
  · have hu' : decide (y5 ≤ now) = true := decide_eq_true hu
    have d0 : Y2.cell? ⟨G, 0, none⟩ = some (.int .i64 x0) := A2.out.cell 0
    have d1 : Y2.cell? ⟨G, 1, none⟩ = some (.string x1) := A2.out.cell 1
    have d2 : Y2.cell? ⟨G, 2, none⟩ = some (.string x2) := A2.out.cell 2
    have d3 : Y2.cell? ⟨G, 3, none⟩ = some (.int .i64 x3) := A2.out.cell 3
    have d4 : Y2.cell? ⟨G, 4, none⟩ = some (.slice ma r4.length mk) := A2.out.cell 4
    have d5 : Y2.cell? ⟨G, 5, none⟩ = some (.int .i64 x5) := A2.out.cell 5
    have d6 : Y2.cell? ⟨G, 6, none⟩ = some (.int .i64 y0) := A2.out.cell 6
    have d7 : Y2.cell? ⟨G, 7, none⟩ = some (.string y1) := A2.out.cell 7
    have d8 : Y2.cell? ⟨G, 8, none⟩ = some (.string y2) := A2.out.cell 8
    have d9 : Y2.cell? ⟨G, 9, none⟩ = some (.int .i64 y3) := A2.out.cell 9
    have d10 : Y2.cell? ⟨G, 10, none⟩ = some (.slice la s4.length lk) := A2.out.cell 10
    have d11 : Y2.cell? ⟨G, 11, none⟩ = some (.int .i64 y5) := A2.out.cell 11
    have g0 := A2.out.free 0
    have g1 := A2.out.free 1
    have g2 := A2.out.free 2
    have g3 := A2.out.free 3
    have g4 := A2.out.free 4
    have g5 := A2.out.free 5
    have g6 := A2.out.free 6
    have g7 := A2.out.free 7
    have g8 := A2.out.free 8
    have g9 := A2.out.free 9
    have g10 := A2.out.free 10
    have g11 := A2.out.free 11
    have A3 := Lib.hid (putLame A2.out (.int .i64 0) (.string ⟨#[]⟩) (.string ⟨#[]⟩) (.int .i64 0) (.slice none 0 0) (.int .i64 0))
    have hst : Only G Y2 ((((((Y2.setCell ⟨G, 6, none⟩ (.int .i64 0)).setCell ⟨G, 7, none⟩ (.string ⟨#[]⟩)).setCell ⟨G, 8, none⟩ (.string ⟨#[]⟩)).setCell ⟨G, 9, none⟩ (.int .i64 0)).setCell ⟨G, 10, none⟩ (.slice none 0 0)).setCell ⟨G, 11, none⟩ (.int .i64 0)) := putLame_only Y2 G _ _ _ _ _ _
    have hG := hz1.out
    have A4 := Lib.hid (A1.out.only hst (by omega))
    have O3 : Hid (layIntS.own ((((((Y2.setCell ⟨G, 6, none⟩ (.int .i64 0)).setCell ⟨G, 7, none⟩ (.string ⟨#[]⟩)).setCell ⟨G, 8, none⟩ (.string ⟨#[]⟩)).setCell ⟨G, 9, none⟩ (.int .i64 0)).setCell ⟨G, 10, none⟩ (.slice none 0 0)).setCell ⟨G, 11, none⟩ (.int .i64 0)) (w.heap.size + 2) f [.slice ma r4.length mk] r4) := Lib.hid (layIntS.keep O1.out (fun a ha => hst.block a (layIntS.blocks O1.out a ha).2 (by have := (F1.out a ha).2; omega)))
    have B3 := Lib.hid (putLame_below BY.out (show w.heap.size ≤ G by omega) (.int .i64 0) (.string ⟨#[]⟩) (.string ⟨#[]⟩) (.int .i64 0) (.slice none 0 0) (.int .i64 0))
    clear hst
    go_upto_region 4 with fail
    generalize ((((((Y2.setCell ⟨G, 6, none⟩ (.int .i64 0)).setCell ⟨G, 7, none⟩ (.string ⟨#[]⟩)).setCell ⟨G, 8, none⟩ (.string ⟨#[]⟩)).setCell ⟨G, 9, none⟩ (.int .i64 0)).setCell ⟨G, 10, none⟩ (.slice none 0 0)).setCell ⟨G, 11, none⟩ (.int .i64 0)) = Y3 at *
    clear A0 A1 A2 BY O1 O2 m11 d0 d1 d2 d3 d4 d5 d6 d7 d8 d9 d10 d11 g0 g1 g2 g3 g4 g5 g6 g7 g8 g9 g10 g11
    generalize A3 = A2 at *
    generalize A4 = A1 at *
    generalize B3 = BY at *
    generalize O3 = O1 at *
    have c0 : Y3.cell? ⟨G, 0, none⟩ = some (.int .i64 x0) := A2.out.cell 0
    have c1 : Y3.cell? ⟨G, 1, none⟩ = some (.string x1) := A2.out.cell 1
    have c2 : Y3.cell? ⟨G, 2, none⟩ = some (.string x2) := A2.out.cell 2
    have c3 : Y3.cell? ⟨G, 3, none⟩ = some (.int .i64 x3) := A2.out.cell 3
    have c4 : Y3.cell? ⟨G, 4, none⟩ = some (.slice ma r4.length mk) := A2.out.cell 4
    have c5 : Y3.cell? ⟨G, 5, none⟩ = some (.int .i64 x5) := A2.out.cell 5
    have c6 : Y3.cell? ⟨G, 6, none⟩ = some (.int .i64 0) := A2.out.cell 6
    have c7 : Y3.cell? ⟨G, 7, none⟩ = some (.string ⟨#[]⟩) := A2.out.cell 7
    have c8 : Y3.cell? ⟨G, 8, none⟩ = some (.string ⟨#[]⟩) := A2.out.cell 8
    have c9 : Y3.cell? ⟨G, 9, none⟩ = some (.int .i64 0) := A2.out.cell 9
    have c10 : Y3.cell? ⟨G, 10, none⟩ = some (.slice none 0 0) := A2.out.cell 10
    have c11 : Y3.cell? ⟨G, 11, none⟩ = some (.int .i64 0) := A2.out.cell 11
    have d0 : Y3.cell? ⟨w.heap.size + 1, 0, none⟩ = some (.int .i64 0) := A1.out.cell 0
    have d1 : Y3.cell? ⟨w.heap.size + 1, 1, none⟩ = some (.string ⟨#[]⟩) := A1.out.cell 1
    have d2 : Y3.cell? ⟨w.heap.size + 1, 2, none⟩ = some (.string ⟨#[]⟩) := A1.out.cell 2
    have d3 : Y3.cell? ⟨w.heap.size + 1, 3, none⟩ = some (.int .i64 0) := A1.out.cell 3
    have d4 : Y3.cell? ⟨w.heap.size + 1, 4, none⟩ = some (.slice none 0 0) := A1.out.cell 4
    have d5 : Y3.cell? ⟨w.heap.size + 1, 5, none⟩ = some (.int .i64 0) := A1.out.cell 5
    have d6 : Y3.cell? ⟨w.heap.size + 1, 6, none⟩ = some (.int .i64 0) := A1.out.cell 6
    have d7 : Y3.cell? ⟨w.heap.size + 1, 7, none⟩ = some (.string ⟨#[]⟩) := A1.out.cell 7
    have d8 : Y3.cell? ⟨w.heap.size + 1, 8, none⟩ = some (.string ⟨#[]⟩) := A1.out.cell 8
    have d9 : Y3.cell? ⟨w.heap.size + 1, 9, none⟩ = some (.int .i64 0) := A1.out.cell 9
    have d10 : Y3.cell? ⟨w.heap.size + 1, 10, none⟩ = some (.slice none 0 0) := A1.out.cell 10
    have d11 : Y3.cell? ⟨w.heap.size + 1, 11, none⟩ = some (.int .i64 0) := A1.out.cell 11
    have g0 := A1.out.free 0
    have g1 := A1.out.free 1
    have g2 := A1.out.free 2
    have g3 := A1.out.free 3
    have g4 := A1.out.free 4
    have g5 := A1.out.free 5
    have g6 := A1.out.free 6
    have g7 := A1.out.free 7
    have g8 := A1.out.free 8
    have g9 := A1.out.free 9
    have g10 := A1.out.free 10
    have g11 := A1.out.free 11
    have S1 := putBoth A1.out (.int .i64 x0) (.string x1) (.string x2) (.int .i64 x3) (.slice ma r4.length mk) (.int .i64 x5) (.int .i64 0) (.string ⟨#[]⟩) (.string ⟨#[]⟩) (.int .i64 0) (.slice none 0 0) (.int .i64 0)
    have j0 := S1.cell 0
    have j1 := S1.cell 1
    have j2 := S1.cell 2
    have j3 := S1.cell 3
    have j4 := S1.cell 4
    have j5 := S1.cell 5
    have j6 := S1.cell 6
    have j7 := S1.cell 7
    have j8 := S1.cell 8
    have j9 := S1.cell 9
    have j10 := S1.cell 10
    have j11 := S1.cell 11
    have E : Hid (Q (.returned (.agg #[.int .i64 x0, .string x1, .string x2, .int .i64 x3, .slice ma r4.length mk, .int .i64 x5, .int .i64 0, .string ⟨#[]⟩, .string ⟨#[]⟩, .int .i64 0, .slice none 0 0, .int .i64 0])) ((((((((((((Y3.setCell ⟨w.heap.size + 1, 0, none⟩ (.int .i64 x0)).setCell ⟨w.heap.size + 1, 1, none⟩ (.string x1)).setCell ⟨w.heap.size + 1, 2, none⟩ (.string x2)).setCell ⟨w.heap.size + 1, 3, none⟩ (.int .i64 x3)).setCell ⟨w.heap.size + 1, 4, none⟩ (.slice ma r4.length mk)).setCell ⟨w.heap.size + 1, 5, none⟩ (.int .i64 x5)).setCell ⟨w.heap.size + 1, 6, none⟩ (.int .i64 0)).setCell ⟨w.heap.size + 1, 7, none⟩ (.string ⟨#[]⟩)).setCell ⟨w.heap.size + 1, 8, none⟩ (.string ⟨#[]⟩)).setCell ⟨w.heap.size + 1, 9, none⟩ (.int .i64 0)).setCell ⟨w.heap.size + 1, 10, none⟩ (.slice none 0 0)).setCell ⟨w.heap.size + 1, 11, none⟩ (.int .i64 0))) := by
      rw [HQ.out]
      have ho : Only (w.heap.size + 1) Y3 ((((((((((((Y3.setCell ⟨w.heap.size + 1, 0, none⟩ (.int .i64 x0)).setCell ⟨w.heap.size + 1, 1, none⟩ (.string x1)).setCell ⟨w.heap.size + 1, 2, none⟩ (.string x2)).setCell ⟨w.heap.size + 1, 3, none⟩ (.int .i64 x3)).setCell ⟨w.heap.size + 1, 4, none⟩ (.slice ma r4.length mk)).setCell ⟨w.heap.size + 1, 5, none⟩ (.int .i64 x5)).setCell ⟨w.heap.size + 1, 6, none⟩ (.int .i64 0)).setCell ⟨w.heap.size + 1, 7, none⟩ (.string ⟨#[]⟩)).setCell ⟨w.heap.size + 1, 8, none⟩ (.string ⟨#[]⟩)).setCell ⟨w.heap.size + 1, 9, none⟩ (.int .i64 0)).setCell ⟨w.heap.size + 1, 10, none⟩ (.slice none 0 0)).setCell ⟨w.heap.size + 1, 11, none⟩ (.int .i64 0)) := (putMain_only Y3 (w.heap.size + 1) _ _ _ _ _ _).trans (putLame_only _ (w.heap.size + 1) _ _ _ _ _ _)
      have hbel : Below w.heap.size w ((((((((((((Y3.setCell ⟨w.heap.size + 1, 0, none⟩ (.int .i64 x0)).setCell ⟨w.heap.size + 1, 1, none⟩ (.string x1)).setCell ⟨w.heap.size + 1, 2, none⟩ (.string x2)).setCell ⟨w.heap.size + 1, 3, none⟩ (.int .i64 x3)).setCell ⟨w.heap.size + 1, 4, none⟩ (.slice ma r4.length mk)).setCell ⟨w.heap.size + 1, 5, none⟩ (.int .i64 x5)).setCell ⟨w.heap.size + 1, 6, none⟩ (.int .i64 0)).setCell ⟨w.heap.size + 1, 7, none⟩ (.string ⟨#[]⟩)).setCell ⟨w.heap.size + 1, 8, none⟩ (.string ⟨#[]⟩)).setCell ⟨w.heap.size + 1, 9, none⟩ (.int .i64 0)).setCell ⟨w.heap.size + 1, 10, none⟩ (.slice none 0 0)).setCell ⟨w.heap.size + 1, 11, none⟩ (.int .i64 0)) := putBoth_below BY.out (show w.heap.size ≤ w.heap.size + 1 by omega) _ _ _ _ _ _ _ _ _ _ _ _
      exact Lib.hid (.inl ⟨hu, _, _, f, [], rfl, by rw [List.append_nil]; exact (List.nodup_append.1 ND.out).1, layIntS.lower (layIntS.keep O1.out (fun a ha => ho.block a (layIntS.blocks O1.out a ha).2 (by have := (F1.out a ha).1; omega))) (by omega), none_own _ _, hbel⟩)
    clear S1
    go_wp2_with fail
    try simp only [Exit.inBlock, Exit.then]
    exact bodyPost_ret (v := .agg #[.int .i64 x0, .string x1, .string x2, .int .i64 x3, .slice ma r4.length mk, .int .i64 x5, .int .i64 0, .string ⟨#[]⟩, .string ⟨#[]⟩, .int .i64 0, .slice none 0 0, .int .i64 0]) (by simp [results, Tryd.results11, go_sem, j0, j1, j2, j3, j4, j5, j6, j7, j8, j9, j10, j11]) rfl E.out
  · have hu' : decide (y5 ≤ now) = false := decide_eq_false hu
    go_upto_region 4 with fail
    clear m11
    have c0 : Y2.cell? ⟨G, 0, none⟩ = some (.int .i64 x0) := A2.out.cell 0
    have c1 : Y2.cell? ⟨G, 1, none⟩ = some (.string x1) := A2.out.cell 1
    have c2 : Y2.cell? ⟨G, 2, none⟩ = some (.string x2) := A2.out.cell 2
    have c3 : Y2.cell? ⟨G, 3, none⟩ = some (.int .i64 x3) := A2.out.cell 3
    have c4 : Y2.cell? ⟨G, 4, none⟩ = some (.slice ma r4.length mk) := A2.out.cell 4
    have c5 : Y2.cell? ⟨G, 5, none⟩ = some (.int .i64 x5) := A2.out.cell 5
    have c6 : Y2.cell? ⟨G, 6, none⟩ = some (.int .i64 y0) := A2.out.cell 6
    have c7 : Y2.cell? ⟨G, 7, none⟩ = some (.string y1) := A2.out.cell 7
    have c8 : Y2.cell? ⟨G, 8, none⟩ = some (.string y2) := A2.out.cell 8
    have c9 : Y2.cell? ⟨G, 9, none⟩ = some (.int .i64 y3) := A2.out.cell 9
    have c10 : Y2.cell? ⟨G, 10, none⟩ = some (.slice la s4.length lk) := A2.out.cell 10
    have c11 : Y2.cell? ⟨G, 11, none⟩ = some (.int .i64 y5) := A2.out.cell 11
    have d0 : Y2.cell? ⟨w.heap.size + 1, 0, none⟩ = some (.int .i64 0) := A1.out.cell 0
    have d1 : Y2.cell? ⟨w.heap.size + 1, 1, none⟩ = some (.string ⟨#[]⟩) := A1.out.cell 1
    have d2 : Y2.cell? ⟨w.heap.size + 1, 2, none⟩ = some (.string ⟨#[]⟩) := A1.out.cell 2
    have d3 : Y2.cell? ⟨w.heap.size + 1, 3, none⟩ = some (.int .i64 0) := A1.out.cell 3
    have d4 : Y2.cell? ⟨w.heap.size + 1, 4, none⟩ = some (.slice none 0 0) := A1.out.cell 4
    have d5 : Y2.cell? ⟨w.heap.size + 1, 5, none⟩ = some (.int .i64 0) := A1.out.cell 5
    have d6 : Y2.cell? ⟨w.heap.size + 1, 6, none⟩ = some (.int .i64 0) := A1.out.cell 6
    have d7 : Y2.cell? ⟨w.heap.size + 1, 7, none⟩ = some (.string ⟨#[]⟩) := A1.out.cell 7
    have d8 : Y2.cell? ⟨w.heap.size + 1, 8, none⟩ = some (.string ⟨#[]⟩) := A1.out.cell 8
    have d9 : Y2.cell? ⟨w.heap.size + 1, 9, none⟩ = some (.int .i64 0) := A1.out.cell 9
    have d10 : Y2.cell? ⟨w.heap.size + 1, 10, none⟩ = some (.slice none 0 0) := A1.out.cell 10
    have d11 : Y2.cell? ⟨w.heap.size + 1, 11, none⟩ = some (.int .i64 0) := A1.out.cell 11
    have g0 := A1.out.free 0
    have g1 := A1.out.free 1
    have g2 := A1.out.free 2
    have g3 := A1.out.free 3
    have g4 := A1.out.free 4
    have g5 := A1.out.free 5
    have g6 := A1.out.free 6
    have g7 := A1.out.free 7
    have g8 := A1.out.free 8
    have g9 := A1.out.free 9
    have g10 := A1.out.free 10
    have g11 := A1.out.free 11
    have S1 := putBoth A1.out (.int .i64 x0) (.string x1) (.string x2) (.int .i64 x3) (.slice ma r4.length mk) (.int .i64 x5) (.int .i64 y0) (.string y1) (.string y2) (.int .i64 y3) (.slice la s4.length lk) (.int .i64 y5)
    have j0 := S1.cell 0
    have j1 := S1.cell 1
    have j2 := S1.cell 2
    have j3 := S1.cell 3
    have j4 := S1.cell 4
    have j5 := S1.cell 5
    have j6 := S1.cell 6
    have j7 := S1.cell 7
    have j8 := S1.cell 8
    have j9 := S1.cell 9
    have j10 := S1.cell 10
    have j11 := S1.cell 11
    have E : Hid (Q (.returned (.agg #[.int .i64 x0, .string x1, .string x2, .int .i64 x3, .slice ma r4.length mk, .int .i64 x5, .int .i64 y0, .string y1, .string y2, .int .i64 y3, .slice la s4.length lk, .int .i64 y5])) ((((((((((((Y2.setCell ⟨w.heap.size + 1, 0, none⟩ (.int .i64 x0)).setCell ⟨w.heap.size + 1, 1, none⟩ (.string x1)).setCell ⟨w.heap.size + 1, 2, none⟩ (.string x2)).setCell ⟨w.heap.size + 1, 3, none⟩ (.int .i64 x3)).setCell ⟨w.heap.size + 1, 4, none⟩ (.slice ma r4.length mk)).setCell ⟨w.heap.size + 1, 5, none⟩ (.int .i64 x5)).setCell ⟨w.heap.size + 1, 6, none⟩ (.int .i64 y0)).setCell ⟨w.heap.size + 1, 7, none⟩ (.string y1)).setCell ⟨w.heap.size + 1, 8, none⟩ (.string y2)).setCell ⟨w.heap.size + 1, 9, none⟩ (.int .i64 y3)).setCell ⟨w.heap.size + 1, 10, none⟩ (.slice la s4.length lk)).setCell ⟨w.heap.size + 1, 11, none⟩ (.int .i64 y5))) := by
      rw [HQ.out]
      have ho : Only (w.heap.size + 1) Y2 ((((((((((((Y2.setCell ⟨w.heap.size + 1, 0, none⟩ (.int .i64 x0)).setCell ⟨w.heap.size + 1, 1, none⟩ (.string x1)).setCell ⟨w.heap.size + 1, 2, none⟩ (.string x2)).setCell ⟨w.heap.size + 1, 3, none⟩ (.int .i64 x3)).setCell ⟨w.heap.size + 1, 4, none⟩ (.slice ma r4.length mk)).setCell ⟨w.heap.size + 1, 5, none⟩ (.int .i64 x5)).setCell ⟨w.heap.size + 1, 6, none⟩ (.int .i64 y0)).setCell ⟨w.heap.size + 1, 7, none⟩ (.string y1)).setCell ⟨w.heap.size + 1, 8, none⟩ (.string y2)).setCell ⟨w.heap.size + 1, 9, none⟩ (.int .i64 y3)).setCell ⟨w.heap.size + 1, 10, none⟩ (.slice la s4.length lk)).setCell ⟨w.heap.size + 1, 11, none⟩ (.int .i64 y5)) := (putMain_only Y2 (w.heap.size + 1) _ _ _ _ _ _).trans (putLame_only _ (w.heap.size + 1) _ _ _ _ _ _)
      have hbel : Below w.heap.size w ((((((((((((Y2.setCell ⟨w.heap.size + 1, 0, none⟩ (.int .i64 x0)).setCell ⟨w.heap.size + 1, 1, none⟩ (.string x1)).setCell ⟨w.heap.size + 1, 2, none⟩ (.string x2)).setCell ⟨w.heap.size + 1, 3, none⟩ (.int .i64 x3)).setCell ⟨w.heap.size + 1, 4, none⟩ (.slice ma r4.length mk)).setCell ⟨w.heap.size + 1, 5, none⟩ (.int .i64 x5)).setCell ⟨w.heap.size + 1, 6, none⟩ (.int .i64 y0)).setCell ⟨w.heap.size + 1, 7, none⟩ (.string y1)).setCell ⟨w.heap.size + 1, 8, none⟩ (.string y2)).setCell ⟨w.heap.size + 1, 9, none⟩ (.int .i64 y3)).setCell ⟨w.heap.size + 1, 10, none⟩ (.slice la s4.length lk)).setCell ⟨w.heap.size + 1, 11, none⟩ (.int .i64 y5)) := putBoth_below BY.out (show w.heap.size ≤ w.heap.size + 1 by omega) _ _ _ _ _ _ _ _ _ _ _ _
      exact Lib.hid (.inr ⟨hu, _, _, f, g, rfl, ND.out, layIntS.lower (layIntS.keep O1.out (fun a ha => ho.block a (layIntS.blocks O1.out a ha).2 (by have := (F1.out a ha).1; omega))) (by omega), layIntS.lower (layIntS.keep O2.out (fun a ha => ho.block a (layIntS.blocks O2.out a ha).2 (by have := (F2.out a ha).1; omega))) (by omega), hbel⟩)
    clear S1
    go_wp2_with fail
    try simp only [Exit.inBlock, Exit.then]
    exact bodyPost_ret (v := .agg #[.int .i64 x0, .string x1, .string x2, .int .i64 x3, .slice ma r4.length mk, .int .i64 x5, .int .i64 y0, .string y1, .string y2, .int .i64 y3, .slice la s4.length lk, .int .i64 y5]) (by simp [results, Tryd.results11, go_sem, j0, j1, j2, j3, j4, j5, j6, j7, j8, j9, j10, j11]) rfl E.out
theorem implTidySlots_of (HG : CloneS) (x0 : Int) (x1 x2 : ByteArray) (x3 : Int) (v4 : Value) (r4 : List Int) (x5 : Int) (y0 : Int) (y1 y2 : ByteArray) (y3 : Int) (u4 : Value) (s4 : List Int) (y5 : Int) (now : Int) (f1 : FitsSlot x1 x2 r4) (f2 : FitsSlot y1 y2 s4) (w : World) (h : layIntS.rd w [v4] r4) (k : layIntS.rd w [u4] s4) :
    Calls Tryd.prog 11 #[.agg #[.int .i64 x0, .string x1, .string x2, .int .i64 x3, v4, .int .i64 x5, .int .i64 y0, .string y1, .string y2, .int .i64 y3, u4, .int .i64 y5], .int .i64 now] w (TidyEnd x0 x1 x2 x3 r4 x5 y0 y1 y2 y3 s4 y5 now w) :=
  implTidySlots_gen HG x0 x1 x2 x3 v4 r4 x5 y0 y1 y2 y3 u4 s4 y5 now (by have := f1.1; omega) (by have := f1.2.1; omega) (by have := f2.1; omega) (by have := f2.2.1; omega) (by have := f1.2.2; unfold FitsInt at this; omega) (by have := f2.2.2; unfold FitsInt at this; omega) w h k

end Go.Proofs.YtoaifgblbfdncaaDoor
