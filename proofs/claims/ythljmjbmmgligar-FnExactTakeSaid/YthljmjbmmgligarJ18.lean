/-
  The given l13Copy.
-/
import Derived.Test.YthljmjbmmgligarJ14
namespace Go.Proofs.Ythljmjbmmgligar
open Go.RowKit

/-- How l13Copy ends. -/
def ChanCopied (x0 : Int) (x1 : Int) (x2 : Int) (r3 : List ByteArray) (r4 : List PendingD) (x5 : Int) (r6 : List EarlyD) (r7 : List Int) (r8 : List ByteArray) (w : World) (e : Ending) (w' : World) : Prop :=
  ∃ (g3 k3 g4 k4 g6 k6 g7 k7 g8 k8 : Nat), e = .returned (.agg #[.int .i64 x0, .int .i64 x1, .int .i64 x2, .slice (some ⟨g3, 0, none⟩) r3.length k3, .slice (some ⟨g4, 0, none⟩) r4.length k4, .int .i64 x5, .slice (some ⟨g6, 0, none⟩) r6.length k6, .slice (some ⟨g7, 0, none⟩) r7.length k7, .slice (some ⟨g8, 0, none⟩) r8.length k8]) ∧ (layStringS.own w' w.heap.size [g3] [.slice (some ⟨g3, 0, none⟩) r3.length k3] r3 ∧ layPendingS.own w' w.heap.size [g4] [.slice (some ⟨g4, 0, none⟩) r4.length k4] r4 ∧ layEarlyS.own w' w.heap.size [g6] [.slice (some ⟨g6, 0, none⟩) r6.length k6] r6 ∧ layIntS.own w' w.heap.size [g7] [.slice (some ⟨g7, 0, none⟩) r7.length k7] r7 ∧ layStringS.own w' w.heap.size [g8] [.slice (some ⟨g8, 0, none⟩) r8.length k8] r8) ∧ (g3 < g4 ∧ g4 < g6 ∧ g6 < g7 ∧ g7 < g8) ∧ Below w.heap.size w w'

set_option maxRecDepth 100000 in
set_option maxHeartbeats 3200000 in
theorem specChanCopy_any (x0 : Int) (x1 : Int) (x2 : Int) (v3 : Value) (r3 : List ByteArray) (v4 : Value) (r4 : List PendingD) (x5 : Int) (v6 : Value) (r6 : List EarlyD) (v7 : Value) (r7 : List Int) (v8 : Value) (r8 : List ByteArray) (w : World) (h3 : layStringS.rd w [v3] r3) (l3 : r3.length ≤ 100000000) (h4 : layPendingS.rd w [v4] r4) (l4 : r4.length ≤ 100000000) (h6 : layEarlyS.rd w [v6] r6) (l6 : r6.length ≤ 100000000) (h7 : layIntS.rd w [v7] r7) (l7 : r7.length ≤ 100000000) (h8 : layStringS.rd w [v8] r8) (l8 : r8.length ≤ 100000000) :
    Calls Try.prog 58 #[.agg #[.int .i64 x0, .int .i64 x1, .int .i64 x2, v3, v4, .int .i64 x5, v6, v7, v8]] w (ChanCopied x0 x1 x2 r3 r4 x5 r6 r7 r8 w) := by
  obtain ⟨a3, p3, rfl⟩ := rows_form h3
  obtain ⟨a4, p4, rfl⟩ := rows_form h4
  obtain ⟨a6, p6, rfl⟩ := rows_form h6
  obtain ⟨a7, p7, rfl⟩ := rows_form h7
  obtain ⟨a8, p8, rfl⟩ := rows_form h8
  obtain ⟨i_String, hi_String, hz_String, hs_String, hb_String⟩ := info_of infoString
  obtain ⟨i_Pending, hi_Pending, hz_Pending, hs_Pending, hb_Pending⟩ := info_of infoPending
  obtain ⟨i_Early, hi_Early, hz_Early, hs_Early, hb_Early⟩ := info_of infoEarly
  obtain ⟨i_Int, hi_Int, hz_Int, hs_Int, hb_Int⟩ := info_of infoInt
  have e1 : (w.alloc (.cells #[.int .i64 x0, .int .i64 x1, .int .i64 x2, .slice a3 r3.length p3, .slice a4 r4.length p4, .int .i64 x5, .slice a6 r6.length p6, .slice a7 r7.length p7, .slice a8 r8.length p8] ChanT)).heap.size = w.heap.size + 1 := by simp
  have A0 := Lib.hid ((VarA.new w ChanT #[.int .i64 x0, .int .i64 x1, .int .i64 x2, .slice a3 r3.length p3, .slice a4 r4.length p4, .int .i64 x5, .slice a6 r6.length p6, .slice a7 r7.length p7, .slice a8 r8.length p8]).alloc (.cells #[.int .i64 0, .int .i64 0, .int .i64 0, .slice none 0 0, .slice none 0 0, .int .i64 0, .slice none 0 0, .slice none 0 0, .slice none 0 0] ChanT))
  have hr0 := VarA.new (w.alloc (.cells #[.int .i64 x0, .int .i64 x1, .int .i64 x2, .slice a3 r3.length p3, .slice a4 r4.length p4, .int .i64 x5, .slice a6 r6.length p6, .slice a7 r7.length p7, .slice a8 r8.length p8] ChanT)) ChanT #[.int .i64 0, .int .i64 0, .int .i64 0, .slice none 0 0, .slice none 0 0, .int .i64 0, .slice none 0 0, .slice none 0 0, .slice none 0 0]
  rw [e1] at hr0
  have R0 := Lib.hid hr0
  have B0 := Lib.hid (((Below.refl w.heap.size w).alloc (Nat.le_refl _) (.cells #[.int .i64 x0, .int .i64 x1, .int .i64 x2, .slice a3 r3.length p3, .slice a4 r4.length p4, .int .i64 x5, .slice a6 r6.length p6, .slice a7 r7.length p7, .slice a8 r8.length p8] ChanT)).alloc (by simp) (.cells #[.int .i64 0, .int .i64 0, .int .i64 0, .slice none 0 0, .slice none 0 0, .int .i64 0, .slice none 0 0, .slice none 0 0, .slice none 0 0] ChanT))
  have H3 := Lib.hid h3
  have H4 := Lib.hid h4
  have H6 := Lib.hid h6
  have H7 := Lib.hid h7
  have H8 := Lib.hid h8
  clear h3 h4 h6 h7 h8 hr0 e1
  go_enter Try.func58, Try.ntmps58
  go_upto_region 1 with fail
  generalize (w.alloc (.cells #[.int .i64 x0, .int .i64 x1, .int .i64 x2, .slice a3 r3.length p3, .slice a4 r4.length p4, .int .i64 x5, .slice a6 r6.length p6, .slice a7 r7.length p7, .slice a8 r8.length p8] ChanT)).alloc (.cells #[.int .i64 0, .int .i64 0, .int .i64 0, .slice none 0 0, .slice none 0 0, .int .i64 0, .slice none 0 0, .slice none 0 0, .slice none 0 0] ChanT) = Y0 at *
  have hy0 : w.heap.size + 1 + 1 ≤ Y0.heap.size := R0.out.lt
  have hbl : Below Y0.heap.size Y0 (Y0.alloc (.cells #[] StringT)) := (Below.refl _ _).alloc (Nat.le_refl _) _
  have c3 : (Y0.alloc (.cells #[] StringT)).cell? ⟨w.heap.size, 3, none⟩ = some (.slice a3 r3.length p3) := (A0.out.next hbl).cell 3
  go_upto_region 2 with (at_builtin; refine wpList_copyF (Y0.alloc (.cells #[] StringT)) rfl _ _ 22 rfl Y0.heap.size StringT i_String _ 16 layString flatString Try.underlying22 hi_String hz_String hs_String hb_String rfl (by omega) _ _ _ rfl (flat_lit Y0 _ (Nat.le_refl _)) (fun e => by cases e) _ r3 rfl (layStringS.below H3.out (B0.out.trans (hbl.mono B0.out.size))) (by simp; omega) (by simp) ?_; intro v1 w1 hown1 hnn1 hgr1 hbe1; obtain ⟨g3, k3, rfl, hblk, hg1b, hg1l⟩ := flat_some flatString hown1 hnn1; rw [hblk] at hown1; have A1 := (A0.out.next hbl).keep hbe1 (by omega); have b3 : w1.cell? ⟨w.heap.size, 3, none⟩ = some (.slice a3 r3.length p3) := A1.cell 3; have f3 := A1.free 3)
  replace A0 : Hid (VarA w.heap.size ChanT #[.int .i64 x0, .int .i64 x1, .int .i64 x2, .slice (some ⟨g3, 0, none⟩) r3.length k3, .slice a4 r4.length p4, .int .i64 x5, .slice a6 r6.length p6, .slice a7 r7.length p7, .slice a8 r8.length p8] (w1.setCell ⟨w.heap.size, 3, none⟩ (.slice (some ⟨g3, 0, none⟩) r3.length k3))) := A1.set 3 _
  replace R0 : Hid (VarA (w.heap.size + 1) ChanT #[.int .i64 0, .int .i64 0, .int .i64 0, .slice none 0 0, .slice none 0 0, .int .i64 0, .slice none 0 0, .slice none 0 0, .slice none 0 0] (w1.setCell ⟨w.heap.size, 3, none⟩ (.slice (some ⟨g3, 0, none⟩) r3.length k3))) := ((R0.out.next hbl).keep hbe1 (by omega)).off 3 _ (by omega)
  have O3 : Hid (layStringS.own (w1.setCell ⟨w.heap.size, 3, none⟩ (.slice (some ⟨g3, 0, none⟩) r3.length k3)) w.heap.size [g3] [.slice (some ⟨g3, 0, none⟩) r3.length k3] r3) := layStringS.lower (layStringS.chg hown1 (Chg.cell w1 w.heap.size 3 _) (fun t ht ht2 => by rw [List.mem_singleton] at ht ht2; omega)) (by omega)
  replace B0 : Hid (Below w.heap.size w (w1.setCell ⟨w.heap.size, 3, none⟩ (.slice (some ⟨g3, 0, none⟩) r3.length k3))) := (B0.out.trans ((hbl.trans hbe1).mono (by omega))).setCell (p := ⟨w.heap.size, 3, none⟩) (Nat.le_refl _) _
  have hn3 : w.heap.size + 1 + 1 ≤ g3 := by omega
  have hl3 : g3 < (w1.setCell ⟨w.heap.size, 3, none⟩ (.slice (some ⟨g3, 0, none⟩) r3.length k3)).heap.size := (layStringS.blocks O3.out g3 (by simp)).2
  have hy1 : w.heap.size + 1 + 1 ≤ (w1.setCell ⟨w.heap.size, 3, none⟩ (.slice (some ⟨g3, 0, none⟩) r3.length k3)).heap.size := R0.out.lt
  clear hbl c3 hown1 hnn1 hgr1 hbe1 hblk A1 b3 f3 hg1b hg1l hy0
  generalize (w1.setCell ⟨w.heap.size, 3, none⟩ (.slice (some ⟨g3, 0, none⟩) r3.length k3)) = Y1 at *
  generalize Y0.heap.size = gy0 at *
  clear w1 Y0
  have hbl : Below Y1.heap.size Y1 (Y1.alloc (.cells #[] PendingT)) := (Below.refl _ _).alloc (Nat.le_refl _) _
  have c4 : (Y1.alloc (.cells #[] PendingT)).cell? ⟨w.heap.size, 4, none⟩ = some (.slice a4 r4.length p4) := (A0.out.next hbl).cell 4
  go_upto_region 3 with (at_builtin; refine wpList_copyF (Y1.alloc (.cells #[] PendingT)) rfl _ _ 23 rfl Y1.heap.size PendingT i_Pending _ 40 layPending flatPending Try.underlying23 hi_Pending hz_Pending hs_Pending hb_Pending rfl (by omega) _ _ _ rfl (flat_lit Y1 _ (Nat.le_refl _)) (fun e => by cases e) _ r4 rfl (layPendingS.below H4.out (B0.out.trans (hbl.mono B0.out.size))) (by simp; omega) (by simp) ?_; intro v1 w1 hown1 hnn1 hgr1 hbe1; obtain ⟨g4, k4, rfl, hblk, hg1b, hg1l⟩ := flat_some flatPending hown1 hnn1; rw [hblk] at hown1; have A1 := (A0.out.next hbl).keep hbe1 (by omega); have b4 : w1.cell? ⟨w.heap.size, 4, none⟩ = some (.slice a4 r4.length p4) := A1.cell 4; have f4 := A1.free 4)
  replace A0 : Hid (VarA w.heap.size ChanT #[.int .i64 x0, .int .i64 x1, .int .i64 x2, .slice (some ⟨g3, 0, none⟩) r3.length k3, .slice (some ⟨g4, 0, none⟩) r4.length k4, .int .i64 x5, .slice a6 r6.length p6, .slice a7 r7.length p7, .slice a8 r8.length p8] (w1.setCell ⟨w.heap.size, 4, none⟩ (.slice (some ⟨g4, 0, none⟩) r4.length k4))) := A1.set 4 _
  replace R0 : Hid (VarA (w.heap.size + 1) ChanT #[.int .i64 0, .int .i64 0, .int .i64 0, .slice none 0 0, .slice none 0 0, .int .i64 0, .slice none 0 0, .slice none 0 0, .slice none 0 0] (w1.setCell ⟨w.heap.size, 4, none⟩ (.slice (some ⟨g4, 0, none⟩) r4.length k4))) := ((R0.out.next hbl).keep hbe1 (by omega)).off 4 _ (by omega)
  have LT3_4 : g3 < g4 := by omega
  replace O3 : Hid (layStringS.own (w1.setCell ⟨w.heap.size, 4, none⟩ (.slice (some ⟨g4, 0, none⟩) r4.length k4)) w.heap.size [g3] [.slice (some ⟨g3, 0, none⟩) r3.length k3] r3) := layStringS.chg (layStringS.next O3.out (hbl.trans hbe1)) (Chg.cell w1 w.heap.size 4 _) (fun t ht ht2 => by rw [List.mem_singleton] at ht ht2; omega)
  have O4 : Hid (layPendingS.own (w1.setCell ⟨w.heap.size, 4, none⟩ (.slice (some ⟨g4, 0, none⟩) r4.length k4)) w.heap.size [g4] [.slice (some ⟨g4, 0, none⟩) r4.length k4] r4) := layPendingS.lower (layPendingS.chg hown1 (Chg.cell w1 w.heap.size 4 _) (fun t ht ht2 => by rw [List.mem_singleton] at ht ht2; omega)) (by omega)
  replace B0 : Hid (Below w.heap.size w (w1.setCell ⟨w.heap.size, 4, none⟩ (.slice (some ⟨g4, 0, none⟩) r4.length k4))) := (B0.out.trans ((hbl.trans hbe1).mono (by omega))).setCell (p := ⟨w.heap.size, 4, none⟩) (Nat.le_refl _) _
  have hn4 : w.heap.size + 1 + 1 ≤ g4 := by omega
  have hl4 : g4 < (w1.setCell ⟨w.heap.size, 4, none⟩ (.slice (some ⟨g4, 0, none⟩) r4.length k4)).heap.size := (layPendingS.blocks O4.out g4 (by simp)).2
  clear hl3
  have hy2 : w.heap.size + 1 + 1 ≤ (w1.setCell ⟨w.heap.size, 4, none⟩ (.slice (some ⟨g4, 0, none⟩) r4.length k4)).heap.size := R0.out.lt
  clear hbl c4 hown1 hnn1 hgr1 hbe1 hblk A1 b4 f4 hg1b hg1l hy1
  generalize (w1.setCell ⟨w.heap.size, 4, none⟩ (.slice (some ⟨g4, 0, none⟩) r4.length k4)) = Y2 at *
  generalize Y1.heap.size = gy1 at *
  clear w1 Y1
  have hbl : Below Y2.heap.size Y2 (Y2.alloc (.cells #[] EarlyT)) := (Below.refl _ _).alloc (Nat.le_refl _) _
  have c6 : (Y2.alloc (.cells #[] EarlyT)).cell? ⟨w.heap.size, 6, none⟩ = some (.slice a6 r6.length p6) := (A0.out.next hbl).cell 6
  go_upto_region 4 with (at_builtin; refine wpList_copyF (Y2.alloc (.cells #[] EarlyT)) rfl _ _ 24 rfl Y2.heap.size EarlyT i_Early _ 24 layEarly flatEarly Try.underlying24 hi_Early hz_Early hs_Early hb_Early rfl (by omega) _ _ _ rfl (flat_lit Y2 _ (Nat.le_refl _)) (fun e => by cases e) _ r6 rfl (layEarlyS.below H6.out (B0.out.trans (hbl.mono B0.out.size))) (by simp; omega) (by simp) ?_; intro v1 w1 hown1 hnn1 hgr1 hbe1; obtain ⟨g6, k6, rfl, hblk, hg1b, hg1l⟩ := flat_some flatEarly hown1 hnn1; rw [hblk] at hown1; have A1 := (A0.out.next hbl).keep hbe1 (by omega); have b6 : w1.cell? ⟨w.heap.size, 6, none⟩ = some (.slice a6 r6.length p6) := A1.cell 6; have f6 := A1.free 6)
  replace A0 : Hid (VarA w.heap.size ChanT #[.int .i64 x0, .int .i64 x1, .int .i64 x2, .slice (some ⟨g3, 0, none⟩) r3.length k3, .slice (some ⟨g4, 0, none⟩) r4.length k4, .int .i64 x5, .slice (some ⟨g6, 0, none⟩) r6.length k6, .slice a7 r7.length p7, .slice a8 r8.length p8] (w1.setCell ⟨w.heap.size, 6, none⟩ (.slice (some ⟨g6, 0, none⟩) r6.length k6))) := A1.set 6 _
  replace R0 : Hid (VarA (w.heap.size + 1) ChanT #[.int .i64 0, .int .i64 0, .int .i64 0, .slice none 0 0, .slice none 0 0, .int .i64 0, .slice none 0 0, .slice none 0 0, .slice none 0 0] (w1.setCell ⟨w.heap.size, 6, none⟩ (.slice (some ⟨g6, 0, none⟩) r6.length k6))) := ((R0.out.next hbl).keep hbe1 (by omega)).off 6 _ (by omega)
  have LT4_6 : g4 < g6 := by omega
  replace O3 : Hid (layStringS.own (w1.setCell ⟨w.heap.size, 6, none⟩ (.slice (some ⟨g6, 0, none⟩) r6.length k6)) w.heap.size [g3] [.slice (some ⟨g3, 0, none⟩) r3.length k3] r3) := layStringS.chg (layStringS.next O3.out (hbl.trans hbe1)) (Chg.cell w1 w.heap.size 6 _) (fun t ht ht2 => by rw [List.mem_singleton] at ht ht2; omega)
  replace O4 : Hid (layPendingS.own (w1.setCell ⟨w.heap.size, 6, none⟩ (.slice (some ⟨g6, 0, none⟩) r6.length k6)) w.heap.size [g4] [.slice (some ⟨g4, 0, none⟩) r4.length k4] r4) := layPendingS.chg (layPendingS.next O4.out (hbl.trans hbe1)) (Chg.cell w1 w.heap.size 6 _) (fun t ht ht2 => by rw [List.mem_singleton] at ht ht2; omega)
  have O6 : Hid (layEarlyS.own (w1.setCell ⟨w.heap.size, 6, none⟩ (.slice (some ⟨g6, 0, none⟩) r6.length k6)) w.heap.size [g6] [.slice (some ⟨g6, 0, none⟩) r6.length k6] r6) := layEarlyS.lower (layEarlyS.chg hown1 (Chg.cell w1 w.heap.size 6 _) (fun t ht ht2 => by rw [List.mem_singleton] at ht ht2; omega)) (by omega)
  replace B0 : Hid (Below w.heap.size w (w1.setCell ⟨w.heap.size, 6, none⟩ (.slice (some ⟨g6, 0, none⟩) r6.length k6))) := (B0.out.trans ((hbl.trans hbe1).mono (by omega))).setCell (p := ⟨w.heap.size, 6, none⟩) (Nat.le_refl _) _
  have hn6 : w.heap.size + 1 + 1 ≤ g6 := by omega
  have hl6 : g6 < (w1.setCell ⟨w.heap.size, 6, none⟩ (.slice (some ⟨g6, 0, none⟩) r6.length k6)).heap.size := (layEarlyS.blocks O6.out g6 (by simp)).2
  clear hl4
  have hy3 : w.heap.size + 1 + 1 ≤ (w1.setCell ⟨w.heap.size, 6, none⟩ (.slice (some ⟨g6, 0, none⟩) r6.length k6)).heap.size := R0.out.lt
  clear hbl c6 hown1 hnn1 hgr1 hbe1 hblk A1 b6 f6 hg1b hg1l hy2
  generalize (w1.setCell ⟨w.heap.size, 6, none⟩ (.slice (some ⟨g6, 0, none⟩) r6.length k6)) = Y3 at *
  generalize Y2.heap.size = gy2 at *
  clear w1 Y2
  have hbl : Below Y3.heap.size Y3 (Y3.alloc (.cells #[] 3)) := (Below.refl _ _).alloc (Nat.le_refl _) _
  have c7 : (Y3.alloc (.cells #[] 3)).cell? ⟨w.heap.size, 7, none⟩ = some (.slice a7 r7.length p7) := (A0.out.next hbl).cell 7
  go_upto_region 5 with (at_builtin; refine wpList_copyF (Y3.alloc (.cells #[] 3)) rfl _ _ 25 rfl Y3.heap.size 3 i_Int _ 8 Lay.int flatIntP Try.underlying25 hi_Int hz_Int hs_Int hb_Int rfl (by omega) _ _ _ rfl (flat_lit Y3 _ (Nat.le_refl _)) (fun e => by cases e) _ r7 rfl (layIntS.below H7.out (B0.out.trans (hbl.mono B0.out.size))) (by simp; omega) (by simp) ?_; intro v1 w1 hown1 hnn1 hgr1 hbe1; obtain ⟨g7, k7, rfl, hblk, hg1b, hg1l⟩ := flat_some flatIntP hown1 hnn1; rw [hblk] at hown1; have A1 := (A0.out.next hbl).keep hbe1 (by omega); have b7 : w1.cell? ⟨w.heap.size, 7, none⟩ = some (.slice a7 r7.length p7) := A1.cell 7; have f7 := A1.free 7)
  replace A0 : Hid (VarA w.heap.size ChanT #[.int .i64 x0, .int .i64 x1, .int .i64 x2, .slice (some ⟨g3, 0, none⟩) r3.length k3, .slice (some ⟨g4, 0, none⟩) r4.length k4, .int .i64 x5, .slice (some ⟨g6, 0, none⟩) r6.length k6, .slice (some ⟨g7, 0, none⟩) r7.length k7, .slice a8 r8.length p8] (w1.setCell ⟨w.heap.size, 7, none⟩ (.slice (some ⟨g7, 0, none⟩) r7.length k7))) := A1.set 7 _
  replace R0 : Hid (VarA (w.heap.size + 1) ChanT #[.int .i64 0, .int .i64 0, .int .i64 0, .slice none 0 0, .slice none 0 0, .int .i64 0, .slice none 0 0, .slice none 0 0, .slice none 0 0] (w1.setCell ⟨w.heap.size, 7, none⟩ (.slice (some ⟨g7, 0, none⟩) r7.length k7))) := ((R0.out.next hbl).keep hbe1 (by omega)).off 7 _ (by omega)
  have LT6_7 : g6 < g7 := by omega
  replace O3 : Hid (layStringS.own (w1.setCell ⟨w.heap.size, 7, none⟩ (.slice (some ⟨g7, 0, none⟩) r7.length k7)) w.heap.size [g3] [.slice (some ⟨g3, 0, none⟩) r3.length k3] r3) := layStringS.chg (layStringS.next O3.out (hbl.trans hbe1)) (Chg.cell w1 w.heap.size 7 _) (fun t ht ht2 => by rw [List.mem_singleton] at ht ht2; omega)
  replace O4 : Hid (layPendingS.own (w1.setCell ⟨w.heap.size, 7, none⟩ (.slice (some ⟨g7, 0, none⟩) r7.length k7)) w.heap.size [g4] [.slice (some ⟨g4, 0, none⟩) r4.length k4] r4) := layPendingS.chg (layPendingS.next O4.out (hbl.trans hbe1)) (Chg.cell w1 w.heap.size 7 _) (fun t ht ht2 => by rw [List.mem_singleton] at ht ht2; omega)
  replace O6 : Hid (layEarlyS.own (w1.setCell ⟨w.heap.size, 7, none⟩ (.slice (some ⟨g7, 0, none⟩) r7.length k7)) w.heap.size [g6] [.slice (some ⟨g6, 0, none⟩) r6.length k6] r6) := layEarlyS.chg (layEarlyS.next O6.out (hbl.trans hbe1)) (Chg.cell w1 w.heap.size 7 _) (fun t ht ht2 => by rw [List.mem_singleton] at ht ht2; omega)
  have O7 : Hid (layIntS.own (w1.setCell ⟨w.heap.size, 7, none⟩ (.slice (some ⟨g7, 0, none⟩) r7.length k7)) w.heap.size [g7] [.slice (some ⟨g7, 0, none⟩) r7.length k7] r7) := layIntS.lower (layIntS.chg hown1 (Chg.cell w1 w.heap.size 7 _) (fun t ht ht2 => by rw [List.mem_singleton] at ht ht2; omega)) (by omega)
  replace B0 : Hid (Below w.heap.size w (w1.setCell ⟨w.heap.size, 7, none⟩ (.slice (some ⟨g7, 0, none⟩) r7.length k7))) := (B0.out.trans ((hbl.trans hbe1).mono (by omega))).setCell (p := ⟨w.heap.size, 7, none⟩) (Nat.le_refl _) _
  have hn7 : w.heap.size + 1 + 1 ≤ g7 := by omega
  have hl7 : g7 < (w1.setCell ⟨w.heap.size, 7, none⟩ (.slice (some ⟨g7, 0, none⟩) r7.length k7)).heap.size := (layIntS.blocks O7.out g7 (by simp)).2
  clear hl6
  have hy4 : w.heap.size + 1 + 1 ≤ (w1.setCell ⟨w.heap.size, 7, none⟩ (.slice (some ⟨g7, 0, none⟩) r7.length k7)).heap.size := R0.out.lt
  clear hbl c7 hown1 hnn1 hgr1 hbe1 hblk A1 b7 f7 hg1b hg1l hy3
  generalize (w1.setCell ⟨w.heap.size, 7, none⟩ (.slice (some ⟨g7, 0, none⟩) r7.length k7)) = Y4 at *
  generalize Y3.heap.size = gy3 at *
  clear w1 Y3
  have hbl : Below Y4.heap.size Y4 (Y4.alloc (.cells #[] StringT)) := (Below.refl _ _).alloc (Nat.le_refl _) _
  have c8 : (Y4.alloc (.cells #[] StringT)).cell? ⟨w.heap.size, 8, none⟩ = some (.slice a8 r8.length p8) := (A0.out.next hbl).cell 8
  go_upto_region 6 with (at_builtin; refine wpList_copyF (Y4.alloc (.cells #[] StringT)) rfl _ _ 22 rfl Y4.heap.size StringT i_String _ 16 layString flatString Try.underlying22 hi_String hz_String hs_String hb_String rfl (by omega) _ _ _ rfl (flat_lit Y4 _ (Nat.le_refl _)) (fun e => by cases e) _ r8 rfl (layStringS.below H8.out (B0.out.trans (hbl.mono B0.out.size))) (by simp; omega) (by simp) ?_; intro v1 w1 hown1 hnn1 hgr1 hbe1; obtain ⟨g8, k8, rfl, hblk, hg1b, hg1l⟩ := flat_some flatString hown1 hnn1; rw [hblk] at hown1; have A1 := (A0.out.next hbl).keep hbe1 (by omega); have b8 : w1.cell? ⟨w.heap.size, 8, none⟩ = some (.slice a8 r8.length p8) := A1.cell 8; have f8 := A1.free 8)
  replace A0 : Hid (VarA w.heap.size ChanT #[.int .i64 x0, .int .i64 x1, .int .i64 x2, .slice (some ⟨g3, 0, none⟩) r3.length k3, .slice (some ⟨g4, 0, none⟩) r4.length k4, .int .i64 x5, .slice (some ⟨g6, 0, none⟩) r6.length k6, .slice (some ⟨g7, 0, none⟩) r7.length k7, .slice (some ⟨g8, 0, none⟩) r8.length k8] (w1.setCell ⟨w.heap.size, 8, none⟩ (.slice (some ⟨g8, 0, none⟩) r8.length k8))) := A1.set 8 _
  replace R0 : Hid (VarA (w.heap.size + 1) ChanT #[.int .i64 0, .int .i64 0, .int .i64 0, .slice none 0 0, .slice none 0 0, .int .i64 0, .slice none 0 0, .slice none 0 0, .slice none 0 0] (w1.setCell ⟨w.heap.size, 8, none⟩ (.slice (some ⟨g8, 0, none⟩) r8.length k8))) := ((R0.out.next hbl).keep hbe1 (by omega)).off 8 _ (by omega)
  have LT7_8 : g7 < g8 := by omega
  replace O3 : Hid (layStringS.own (w1.setCell ⟨w.heap.size, 8, none⟩ (.slice (some ⟨g8, 0, none⟩) r8.length k8)) w.heap.size [g3] [.slice (some ⟨g3, 0, none⟩) r3.length k3] r3) := layStringS.chg (layStringS.next O3.out (hbl.trans hbe1)) (Chg.cell w1 w.heap.size 8 _) (fun t ht ht2 => by rw [List.mem_singleton] at ht ht2; omega)
  replace O4 : Hid (layPendingS.own (w1.setCell ⟨w.heap.size, 8, none⟩ (.slice (some ⟨g8, 0, none⟩) r8.length k8)) w.heap.size [g4] [.slice (some ⟨g4, 0, none⟩) r4.length k4] r4) := layPendingS.chg (layPendingS.next O4.out (hbl.trans hbe1)) (Chg.cell w1 w.heap.size 8 _) (fun t ht ht2 => by rw [List.mem_singleton] at ht ht2; omega)
  replace O6 : Hid (layEarlyS.own (w1.setCell ⟨w.heap.size, 8, none⟩ (.slice (some ⟨g8, 0, none⟩) r8.length k8)) w.heap.size [g6] [.slice (some ⟨g6, 0, none⟩) r6.length k6] r6) := layEarlyS.chg (layEarlyS.next O6.out (hbl.trans hbe1)) (Chg.cell w1 w.heap.size 8 _) (fun t ht ht2 => by rw [List.mem_singleton] at ht ht2; omega)
  replace O7 : Hid (layIntS.own (w1.setCell ⟨w.heap.size, 8, none⟩ (.slice (some ⟨g8, 0, none⟩) r8.length k8)) w.heap.size [g7] [.slice (some ⟨g7, 0, none⟩) r7.length k7] r7) := layIntS.chg (layIntS.next O7.out (hbl.trans hbe1)) (Chg.cell w1 w.heap.size 8 _) (fun t ht ht2 => by rw [List.mem_singleton] at ht ht2; omega)
  have O8 : Hid (layStringS.own (w1.setCell ⟨w.heap.size, 8, none⟩ (.slice (some ⟨g8, 0, none⟩) r8.length k8)) w.heap.size [g8] [.slice (some ⟨g8, 0, none⟩) r8.length k8] r8) := layStringS.lower (layStringS.chg hown1 (Chg.cell w1 w.heap.size 8 _) (fun t ht ht2 => by rw [List.mem_singleton] at ht ht2; omega)) (by omega)
  replace B0 : Hid (Below w.heap.size w (w1.setCell ⟨w.heap.size, 8, none⟩ (.slice (some ⟨g8, 0, none⟩) r8.length k8))) := (B0.out.trans ((hbl.trans hbe1).mono (by omega))).setCell (p := ⟨w.heap.size, 8, none⟩) (Nat.le_refl _) _
  have hn8 : w.heap.size + 1 + 1 ≤ g8 := by omega
  have hl8 : g8 < (w1.setCell ⟨w.heap.size, 8, none⟩ (.slice (some ⟨g8, 0, none⟩) r8.length k8)).heap.size := (layStringS.blocks O8.out g8 (by simp)).2
  clear hl7
  have hy5 : w.heap.size + 1 + 1 ≤ (w1.setCell ⟨w.heap.size, 8, none⟩ (.slice (some ⟨g8, 0, none⟩) r8.length k8)).heap.size := R0.out.lt
  clear hbl c8 hown1 hnn1 hgr1 hbe1 hblk A1 b8 f8 hg1b hg1l hy4
  generalize (w1.setCell ⟨w.heap.size, 8, none⟩ (.slice (some ⟨g8, 0, none⟩) r8.length k8)) = Y5 at *
  generalize Y4.heap.size = gy4 at *
  clear w1 Y4
  have k0_ : Y5.cell? ⟨w.heap.size, 0, none⟩ = some (.int .i64 x0) := A0.out.cell 0
  have m0 : Y5.cell? ⟨w.heap.size + 1, 0, none⟩ = some (.int .i64 0) := R0.out.cell 0
  have n0 := R0.out.free 0
  have k1_ : Y5.cell? ⟨w.heap.size, 1, none⟩ = some (.int .i64 x1) := A0.out.cell 1
  have m1 : Y5.cell? ⟨w.heap.size + 1, 1, none⟩ = some (.int .i64 0) := R0.out.cell 1
  have n1 := R0.out.free 1
  have k2_ : Y5.cell? ⟨w.heap.size, 2, none⟩ = some (.int .i64 x2) := A0.out.cell 2
  have m2 : Y5.cell? ⟨w.heap.size + 1, 2, none⟩ = some (.int .i64 0) := R0.out.cell 2
  have n2 := R0.out.free 2
  have k3_ : Y5.cell? ⟨w.heap.size, 3, none⟩ = some (.slice (some ⟨g3, 0, none⟩) r3.length k3) := A0.out.cell 3
  have m3 : Y5.cell? ⟨w.heap.size + 1, 3, none⟩ = some (.slice none 0 0) := R0.out.cell 3
  have n3 := R0.out.free 3
  have k4_ : Y5.cell? ⟨w.heap.size, 4, none⟩ = some (.slice (some ⟨g4, 0, none⟩) r4.length k4) := A0.out.cell 4
  have m4 : Y5.cell? ⟨w.heap.size + 1, 4, none⟩ = some (.slice none 0 0) := R0.out.cell 4
  have n4 := R0.out.free 4
  have k5_ : Y5.cell? ⟨w.heap.size, 5, none⟩ = some (.int .i64 x5) := A0.out.cell 5
  have m5 : Y5.cell? ⟨w.heap.size + 1, 5, none⟩ = some (.int .i64 0) := R0.out.cell 5
  have n5 := R0.out.free 5
  have k6_ : Y5.cell? ⟨w.heap.size, 6, none⟩ = some (.slice (some ⟨g6, 0, none⟩) r6.length k6) := A0.out.cell 6
  have m6 : Y5.cell? ⟨w.heap.size + 1, 6, none⟩ = some (.slice none 0 0) := R0.out.cell 6
  have n6 := R0.out.free 6
  have k7_ : Y5.cell? ⟨w.heap.size, 7, none⟩ = some (.slice (some ⟨g7, 0, none⟩) r7.length k7) := A0.out.cell 7
  have m7 : Y5.cell? ⟨w.heap.size + 1, 7, none⟩ = some (.slice none 0 0) := R0.out.cell 7
  have n7 := R0.out.free 7
  have k8_ : Y5.cell? ⟨w.heap.size, 8, none⟩ = some (.slice (some ⟨g8, 0, none⟩) r8.length k8) := A0.out.cell 8
  have m8 : Y5.cell? ⟨w.heap.size + 1, 8, none⟩ = some (.slice none 0 0) := R0.out.cell 8
  have n8 := R0.out.free 8
  have RS := (((((((((R0.out.set 0 (.int .i64 x0)).set 1 (.int .i64 x1)).set 2 (.int .i64 x2)).set 3 (.slice (some ⟨g3, 0, none⟩) r3.length k3)).set 4 (.slice (some ⟨g4, 0, none⟩) r4.length k4)).set 5 (.int .i64 x5)).set 6 (.slice (some ⟨g6, 0, none⟩) r6.length k6)).set 7 (.slice (some ⟨g7, 0, none⟩) r7.length k7)).set 8 (.slice (some ⟨g8, 0, none⟩) r8.length k8))
  have CS : Chg [w.heap.size + 1] Y5 (((((((((Y5.setCell ⟨w.heap.size + 1, 0, none⟩ (.int .i64 x0)).setCell ⟨w.heap.size + 1, 1, none⟩ (.int .i64 x1)).setCell ⟨w.heap.size + 1, 2, none⟩ (.int .i64 x2)).setCell ⟨w.heap.size + 1, 3, none⟩ (.slice (some ⟨g3, 0, none⟩) r3.length k3)).setCell ⟨w.heap.size + 1, 4, none⟩ (.slice (some ⟨g4, 0, none⟩) r4.length k4)).setCell ⟨w.heap.size + 1, 5, none⟩ (.int .i64 x5)).setCell ⟨w.heap.size + 1, 6, none⟩ (.slice (some ⟨g6, 0, none⟩) r6.length k6)).setCell ⟨w.heap.size + 1, 7, none⟩ (.slice (some ⟨g7, 0, none⟩) r7.length k7)).setCell ⟨w.heap.size + 1, 8, none⟩ (.slice (some ⟨g8, 0, none⟩) r8.length k8)) := (((((((((Chg.cell _ _ _ _).trans (Chg.cell _ _ _ _)).trans (Chg.cell _ _ _ _)).trans (Chg.cell _ _ _ _)).trans (Chg.cell _ _ _ _)).trans (Chg.cell _ _ _ _)).trans (Chg.cell _ _ _ _)).trans (Chg.cell _ _ _ _)).trans (Chg.cell _ _ _ _))
  have j0 := RS.cell 0
  have j1 := RS.cell 1
  have j2 := RS.cell 2
  have j3 := RS.cell 3
  have j4 := RS.cell 4
  have j5 := RS.cell 5
  have j6 := RS.cell 6
  have j7 := RS.cell 7
  have j8 := RS.cell 8
  have HE : Hid (ChanCopied x0 x1 x2 r3 r4 x5 r6 r7 r8 w (.returned (.agg #[.int .i64 x0, .int .i64 x1, .int .i64 x2, .slice (some ⟨g3, 0, none⟩) r3.length k3, .slice (some ⟨g4, 0, none⟩) r4.length k4, .int .i64 x5, .slice (some ⟨g6, 0, none⟩) r6.length k6, .slice (some ⟨g7, 0, none⟩) r7.length k7, .slice (some ⟨g8, 0, none⟩) r8.length k8])) (((((((((Y5.setCell ⟨w.heap.size + 1, 0, none⟩ (.int .i64 x0)).setCell ⟨w.heap.size + 1, 1, none⟩ (.int .i64 x1)).setCell ⟨w.heap.size + 1, 2, none⟩ (.int .i64 x2)).setCell ⟨w.heap.size + 1, 3, none⟩ (.slice (some ⟨g3, 0, none⟩) r3.length k3)).setCell ⟨w.heap.size + 1, 4, none⟩ (.slice (some ⟨g4, 0, none⟩) r4.length k4)).setCell ⟨w.heap.size + 1, 5, none⟩ (.int .i64 x5)).setCell ⟨w.heap.size + 1, 6, none⟩ (.slice (some ⟨g6, 0, none⟩) r6.length k6)).setCell ⟨w.heap.size + 1, 7, none⟩ (.slice (some ⟨g7, 0, none⟩) r7.length k7)).setCell ⟨w.heap.size + 1, 8, none⟩ (.slice (some ⟨g8, 0, none⟩) r8.length k8))) :=
    ⟨g3, k3, g4, k4, g6, k6, g7, k7, g8, k8, rfl, ⟨layStringS.chg O3.out CS (fun t ht ht2 => by rw [List.mem_singleton] at ht ht2; omega), layPendingS.chg O4.out CS (fun t ht ht2 => by rw [List.mem_singleton] at ht ht2; omega), layEarlyS.chg O6.out CS (fun t ht ht2 => by rw [List.mem_singleton] at ht ht2; omega), layIntS.chg O7.out CS (fun t ht ht2 => by rw [List.mem_singleton] at ht ht2; omega), layStringS.chg O8.out CS (fun t ht ht2 => by rw [List.mem_singleton] at ht ht2; omega)⟩, ⟨LT3_4, LT4_6, LT6_7, LT7_8⟩, B0.out.trans (CS.below (fun t ht => by rw [List.mem_singleton] at ht; omega) B0.out.size)⟩
  go_wp2_with fail
  exact bodyPost_ret (v := .agg #[.int .i64 x0, .int .i64 x1, .int .i64 x2, .slice (some ⟨g3, 0, none⟩) r3.length k3, .slice (some ⟨g4, 0, none⟩) r4.length k4, .int .i64 x5, .slice (some ⟨g6, 0, none⟩) r6.length k6, .slice (some ⟨g7, 0, none⟩) r7.length k7, .slice (some ⟨g8, 0, none⟩) r8.length k8]) (by simp [results, Try.results58, go_sem, j0, j1, j2, j3, j4, j5, j6, j7, j8]) rfl HE.out

end Go.Proofs.Ythljmjbmmgligar
