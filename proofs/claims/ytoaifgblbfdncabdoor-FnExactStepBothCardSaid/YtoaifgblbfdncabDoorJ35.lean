/-
  The program's NextKeys.
  The program's StepBoth.
-/
import Derived.Test.YtoaifgblbfdncabDoorJ28
import Derived.Test.YtoaifgblbfdncabDoorJ34
import Derived.Test.YtoaifgblbfdncabDoorJ20
namespace Go.Proofs.YtoaifgblbfdncabDoor
open Go.RowKit

set_option maxRecDepth 100000 in
set_option maxHeartbeats 800000 in
theorem implNextKeys_any (a b : ByteArray) (ha : a.size ≤ 400000000) (hb : b.size ≤ 400000000) (w : World) (ht : LaidK w) :
    Calls Tryd.prog 24 #[.string a, .string b] w fun e w' => e = .returned (.tuple #[.string (nextK a), .string (nextK b)]) ∧ Below w.heap.size w w' := by
  have e1 : (⟨#[107]⟩ : ByteArray).size = 1 := rfl
  have H1 := Lib.hid (implDigP_any (a ++ ⟨#[107]⟩) (by rw [ByteArray.size_append, e1]; omega))
  have H2 := Lib.hid (implDigP_any (b ++ ⟨#[107]⟩) (by rw [ByteArray.size_append, e1]; omega))
  have k1 : ¬ (9223372036854775807 < a.size + 1) := by omega
  have k2 : ¬ (9223372036854775807 < b.size + 1) := by omega
  have D1 : Hid (nextK a = digP (a ++ ⟨#[107]⟩)) := Lib.hid rfl
  have D2 : Hid (nextK b = digP (b ++ ⟨#[107]⟩)) := Lib.hid rfl
  rw [← D1.out] at H1
  rw [← D2.out] at H2
  have HT := Lib.hid ht
  clear e1 D1 D2 ht
  generalize nextK a = na at *
  generalize nextK b = nb at *
  go_enter Tryd.func24, Tryd.ntmps24
  go_wp2_with fail
  refine (H1.out _ HT.out).mono ?_
  rintro e w1 ⟨rfl, hb1⟩
  have B1 := Lib.hid hb1
  have HT1 := Lib.hid (HT.out.stays hb1 (Nat.le_refl _))
  clear hb1
  go_wp2_with fail
  refine (H2.out _ HT1.out).mono ?_
  rintro e w2 ⟨rfl, hb2⟩
  have B2 := Lib.hid (B1.out.trans (hb2.mono B1.out.size))
  clear hb2
  go_wp2_with fail
  go_ret2
  exact ⟨rfl, B2.out⟩

end Go.Proofs.YtoaifgblbfdncabDoor
namespace Go.Proofs.YtoaifgblbfdncabDoor
open Go.RowKit

set_option maxRecDepth 100000 in
set_option maxHeartbeats 3200000 in
theorem implStepBoth_gen (x0 : Int) (x1 x2 : ByteArray) (x3 : Int) (v4 : Value) (r4 : List Int) (x5 : Int) (y0 : Int) (y1 y2 : ByteArray) (y3 : Int) (u4 : Value) (s4 : List Int) (y5 : Int) (now : Int) (l1 : x1.size ≤ 1048576) (l2 : x2.size ≤ 1048576) (l3 : y1.size ≤ 1048576) (l4 : y2.size ≤ 1048576) (hl : r4.length ≤ 10000000) (hk : s4.length ≤ 10000000) (gx : ∀ x ∈ r4, IntZ x) (gy : ∀ x ∈ s4, IntZ x) (w : World) (ht : LaidK w) (h : layIntS.rd w [v4] r4) (k : layIntS.rd w [u4] s4) :
    Calls Tryd.prog 13 #[.agg #[.int .i64 x0, .string x1, .string x2, .int .i64 x3, v4, .int .i64 x5, .int .i64 y0, .string y1, .string y2, .int .i64 y3, u4, .int .i64 y5], .int .i64 now] w (InstallEnd x0 x1 x2 x3 r4 x5 y0 y1 y2 y3 s4 y5 (nextK x1) (nextK x2) now w) := by
  obtain ⟨a4, p4, rfl⟩ := rows_form h
  obtain ⟨b4, q4, rfl⟩ := rows_form k
  have e1 : (w.alloc (.cells #[.int .i64 x0, .string x1, .string x2, .int .i64 x3, .slice a4 r4.length p4, .int .i64 x5, .int .i64 y0, .string y1, .string y2, .int .i64 y3, .slice b4 s4.length q4, .int .i64 y5] SlotsT)).heap.size = w.heap.size + 1 := by simp
  have h2 := VarA.new (w.alloc (.cells #[.int .i64 x0, .string x1, .string x2, .int .i64 x3, .slice a4 r4.length p4, .int .i64 x5, .int .i64 y0, .string y1, .string y2, .int .i64 y3, .slice b4 s4.length q4, .int .i64 y5] SlotsT)) SlotsT #[.int .i64 0, .string ⟨#[]⟩, .string ⟨#[]⟩, .int .i64 0, .slice none 0 0, .int .i64 0, .int .i64 0, .string ⟨#[]⟩, .string ⟨#[]⟩, .int .i64 0, .slice none 0 0, .int .i64 0]
  rw [e1] at h2
  have A0 := Lib.hid ((VarA.new w SlotsT #[.int .i64 x0, .string x1, .string x2, .int .i64 x3, .slice a4 r4.length p4, .int .i64 x5, .int .i64 y0, .string y1, .string y2, .int .i64 y3, .slice b4 s4.length q4, .int .i64 y5]).alloc (.cells #[.int .i64 0, .string ⟨#[]⟩, .string ⟨#[]⟩, .int .i64 0, .slice none 0 0, .int .i64 0, .int .i64 0, .string ⟨#[]⟩, .string ⟨#[]⟩, .int .i64 0, .slice none 0 0, .int .i64 0] SlotsT))
  have A1 := Lib.hid h2
  have BY := Lib.hid (((Below.refl w.heap.size w).alloc (Nat.le_refl _) (.cells #[.int .i64 x0, .string x1, .string x2, .int .i64 x3, .slice a4 r4.length p4, .int .i64 x5, .int .i64 y0, .string y1, .string y2, .int .i64 y3, .slice b4 s4.length q4, .int .i64 y5] SlotsT)).alloc (by simp) (.cells #[.int .i64 0, .string ⟨#[]⟩, .string ⟨#[]⟩, .int .i64 0, .slice none 0 0, .int .i64 0, .int .i64 0, .string ⟨#[]⟩, .string ⟨#[]⟩, .int .i64 0, .slice none 0 0, .int .i64 0] SlotsT))
  have hz : Hid (w.heap.size + 2 ≤ ((w.alloc (.cells #[.int .i64 x0, .string x1, .string x2, .int .i64 x3, .slice a4 r4.length p4, .int .i64 x5, .int .i64 y0, .string y1, .string y2, .int .i64 y3, .slice b4 s4.length q4, .int .i64 y5] SlotsT)).alloc (.cells #[.int .i64 0, .string ⟨#[]⟩, .string ⟨#[]⟩, .int .i64 0, .slice none 0 0, .int .i64 0, .int .i64 0, .string ⟨#[]⟩, .string ⟨#[]⟩, .int .i64 0, .slice none 0 0, .int .i64 0] SlotsT)).heap.size) := Lib.hid (by simp)
  have HR := Lib.hid h
  have HK := Lib.hid k
  have HN := Lib.hid (implNextKeys_any x1 x2 (by omega) (by omega))
  have HT := Lib.hid ht
  have zn1 : (nextK x1).size ≤ 10000000 := by rw [show (nextK x1).size = 32 from digP_size _]; omega
  have zn2 : (nextK x2).size ≤ 10000000 := by rw [show (nextK x2).size = 32 from digP_size _]; omega
  clear h k h2 e1 ht
  obtain ⟨Q, HQ⟩ : ∃ Q : Ending → World → Prop, Hid (Q = InstallEnd x0 x1 x2 x3 r4 x5 y0 y1 y2 y3 s4 y5 (nextK x1) (nextK x2) now w) := ⟨_, Lib.hid rfl⟩
  rw [← HQ.out]
  obtain ⟨na, NA⟩ : ∃ n, Hid (nextK x1 = n) := ⟨_, Lib.hid rfl⟩
  obtain ⟨nb, NB⟩ : ∃ n, Hid (nextK x2 = n) := ⟨_, Lib.hid rfl⟩
  rw [NA.out, NB.out] at HN
  rw [NA.out] at zn1
  rw [NB.out] at zn2
  have ZN := Lib.hid (And.intro zn1 zn2)
  clear zn1 zn2
  go_enter Tryd.func13, Tryd.ntmps13
  go_upto_region 1 with fail
  generalize ((w.alloc (.cells #[.int .i64 x0, .string x1, .string x2, .int .i64 x3, .slice a4 r4.length p4, .int .i64 x5, .int .i64 y0, .string y1, .string y2, .int .i64 y3, .slice b4 s4.length q4, .int .i64 y5] SlotsT)).alloc (.cells #[.int .i64 0, .string ⟨#[]⟩, .string ⟨#[]⟩, .int .i64 0, .slice none 0 0, .int .i64 0, .int .i64 0, .string ⟨#[]⟩, .string ⟨#[]⟩, .int .i64 0, .slice none 0 0, .int .i64 0] SlotsT)) = Y at *
  have c0 : Y.cell? ⟨w.heap.size, 0, none⟩ = some (.int .i64 x0) := A0.out.cell 0
  have c1 : Y.cell? ⟨w.heap.size, 1, none⟩ = some (.string x1) := A0.out.cell 1
  have c2 : Y.cell? ⟨w.heap.size, 2, none⟩ = some (.string x2) := A0.out.cell 2
  have c3 : Y.cell? ⟨w.heap.size, 3, none⟩ = some (.int .i64 x3) := A0.out.cell 3
  have c4 : Y.cell? ⟨w.heap.size, 4, none⟩ = some (.slice a4 r4.length p4) := A0.out.cell 4
  have c5 : Y.cell? ⟨w.heap.size, 5, none⟩ = some (.int .i64 x5) := A0.out.cell 5
  have c6 : Y.cell? ⟨w.heap.size, 6, none⟩ = some (.int .i64 y0) := A0.out.cell 6
  have c7 : Y.cell? ⟨w.heap.size, 7, none⟩ = some (.string y1) := A0.out.cell 7
  have c8 : Y.cell? ⟨w.heap.size, 8, none⟩ = some (.string y2) := A0.out.cell 8
  have c9 : Y.cell? ⟨w.heap.size, 9, none⟩ = some (.int .i64 y3) := A0.out.cell 9
  have c10 : Y.cell? ⟨w.heap.size, 10, none⟩ = some (.slice b4 s4.length q4) := A0.out.cell 10
  have c11 : Y.cell? ⟨w.heap.size, 11, none⟩ = some (.int .i64 y5) := A0.out.cell 11
  go_wp2_with fail
  refine (HN.out Y (HT.out.stays BY.out (Nat.le_refl _))).mono ?_
  rintro e Y1 ⟨rfl, hb⟩
  replace A0 := Lib.hid (A0.out.next hb)
  replace A1 := Lib.hid (A1.out.next hb)
  replace hz := Lib.hid (Nat.le_trans hz.out hb.size)
  replace BY := Lib.hid (BY.out.trans (hb.mono BY.out.size))
  clear hb HN c0 c1 c2 c3 c4 c5 c6 c7 c8 c9 c10 c11
  have c0 : Y1.cell? ⟨w.heap.size, 0, none⟩ = some (.int .i64 x0) := A0.out.cell 0
  have c1 : Y1.cell? ⟨w.heap.size, 1, none⟩ = some (.string x1) := A0.out.cell 1
  have c2 : Y1.cell? ⟨w.heap.size, 2, none⟩ = some (.string x2) := A0.out.cell 2
  have c3 : Y1.cell? ⟨w.heap.size, 3, none⟩ = some (.int .i64 x3) := A0.out.cell 3
  have c4 : Y1.cell? ⟨w.heap.size, 4, none⟩ = some (.slice a4 r4.length p4) := A0.out.cell 4
  have c5 : Y1.cell? ⟨w.heap.size, 5, none⟩ = some (.int .i64 x5) := A0.out.cell 5
  have c6 : Y1.cell? ⟨w.heap.size, 6, none⟩ = some (.int .i64 y0) := A0.out.cell 6
  have c7 : Y1.cell? ⟨w.heap.size, 7, none⟩ = some (.string y1) := A0.out.cell 7
  have c8 : Y1.cell? ⟨w.heap.size, 8, none⟩ = some (.string y2) := A0.out.cell 8
  have c9 : Y1.cell? ⟨w.heap.size, 9, none⟩ = some (.int .i64 y3) := A0.out.cell 9
  have c10 : Y1.cell? ⟨w.heap.size, 10, none⟩ = some (.slice b4 s4.length q4) := A0.out.cell 10
  have c11 : Y1.cell? ⟨w.heap.size, 11, none⟩ = some (.int .i64 y5) := A0.out.cell 11
  have K := Lib.hid (implInstall_gen cloneS x0 x1 x2 x3 _ r4 x5 y0 y1 y2 y3 _ s4 y5 na nb now (by omega) (by omega) (by omega) (by omega) hl hk gx gy ZN.out.1 ZN.out.2 Y1 (layIntS.below HR.out BY.out) (layIntS.below HK.out BY.out))
  go_wp2_with fail
  refine (K.out).mono ?_
  rintro e Y2 ⟨z0, z1, z2, z3, t4, z5, n0, n1, n2, n3, o4, n5, ok, v5, u5, f, g, hc, rfl, hd, o1, o2, hb⟩
  obtain ⟨ma, mk, rfl⟩ := rows_form (layIntS.read o1)
  obtain ⟨la, lk, rfl⟩ := rows_form (layIntS.read o2)
  have HC := Lib.hid hc
  have ND := Lib.hid hd
  have O1 := Lib.hid o1
  have O2 := Lib.hid o2
  replace A1 := Lib.hid (A1.out.next hb)
  replace BY := Lib.hid (BY.out.trans (hb.mono BY.out.size))
  clear hb K hc hd o1 o2 A0 c0 c1 c2 c3 c4 c5 c6 c7 c8 c9 c10 c11
  have d0 : Y2.cell? ⟨w.heap.size + 1, 0, none⟩ = some (.int .i64 0) := A1.out.cell 0
  have d1 : Y2.cell? ⟨w.heap.size + 1, 1, none⟩ = some (.string ⟨#[]⟩) := A1.out.cell 1
  have d2 : Y2.cell? ⟨w.heap.size + 1, 2, none⟩ = some (.string ⟨#[]⟩) := A1.out.cell 2
  have d3 : Y2.cell? ⟨w.heap.size + 1, 3, none⟩ = some (.int .i64 0) := A1.out.cell 3
  have d4 : Y2.cell? ⟨w.heap.size + 1, 4, none⟩ = some (.slice none 0 0) := A1.out.cell 4
  have d5 : Y2.cell? ⟨w.heap.size + 1, 5, none⟩ = some (.int .i64 0) := A1.out.cell 5
  have d6 : Y2.cell? ⟨w.heap.size + 1, 6, none⟩ = some (.int .i64 0) := A1.out.cell 6
  have d7 : Y2.cell? ⟨w.heap.size + 1, 7, none⟩ = some (.string ⟨#[]⟩) := A1.out.cell 7
  have d8 : Y2.cell? ⟨w.heap.size + 1, 8, none⟩ = some (.string ⟨#[]⟩) := A1.out.cell 8
  have d9 : Y2.cell? ⟨w.heap.size + 1, 9, none⟩ = some (.int .i64 0) := A1.out.cell 9
  have d10 : Y2.cell? ⟨w.heap.size + 1, 10, none⟩ = some (.slice none 0 0) := A1.out.cell 10
  have d11 : Y2.cell? ⟨w.heap.size + 1, 11, none⟩ = some (.int .i64 0) := A1.out.cell 11
  have g0 := A1.out.free 0
  have g1 := A1.out.free 1
  have g2 := A1.out.free 2
  have g3 := A1.out.free 3
  have g4 := A1.out.free 4
  have g5 := A1.out.free 5
  have g6 := A1.out.free 6
  have g7 := A1.out.free 7
  have g8 := A1.out.free 8
  have g9 := A1.out.free 9
  have g10 := A1.out.free 10
  have g11 := A1.out.free 11
  have S1 := putBoth A1.out (.int .i64 z0) (.string z1) (.string z2) (.int .i64 z3) (.slice ma t4.length mk) (.int .i64 z5) (.int .i64 n0) (.string n1) (.string n2) (.int .i64 n3) (.slice la o4.length lk) (.int .i64 n5)
  have j0 := S1.cell 0
  have j1 := S1.cell 1
  have j2 := S1.cell 2
  have j3 := S1.cell 3
  have j4 := S1.cell 4
  have j5 := S1.cell 5
  have j6 := S1.cell 6
  have j7 := S1.cell 7
  have j8 := S1.cell 8
  have j9 := S1.cell 9
  have j10 := S1.cell 10
  have j11 := S1.cell 11
  have E : Hid (Q (.returned (.tuple #[.agg #[.int .i64 z0, .string z1, .string z2, .int .i64 z3, .slice ma t4.length mk, .int .i64 z5, .int .i64 n0, .string n1, .string n2, .int .i64 n3, .slice la o4.length lk, .int .i64 n5], .bool ok])) ((((((((((((Y2.setCell ⟨w.heap.size + 1, 0, none⟩ (.int .i64 z0)).setCell ⟨w.heap.size + 1, 1, none⟩ (.string z1)).setCell ⟨w.heap.size + 1, 2, none⟩ (.string z2)).setCell ⟨w.heap.size + 1, 3, none⟩ (.int .i64 z3)).setCell ⟨w.heap.size + 1, 4, none⟩ (.slice ma t4.length mk)).setCell ⟨w.heap.size + 1, 5, none⟩ (.int .i64 z5)).setCell ⟨w.heap.size + 1, 6, none⟩ (.int .i64 n0)).setCell ⟨w.heap.size + 1, 7, none⟩ (.string n1)).setCell ⟨w.heap.size + 1, 8, none⟩ (.string n2)).setCell ⟨w.heap.size + 1, 9, none⟩ (.int .i64 n3)).setCell ⟨w.heap.size + 1, 10, none⟩ (.slice la o4.length lk)).setCell ⟨w.heap.size + 1, 11, none⟩ (.int .i64 n5))) := by
    rw [HQ.out]
    have ho : Only (w.heap.size + 1) Y2 ((((((((((((Y2.setCell ⟨w.heap.size + 1, 0, none⟩ (.int .i64 z0)).setCell ⟨w.heap.size + 1, 1, none⟩ (.string z1)).setCell ⟨w.heap.size + 1, 2, none⟩ (.string z2)).setCell ⟨w.heap.size + 1, 3, none⟩ (.int .i64 z3)).setCell ⟨w.heap.size + 1, 4, none⟩ (.slice ma t4.length mk)).setCell ⟨w.heap.size + 1, 5, none⟩ (.int .i64 z5)).setCell ⟨w.heap.size + 1, 6, none⟩ (.int .i64 n0)).setCell ⟨w.heap.size + 1, 7, none⟩ (.string n1)).setCell ⟨w.heap.size + 1, 8, none⟩ (.string n2)).setCell ⟨w.heap.size + 1, 9, none⟩ (.int .i64 n3)).setCell ⟨w.heap.size + 1, 10, none⟩ (.slice la o4.length lk)).setCell ⟨w.heap.size + 1, 11, none⟩ (.int .i64 n5)) := (putMain_only Y2 (w.heap.size + 1) _ _ _ _ _ _).trans (putLame_only _ (w.heap.size + 1) _ _ _ _ _ _)
    have hbel : Below w.heap.size w ((((((((((((Y2.setCell ⟨w.heap.size + 1, 0, none⟩ (.int .i64 z0)).setCell ⟨w.heap.size + 1, 1, none⟩ (.string z1)).setCell ⟨w.heap.size + 1, 2, none⟩ (.string z2)).setCell ⟨w.heap.size + 1, 3, none⟩ (.int .i64 z3)).setCell ⟨w.heap.size + 1, 4, none⟩ (.slice ma t4.length mk)).setCell ⟨w.heap.size + 1, 5, none⟩ (.int .i64 z5)).setCell ⟨w.heap.size + 1, 6, none⟩ (.int .i64 n0)).setCell ⟨w.heap.size + 1, 7, none⟩ (.string n1)).setCell ⟨w.heap.size + 1, 8, none⟩ (.string n2)).setCell ⟨w.heap.size + 1, 9, none⟩ (.int .i64 n3)).setCell ⟨w.heap.size + 1, 10, none⟩ (.slice la o4.length lk)).setCell ⟨w.heap.size + 1, 11, none⟩ (.int .i64 n5)) := putBoth_below BY.out (show w.heap.size ≤ w.heap.size + 1 by omega) _ _ _ _ _ _ _ _ _ _ _ _
    have hlo := hz.out
    exact Lib.hid ⟨z0, z1, z2, z3, t4, z5, n0, n1, n2, n3, o4, n5, ok, _, _, f, g, by rw [NA.out, NB.out]; exact HC.out, rfl, ND.out, layIntS.lower (layIntS.keep O1.out (fun a ha => ho.block a (layIntS.blocks O1.out a ha).2 (by have := (layIntS.blocks O1.out a ha).1; omega))) (by omega), layIntS.lower (layIntS.keep O2.out (fun a ha => ho.block a (layIntS.blocks O2.out a ha).2 (by have := (layIntS.blocks O2.out a ha).1; omega))) (by omega), hbel⟩
  clear S1
  go_wp2_with fail
  try simp only [Exit.inBlock, Exit.then]
  exact bodyPost_ret (v := .tuple #[.agg #[.int .i64 z0, .string z1, .string z2, .int .i64 z3, .slice ma t4.length mk, .int .i64 z5, .int .i64 n0, .string n1, .string n2, .int .i64 n3, .slice la o4.length lk, .int .i64 n5], .bool ok]) (by simp [results, Tryd.results13, go_sem, j0, j1, j2, j3, j4, j5, j6, j7, j8, j9, j10, j11]) rfl E.out
theorem implStepBoth_any (x0 : Int) (x1 x2 : ByteArray) (x3 : Int) (v4 : Value) (r4 : List Int) (x5 : Int) (y0 : Int) (y1 y2 : ByteArray) (y3 : Int) (u4 : Value) (s4 : List Int) (y5 : Int) (now : Int) (f1 : FitsSlot x1 x2 r4) (f2 : FitsSlot y1 y2 s4) (gx : SlG x0 x1 x2 x3 r4 x5) (gy : SlG y0 y1 y2 y3 s4 y5) (_hwn : IntZ now) (w : World) (ht : LaidK w) (h : layIntS.rd w [v4] r4) (k : layIntS.rd w [u4] s4) :
    Calls Tryd.prog 13 #[.agg #[.int .i64 x0, .string x1, .string x2, .int .i64 x3, v4, .int .i64 x5, .int .i64 y0, .string y1, .string y2, .int .i64 y3, u4, .int .i64 y5], .int .i64 now] w (InstallEnd x0 x1 x2 x3 r4 x5 y0 y1 y2 y3 s4 y5 (nextK x1) (nextK x2) now w) :=
  implStepBoth_gen x0 x1 x2 x3 v4 r4 x5 y0 y1 y2 y3 u4 s4 y5 now f1.1 f1.2.1 f2.1 f2.2.1 (by have := f1.2.2; unfold FitsInt at this; omega) (by have := f2.2.2; unfold FitsInt at this; omega) gx.rs gy.rs w ht h k

end Go.Proofs.YtoaifgblbfdncabDoor
