/-
  The exact law on Release, out of one answer that both give.
-/
import Derived.Test.YtphmomlgmnllkaqJ43
namespace Go.Proofs.Ytphmomlgmnllkaq
open Go.RowKit

set_option maxRecDepth 100000 in
set_option maxHeartbeats 6400000 in
/-- The exact law on Release, out of one answer that both give. -/
theorem lawReleaseF (L : World → Prop) (stays : ∀ X Y, L X → Below X.heap.size X Y → L Y) (pa pn : Int) (va0 vb0 : Value) (ls : List Ls) (fs : List Fx) (who : Int) (rs : List Ls) (b : Bool) (hl : ls.length + fs.length ≤ 1048576) (hr : rs.length ≤ 2000000)
    (hI : ∀ (v u : Value) (X : World), L X → PoolR X v u ls fs → Calls Try.prog 14 #[.agg #[.int .i64 pa, .int .i64 pn, v, u], .int .i64 who] X fun e X' => ∃ (lu fu : Value), e = .returned (.tuple #[.agg #[.int .i64 pa, .int .i64 pn, lu, fu], .bool b]) ∧ PoolOut X lu fu rs fs X')
    (hS : ∀ (v u : Value) (X : World), PoolR X v u ls fs → Calls Try.prog 13 #[.agg #[.int .i64 pa, .int .i64 pn, v, u], .int .i64 who] X fun e X' => ∃ (lu fu : Value), e = .returned (.tuple #[.agg #[.int .i64 pa, .int .i64 pn, lu, fu], .bool b]) ∧ PoolOut X lu fu rs fs X')
    (w : World) (ha : PoolR w va0 vb0 ls fs) (ht : L w) :
    Calls Try.prog 4 #[.agg #[.int .i64 pa, .int .i64 pn, va0, vb0], .int .i64 who] w fun e w' => e = .returned (.bool true) ∧ Below w.heap.size w w' := by
  obtain ⟨a, cp, rfl⟩ := rows_form ha.leases
  obtain ⟨fa, fc, rfl⟩ := rows_form ha.fixes
  have HI := Lib.hid hI
  have HS := Lib.hid hS
  have HT : Hid (∀ X, Below w.heap.size w X → L X) := fun X hX => stays w X ht hX
  have TT : Hid (∀ X : World, Below w.heap.size w X → Calls Try.prog 8 #[.agg #[.int .i64 pa, .int .i64 pn, .slice a ls.length cp, .slice fa fs.length fc]] X fun e w' => ∃ (x y : Option Addr) (c d : Nat), e = .returned (.agg #[.int .i64 pa, .int .i64 pn, .slice x ls.length c, .slice y fs.length d]) ∧ PoolOut X (.slice x ls.length c) (.slice y fs.length d) ls fs w') := fun X hX => toPool_out pa pn _ _ ls fs X (ha.next hX) (by omega) (by omega)
  have H0 := Lib.hid (szPool_any pa pn a fa ls.length fs.length cp fc (by omega) (by omega))
  rw [if_neg (by omega)] at H0
  have hneg : ¬ ((1048576 : Int) - (ls.length : Int) - (fs.length : Int) < 0) := by omega
  have hll : ls.length ≤ 1048576 := by omega
  have hfl : fs.length ≤ 1048576 := by omega
  have A0 := Lib.hid (VarA.new w 27 #[.int .i64 pa, .int .i64 pn, .slice a ls.length cp, .slice fa fs.length fc])
  have B0 := Lib.hid ((Below.refl w.heap.size w).alloc (Nat.le_refl _) (.cells #[.int .i64 pa, .int .i64 pn, .slice a ls.length cp, .slice fa fs.length fc] 27))
  clear hI hS ha ht stays
  go_enter Try.func4, Try.ntmps4
  go_upto_region 1 with fail
  generalize w.alloc (.cells #[.int .i64 pa, .int .i64 pn, .slice a ls.length cp, .slice fa fs.length fc] 27) = Y0 at *
  have c0 : Y0.cell? ⟨w.heap.size, 0, none⟩ = some (.int .i64 pa) := A0.out.cell 0
  have c1 : Y0.cell? ⟨w.heap.size, 1, none⟩ = some (.int .i64 pn) := A0.out.cell 1
  have c2 : Y0.cell? ⟨w.heap.size, 2, none⟩ = some (.slice a ls.length cp) := A0.out.cell 2
  have c3 : Y0.cell? ⟨w.heap.size, 3, none⟩ = some (.slice fa fs.length fc) := A0.out.cell 3
  go_wp2_with fail
  refine (H0.out _).mono ?_
  rintro e Y1 ⟨rfl, hb1⟩
  have A1 := Lib.hid (A0.out.next hb1)
  have B1 := Lib.hid (B0.out.trans (hb1.mono B0.out.size))
  clear hb1 A0 B0 H0 c0 c1 c2 c3
  have c0 : Y1.cell? ⟨w.heap.size, 0, none⟩ = some (.int .i64 pa) := A1.out.cell 0
  have c1 : Y1.cell? ⟨w.heap.size, 1, none⟩ = some (.int .i64 pn) := A1.out.cell 1
  have c2 : Y1.cell? ⟨w.heap.size, 2, none⟩ = some (.slice a ls.length cp) := A1.out.cell 2
  have c3 : Y1.cell? ⟨w.heap.size, 3, none⟩ = some (.slice fa fs.length fc) := A1.out.cell 3
  go_wp2_with fail
  refine (TT.out _ B1.out).mono ?_
  rintro e Y2 ⟨ta, tb, tc, td, rfl, ho2⟩
  have A2 := Lib.hid (A1.out.next ho2.below)
  have B2 := Lib.hid (B1.out.trans (ho2.below.mono B1.out.size))
  have KS := Lib.hid (HS.out _ _ Y2 ho2.pool)
  clear ho2 A1 B1 c0 c1 c2 c3
  go_wp2_with fail
  refine (KS.out).mono ?_
  rintro e Y3 ⟨lu, fu, rfl, ho3⟩
  obtain ⟨ua, uc, rfl⟩ := rows_form ho3.pool.leases
  obtain ⟨va, vc, rfl⟩ := rows_form ho3.pool.fixes
  obtain ⟨u1, u2, hu⟩ := PR.new (pa := pa) (pn := pn) ho3
  have hal : Below Y3.heap.size Y3 (Y3.alloc (.cells #[.int .i64 pa, .int .i64 pn, .slice ua rs.length uc, .slice va fs.length vc] PoolT)) := (Below.refl _ _).alloc (Nat.le_refl _) _
  have U4 := Lib.hid hu
  have A4 := Lib.hid ((A2.out.next ho3.below).next hal)
  have B4 := Lib.hid ((B2.out.trans (ho3.below.mono B2.out.size)).trans (hal.mono (B2.out.trans (ho3.below.mono B2.out.size)).size))
  have hs4 : Y3.heap.size < (Y3.alloc (.cells #[.int .i64 pa, .int .i64 pn, .slice ua rs.length uc, .slice va fs.length vc] PoolT)).heap.size := by simp
  have hs3 := B2.out.size
  clear ho3 hal hu A2 B2 KS
  go_upto_region 6 with fail
  generalize Y3.alloc (.cells #[.int .i64 pa, .int .i64 pn, .slice ua rs.length uc, .slice va fs.length vc] PoolT) = V4 at *
  generalize Y2.heap.size = lu1 at *
  generalize Y3.heap.size = gu at *
  clear Y2 Y3
  have c0 : V4.cell? ⟨w.heap.size, 0, none⟩ = some (.int .i64 pa) := A4.out.cell 0
  have c1 : V4.cell? ⟨w.heap.size, 1, none⟩ = some (.int .i64 pn) := A4.out.cell 1
  have c2 : V4.cell? ⟨w.heap.size, 2, none⟩ = some (.slice a ls.length cp) := A4.out.cell 2
  have c3 : V4.cell? ⟨w.heap.size, 3, none⟩ = some (.slice fa fs.length fc) := A4.out.cell 3
  go_wp2_with fail
  refine (TT.out _ B4.out).mono ?_
  rintro e Y5 ⟨xa, ya, xc, yc, rfl, ho5⟩
  obtain ⟨x1, x2, hx⟩ := PR.new (pa := pa) (pn := pn) ho5
  have hal : Below Y5.heap.size Y5 (Y5.alloc (.cells #[.int .i64 pa, .int .i64 pn, .slice xa ls.length xc, .slice ya fs.length yc] PoolT)) := (Below.refl _ _).alloc (Nat.le_refl _) _
  have X6 := Lib.hid hx
  have U6 := Lib.hid ((U4.out.next ho5.below).next hal)
  have A6 := Lib.hid ((A4.out.next ho5.below).next hal)
  have B6 := Lib.hid ((B4.out.trans (ho5.below.mono B4.out.size)).trans (hal.mono (B4.out.trans (ho5.below.mono B4.out.size)).size))
  have hs6 : Y5.heap.size < (Y5.alloc (.cells #[.int .i64 pa, .int .i64 pn, .slice xa ls.length xc, .slice ya fs.length yc] PoolT)).heap.size := by simp
  have hs5 := ho5.below.size
  have hw4 := B4.out.size
  clear ho5 hal hx U4 A4 B4 c0 c1 c2 c3
  go_upto_region 7 with fail
  generalize Y5.alloc (.cells #[.int .i64 pa, .int .i64 pn, .slice xa ls.length xc, .slice ya fs.length yc] PoolT) = V6 at *
  generalize V4.heap.size = lx1 at *
  generalize Y5.heap.size = gx at *
  clear V4 Y5
  have c0 : V6.cell? ⟨gx, 0, none⟩ = some (.int .i64 pa) := X6.out.var.cell 0
  have c1 : V6.cell? ⟨gx, 1, none⟩ = some (.int .i64 pn) := X6.out.var.cell 1
  have c2 : V6.cell? ⟨gx, 2, none⟩ = some (.slice xa ls.length xc) := X6.out.var.cell 2
  have c3 : V6.cell? ⟨gx, 3, none⟩ = some (.slice ya fs.length yc) := X6.out.var.cell 3
  have KI := Lib.hid (HI.out _ _ V6 (HT.out _ B6.out) X6.out.pool)
  go_wp2_with fail
  refine (KI.out).mono ?_
  rintro e Y7 ⟨lu, fu, rfl, ho7⟩
  obtain ⟨ga, gc, rfl⟩ := rows_form ho7.pool.leases
  obtain ⟨ha, hc, rfl⟩ := rows_form ho7.pool.fixes
  obtain ⟨g1, g2, hg⟩ := PR.new (pa := pa) (pn := pn) ho7
  have hal : Below Y7.heap.size Y7 (Y7.alloc (.cells #[.int .i64 pa, .int .i64 pn, .slice ga rs.length gc, .slice ha fs.length hc] PoolT)) := (Below.refl _ _).alloc (Nat.le_refl _) _
  have hs7 := ho7.below.size
  have hw6 := B6.out.size
  generalize hlg : V6.heap.size = lg1 at *
  have Q8 : Hid (QX w lu1 gu gu lx1 gx gx lg1 Y7.heap.size Y7.heap.size pa pn (.slice a ls.length cp) (.slice fa fs.length fc) (.slice ua rs.length uc) (.slice va fs.length vc) (.slice xa ls.length xc) (.slice ya fs.length yc) (.slice ga rs.length gc) (.slice ha fs.length hc) ls rs fs u1 u2 x1 x2 g1 g2 (Y7.alloc (.cells #[.int .i64 pa, .int .i64 pn, .slice ga rs.length gc, .slice ha fs.length hc] PoolT))) :=
    ⟨(A6.out.next (hlg ▸ ho7.below)).next hal, (U6.out.next (hlg ▸ ho7.below)).next hal, (X6.out.next (hlg ▸ ho7.below)).next hal, hg, (B6.out.trans ((hlg ▸ ho7.below).mono (hlg ▸ B6.out.size))).trans (hal.mono (B6.out.trans ((hlg ▸ ho7.below).mono (hlg ▸ B6.out.size))).size), by omega, by omega, by omega, by omega, by omega⟩
  clear ho7 hal hg U6 A6 B6 X6 KI c0 c1 c2 c3
  clear hlg
  clear hs3 hs4 hs5 hs6 hs7 hw4 hw6
  go_upto_region 8 with fail
  generalize Y7.alloc (.cells #[.int .i64 pa, .int .i64 pn, .slice ga rs.length gc, .slice ha fs.length hc] PoolT) = V8 at *
  generalize Y7.heap.size = gg at *
  clear Y7 V6
  have d0 : V8.cell? ⟨gg, 0, none⟩ = some (.int .i64 pa) := Q8.out.g.var.cell 0
  have d1 : V8.cell? ⟨gg, 1, none⟩ = some (.int .i64 pn) := Q8.out.g.var.cell 1
  have d2 : V8.cell? ⟨gg, 2, none⟩ = some (.slice ga rs.length gc) := Q8.out.g.var.cell 2
  have d3 : V8.cell? ⟨gg, 3, none⟩ = some (.slice ha fs.length hc) := Q8.out.g.var.cell 3
  have e0 : V8.cell? ⟨gu, 0, none⟩ = some (.int .i64 pa) := Q8.out.u.var.cell 0
  have e1 : V8.cell? ⟨gu, 1, none⟩ = some (.int .i64 pn) := Q8.out.u.var.cell 1
  have e2 : V8.cell? ⟨gu, 2, none⟩ = some (.slice ua rs.length uc) := Q8.out.u.var.cell 2
  have e3 : V8.cell? ⟨gu, 3, none⟩ = some (.slice va fs.length vc) := Q8.out.u.var.cell 3
  have hbb : ∀ b : Bool, (b != b) = false := fun b => by cases b <;> rfl
  have hb1 := hbb b
  clear hbb
  have K8 := Lib.hid (eqPool_pool pa pn _ _ _ _ rs fs V8 Q8.out.g.pool Q8.out.u.pool (by omega) (by omega))
  go_wp2_with fail
  refine (K8.out).mono ?_
  rintro e V9 ⟨rfl, hb9⟩
  have Q9 := Lib.hid (Q8.out.next hb9)
  clear hb9 K8 Q8 d0 d1 d2 d3 e0 e1 e2 e3
  have S0 : Hid (∀ X, QX w lu1 gu gu lx1 gx gx lg1 gg gg pa pn (.slice a ls.length cp) (.slice fa fs.length fc) (.slice ua rs.length uc) (.slice va fs.length vc) (.slice xa ls.length xc) (.slice ya fs.length yc) (.slice ga rs.length gc) (.slice ha fs.length hc) ls rs fs u1 u2 x1 x2 g1 g2 X → (X.cell? ⟨gx, 0, none⟩ = some (.int .i64 pa) ∧ X.cell? ⟨gx, 1, none⟩ = some (.int .i64 pn) ∧ X.cell? ⟨gx, 2, none⟩ = some (.slice xa ls.length xc) ∧ X.cell? ⟨gx, 3, none⟩ = some (.slice ya fs.length yc) ∧ X.cell? ⟨w.heap.size, 0, none⟩ = some (.int .i64 pa) ∧ X.cell? ⟨w.heap.size, 1, none⟩ = some (.int .i64 pn) ∧ X.cell? ⟨w.heap.size, 2, none⟩ = some (.slice a ls.length cp) ∧ X.cell? ⟨w.heap.size, 3, none⟩ = some (.slice fa fs.length fc) ∧ QX w lu1 gu gu lx1 gx gx lg1 gg gg pa pn (.slice a ls.length cp) (.slice fa fs.length fc) (.slice ua rs.length uc) (.slice va fs.length vc) (.slice xa ls.length xc) (.slice ya fs.length yc) (.slice ga rs.length gc) (.slice ha fs.length hc) ls rs fs u1 u2 x1 x2 g1 g2 X)) := fun X h => ⟨h.x.var.cell 0, h.x.var.cell 1, h.x.var.cell 2, h.x.var.cell 3, h.abox.cell 0, h.abox.cell 1, h.abox.cell 2, h.abox.cell 3, h⟩
  have S1 : Hid (V9.drew.cell? ⟨gx, 0, none⟩ = some (.int .i64 pa) ∧ V9.drew.cell? ⟨gx, 1, none⟩ = some (.int .i64 pn) ∧ V9.drew.cell? ⟨gx, 2, none⟩ = some (.slice xa ls.length xc) ∧ V9.drew.cell? ⟨gx, 3, none⟩ = some (.slice ya fs.length yc) ∧ V9.drew.cell? ⟨w.heap.size, 0, none⟩ = some (.int .i64 pa) ∧ V9.drew.cell? ⟨w.heap.size, 1, none⟩ = some (.int .i64 pn) ∧ V9.drew.cell? ⟨w.heap.size, 2, none⟩ = some (.slice a ls.length cp) ∧ V9.drew.cell? ⟨w.heap.size, 3, none⟩ = some (.slice fa fs.length fc) ∧ QX w lu1 gu gu lx1 gx gx lg1 gg gg pa pn (.slice a ls.length cp) (.slice fa fs.length fc) (.slice ua rs.length uc) (.slice va fs.length vc) (.slice xa ls.length xc) (.slice ya fs.length yc) (.slice ga rs.length gc) (.slice ha fs.length hc) ls rs fs u1 u2 x1 x2 g1 g2 V9.drew) := S0.out _ (Q9.out.next ((Below.refl _ _).drew))
  have KT : Hid (∀ X, (X.cell? ⟨gx, 0, none⟩ = some (.int .i64 pa) ∧ X.cell? ⟨gx, 1, none⟩ = some (.int .i64 pn) ∧ X.cell? ⟨gx, 2, none⟩ = some (.slice xa ls.length xc) ∧ X.cell? ⟨gx, 3, none⟩ = some (.slice ya fs.length yc) ∧ X.cell? ⟨w.heap.size, 0, none⟩ = some (.int .i64 pa) ∧ X.cell? ⟨w.heap.size, 1, none⟩ = some (.int .i64 pn) ∧ X.cell? ⟨w.heap.size, 2, none⟩ = some (.slice a ls.length cp) ∧ X.cell? ⟨w.heap.size, 3, none⟩ = some (.slice fa fs.length fc) ∧ QX w lu1 gu gu lx1 gx gx lg1 gg gg pa pn (.slice a ls.length cp) (.slice fa fs.length fc) (.slice ua rs.length uc) (.slice va fs.length vc) (.slice xa ls.length xc) (.slice ya fs.length yc) (.slice ga rs.length gc) (.slice ha fs.length hc) ls rs fs u1 u2 x1 x2 g1 g2 X) → Calls Try.prog 8 #[.agg #[.int .i64 pa, .int .i64 pn, .slice a ls.length cp, .slice fa fs.length fc]] X fun e Y => ∃ (x y : Option Addr) (c d : Nat), e = .returned (.agg #[.int .i64 pa, .int .i64 pn, .slice x ls.length c, .slice y fs.length d]) ∧ PoolR Y (.slice x ls.length c) (.slice y fs.length d) ls fs ∧ (Y.cell? ⟨gx, 0, none⟩ = some (.int .i64 pa) ∧ Y.cell? ⟨gx, 1, none⟩ = some (.int .i64 pn) ∧ Y.cell? ⟨gx, 2, none⟩ = some (.slice xa ls.length xc) ∧ Y.cell? ⟨gx, 3, none⟩ = some (.slice ya fs.length yc) ∧ Y.cell? ⟨w.heap.size, 0, none⟩ = some (.int .i64 pa) ∧ Y.cell? ⟨w.heap.size, 1, none⟩ = some (.int .i64 pn) ∧ Y.cell? ⟨w.heap.size, 2, none⟩ = some (.slice a ls.length cp) ∧ Y.cell? ⟨w.heap.size, 3, none⟩ = some (.slice fa fs.length fc) ∧ QX w lu1 gu gu lx1 gx gx lg1 gg gg pa pn (.slice a ls.length cp) (.slice fa fs.length fc) (.slice ua rs.length uc) (.slice va fs.length vc) (.slice xa ls.length xc) (.slice ya fs.length yc) (.slice ga rs.length gc) (.slice ha fs.length hc) ls rs fs u1 u2 x1 x2 g1 g2 Y)) := fun X hX => by
    refine (TT.out X hX.2.2.2.2.2.2.2.2.below).mono ?_
    rintro e Y ⟨x, y, c, d, rfl, ho⟩
    exact ⟨x, y, c, d, rfl, ho.pool, S0.out _ (hX.2.2.2.2.2.2.2.2.next ho.below)⟩
  have KE : Hid (∀ (x y : Option Addr) (c d : Nat) (X : World), (X.cell? ⟨gx, 0, none⟩ = some (.int .i64 pa) ∧ X.cell? ⟨gx, 1, none⟩ = some (.int .i64 pn) ∧ X.cell? ⟨gx, 2, none⟩ = some (.slice xa ls.length xc) ∧ X.cell? ⟨gx, 3, none⟩ = some (.slice ya fs.length yc) ∧ X.cell? ⟨w.heap.size, 0, none⟩ = some (.int .i64 pa) ∧ X.cell? ⟨w.heap.size, 1, none⟩ = some (.int .i64 pn) ∧ X.cell? ⟨w.heap.size, 2, none⟩ = some (.slice a ls.length cp) ∧ X.cell? ⟨w.heap.size, 3, none⟩ = some (.slice fa fs.length fc) ∧ QX w lu1 gu gu lx1 gx gx lg1 gg gg pa pn (.slice a ls.length cp) (.slice fa fs.length fc) (.slice ua rs.length uc) (.slice va fs.length vc) (.slice xa ls.length xc) (.slice ya fs.length yc) (.slice ga rs.length gc) (.slice ha fs.length hc) ls rs fs u1 u2 x1 x2 g1 g2 X) → PoolR X (.slice x ls.length c) (.slice y fs.length d) ls fs → Calls Try.prog 10 #[.agg #[.int .i64 pa, .int .i64 pn, .slice xa ls.length xc, .slice ya fs.length yc], .agg #[.int .i64 pa, .int .i64 pn, .slice x ls.length c, .slice y fs.length d]] X fun e Y => e = .returned (.bool true) ∧ (Y.cell? ⟨gx, 0, none⟩ = some (.int .i64 pa) ∧ Y.cell? ⟨gx, 1, none⟩ = some (.int .i64 pn) ∧ Y.cell? ⟨gx, 2, none⟩ = some (.slice xa ls.length xc) ∧ Y.cell? ⟨gx, 3, none⟩ = some (.slice ya fs.length yc) ∧ Y.cell? ⟨w.heap.size, 0, none⟩ = some (.int .i64 pa) ∧ Y.cell? ⟨w.heap.size, 1, none⟩ = some (.int .i64 pn) ∧ Y.cell? ⟨w.heap.size, 2, none⟩ = some (.slice a ls.length cp) ∧ Y.cell? ⟨w.heap.size, 3, none⟩ = some (.slice fa fs.length fc) ∧ QX w lu1 gu gu lx1 gx gx lg1 gg gg pa pn (.slice a ls.length cp) (.slice fa fs.length fc) (.slice ua rs.length uc) (.slice va fs.length vc) (.slice xa ls.length xc) (.slice ya fs.length yc) (.slice ga rs.length gc) (.slice ha fs.length hc) ls rs fs u1 u2 x1 x2 g1 g2 Y)) := fun x y c d X hX hr => by
    refine (eqPool_pool pa pn _ _ _ _ ls fs X hX.2.2.2.2.2.2.2.2.x.pool hr (by omega) (by omega)).mono ?_
    rintro e Y ⟨rfl, hb⟩
    exact ⟨rfl, S0.out _ (hX.2.2.2.2.2.2.2.2.next hb)⟩
  go_wp2_with fail
  go_cut [49] (fun v wx => v = .bool false ∧ Hid (QX w lu1 gu gu lx1 gx gx lg1 gg gg pa pn (.slice a ls.length cp) (.slice fa fs.length fc) (.slice ua rs.length uc) (.slice va fs.length vc) (.slice xa ls.length xc) (.slice ya fs.length yc) (.slice ga rs.length gc) (.slice ha fs.length hc) ls rs fs u1 u2 x1 x2 g1 g2 wx))
  case first =>
    go_region_held3 (fun X => X.cell? ⟨gx, 0, none⟩ = some (.int .i64 pa) ∧ X.cell? ⟨gx, 1, none⟩ = some (.int .i64 pn) ∧ X.cell? ⟨gx, 2, none⟩ = some (.slice xa ls.length xc) ∧ X.cell? ⟨gx, 3, none⟩ = some (.slice ya fs.length yc) ∧ X.cell? ⟨w.heap.size, 0, none⟩ = some (.int .i64 pa) ∧ X.cell? ⟨w.heap.size, 1, none⟩ = some (.int .i64 pn) ∧ X.cell? ⟨w.heap.size, 2, none⟩ = some (.slice a ls.length cp) ∧ X.cell? ⟨w.heap.size, 3, none⟩ = some (.slice fa fs.length fc) ∧ QX w lu1 gu gu lx1 gx gx lg1 gg gg pa pn (.slice a ls.length cp) (.slice fa fs.length fc) (.slice ua rs.length uc) (.slice va fs.length vc) (.slice xa ls.length xc) (.slice ya fs.length yc) (.slice ga rs.length gc) (.slice ha fs.length hc) ls rs fs u1 u2 x1 x2 g1 g2 X) (first | (with_reducible assumption) | (with_reducible exact S1.out)) (first | (go_at_call 8; refine (KT.out _ (by assumption)).mono ?_; rintro e v1 ⟨x7, y7, c7, d7, rfl, hq, hS⟩) | (go_at_call 10; refine (KE.out _ _ _ _ _ (by assumption) (by first | exact hq | exact hq.next ((Below.refl _ _).drew))).mono ?_; rintro e v1 ⟨rfl, hS⟩))
    all_goals
      go_wp2_with fail
      go_meet
      exact ⟨rfl, Lib.hid hS.2.2.2.2.2.2.2.2⟩
  case rest =>
    obtain ⟨rfl, QA⟩ := hcut
    generalize wc = VA at *
    clear S0 S1 KT KE Q9
    have c0 : VA.cell? ⟨gx, 0, none⟩ = some (.int .i64 pa) := QA.out.x.var.cell 0
    have c1 : VA.cell? ⟨gx, 1, none⟩ = some (.int .i64 pn) := QA.out.x.var.cell 1
    have c2 : VA.cell? ⟨gx, 2, none⟩ = some (.slice xa ls.length xc) := QA.out.x.var.cell 2
    have c3 : VA.cell? ⟨gx, 3, none⟩ = some (.slice ya fs.length yc) := QA.out.x.var.cell 3
    have KM := Lib.hid (markPool_any pa pn _ ls _ fs lx1 x1 x2 (by omega) (by omega) 1 (by omega) (by omega) VA QA.out.x.dup QA.out.x.lown QA.out.x.fown)
    have hm0 : ¬ ((1 : Int) + 3 * (ls.length : Int) + 2 * (fs.length : Int) < 0) := by omega
    go_wp2_with fail
    refine (KM.out).mono ?_
    rintro e VB ⟨rfl, _, hcB⟩
    have QB := Lib.hid (QA.out.markx hcB)
    clear hcB KM QA c0 c1 c2 c3
    have d0 : VB.cell? ⟨gg, 0, none⟩ = some (.int .i64 pa) := QB.out.g.var.cell 0
    have d1 : VB.cell? ⟨gg, 1, none⟩ = some (.int .i64 pn) := QB.out.g.var.cell 1
    have d2 : VB.cell? ⟨gg, 2, none⟩ = some (.slice ga rs.length gc) := QB.out.g.var.cell 2
    have d3 : VB.cell? ⟨gg, 3, none⟩ = some (.slice ha fs.length hc) := QB.out.g.var.cell 3
    have e0 : VB.cell? ⟨gu, 0, none⟩ = some (.int .i64 pa) := QB.out.u.var.cell 0
    have e1 : VB.cell? ⟨gu, 1, none⟩ = some (.int .i64 pn) := QB.out.u.var.cell 1
    have e2 : VB.cell? ⟨gu, 2, none⟩ = some (.slice ua rs.length uc) := QB.out.u.var.cell 2
    have e3 : VB.cell? ⟨gu, 3, none⟩ = some (.slice va fs.length vc) := QB.out.u.var.cell 3
    have KB := Lib.hid (eqPool_pool pa pn _ _ _ _ rs fs VB QB.out.g.pool QB.out.u.pool (by omega) (by omega))
    go_wp2_with fail
    refine (KB.out).mono ?_
    rintro e VC ⟨rfl, hbC⟩
    have QC := Lib.hid (QB.out.next hbC)
    clear hbC KB QB d0 d1 d2 d3 e0 e1 e2 e3
    have d0 : VC.cell? ⟨gg, 0, none⟩ = some (.int .i64 pa) := QC.out.g.var.cell 0
    have d1 : VC.cell? ⟨gg, 1, none⟩ = some (.int .i64 pn) := QC.out.g.var.cell 1
    have d2 : VC.cell? ⟨gg, 2, none⟩ = some (.slice ga rs.length gc) := QC.out.g.var.cell 2
    have d3 : VC.cell? ⟨gg, 3, none⟩ = some (.slice ha fs.length hc) := QC.out.g.var.cell 3
    have KC := Lib.hid (markPool_any pa pn _ rs _ fs lg1 g1 g2 (by omega) (by omega) 1 (by omega) (by omega) VC QC.out.g.dup QC.out.g.lown QC.out.g.fown)
    go_wp2_with fail
    refine (KC.out).mono ?_
    rintro e VD ⟨rfl, ⟨hoD, hoE⟩, hcD⟩
    have QD := Lib.hid (QC.out.markg hoD hoE hcD)
    clear hoD hoE hcD KC QC d0 d1 d2 d3
    have d0 : VD.cell? ⟨gg, 0, none⟩ = some (.int .i64 pa) := QD.out.g.var.cell 0
    have d1 : VD.cell? ⟨gg, 1, none⟩ = some (.int .i64 pn) := QD.out.g.var.cell 1
    have d2 : VD.cell? ⟨gg, 2, none⟩ = some (.slice ga rs.length gc) := QD.out.g.var.cell 2
    have d3 : VD.cell? ⟨gg, 3, none⟩ = some (.slice ha fs.length hc) := QD.out.g.var.cell 3
    have KD := Lib.hid (heldPool_any pa pn _ rs _ fs (by omega) (by omega) 1 (by omega) (by omega) VD QD.out.g.pool.leases QD.out.g.pool.fixes)
    have hm1 : ¬ ((1 : Int) + 3 * (rs.length : Int) + 2 * (fs.length : Int) < 0) := by omega
    go_wp2_with fail
    refine (KD.out).mono ?_
    rintro e VE ⟨rfl, hbE⟩
    have QE := Lib.hid (QD.out.next hbE)
    clear hbE KD QD d0 d1 d2 d3
    have c0 : VE.cell? ⟨w.heap.size, 0, none⟩ = some (.int .i64 pa) := QE.out.abox.cell 0
    have c1 : VE.cell? ⟨w.heap.size, 1, none⟩ = some (.int .i64 pn) := QE.out.abox.cell 1
    have c2 : VE.cell? ⟨w.heap.size, 2, none⟩ = some (.slice a ls.length cp) := QE.out.abox.cell 2
    have c3 : VE.cell? ⟨w.heap.size, 3, none⟩ = some (.slice fa fs.length fc) := QE.out.abox.cell 3
    go_wp2_with fail
    refine (TT.out _ QE.out.below).mono ?_
    rintro e VF ⟨ta, tb, tc, td, rfl, hoF⟩
    have QF := Lib.hid (QE.out.next hoF.below)
    have KF := Lib.hid (HI.out _ _ VF (HT.out _ QF.out.below) hoF.pool)
    clear hoF QE c0 c1 c2 c3
    go_wp2_with fail
    refine (KF.out).mono ?_
    rintro e VG ⟨lu, fu, rfl, hoG⟩
    obtain ⟨ia, ic, rfl⟩ := rows_form hoG.pool.leases
    obtain ⟨ja, jc, rfl⟩ := rows_form hoG.pool.fixes
    have hal : Below VG.heap.size VG (VG.alloc (.cells #[.int .i64 pa, .int .i64 pn, .slice ia rs.length ic, .slice ja fs.length jc] PoolT)) := (Below.refl _ _).alloc (Nat.le_refl _) _
    have QG := Lib.hid ((QF.out.next hoG.below).next hal)
    have HG := Lib.hid (PoV.new (pa := pa) (pn := pn) hoG)
    clear hoG hal KF QF
    go_upto_region 25 with fail
    generalize VG.alloc (.cells #[.int .i64 pa, .int .i64 pn, .slice ia rs.length ic, .slice ja fs.length jc] PoolT) = VH at *
    generalize VG.heap.size = gh at *
    clear VG
    have d0 : VH.cell? ⟨gh, 0, none⟩ = some (.int .i64 pa) := HG.out.var.cell 0
    have d1 : VH.cell? ⟨gh, 1, none⟩ = some (.int .i64 pn) := HG.out.var.cell 1
    have d2 : VH.cell? ⟨gh, 2, none⟩ = some (.slice ia rs.length ic) := HG.out.var.cell 2
    have d3 : VH.cell? ⟨gh, 3, none⟩ = some (.slice ja fs.length jc) := HG.out.var.cell 3
    have e0 : VH.cell? ⟨gu, 0, none⟩ = some (.int .i64 pa) := QG.out.u.var.cell 0
    have e1 : VH.cell? ⟨gu, 1, none⟩ = some (.int .i64 pn) := QG.out.u.var.cell 1
    have e2 : VH.cell? ⟨gu, 2, none⟩ = some (.slice ua rs.length uc) := QG.out.u.var.cell 2
    have e3 : VH.cell? ⟨gu, 3, none⟩ = some (.slice va fs.length vc) := QG.out.u.var.cell 3
    have KH := Lib.hid (eqPool_pool pa pn _ _ _ _ rs fs VH HG.out.pool QG.out.u.pool (by omega) (by omega))
    go_wp2_with fail
    refine (KH.out).mono ?_
    rintro e VI ⟨rfl, hbI⟩
    have QI := Lib.hid (QG.out.next hbI)
    clear hbI KH QG HG d0 d1 d2 d3 e0 e1 e2 e3
    have d0 : VI.cell? ⟨gg, 0, none⟩ = some (.int .i64 pa) := QI.out.g.var.cell 0
    have d1 : VI.cell? ⟨gg, 1, none⟩ = some (.int .i64 pn) := QI.out.g.var.cell 1
    have d2 : VI.cell? ⟨gg, 2, none⟩ = some (.slice ga rs.length gc) := QI.out.g.var.cell 2
    have d3 : VI.cell? ⟨gg, 3, none⟩ = some (.slice ha fs.length hc) := QI.out.g.var.cell 3
    have KJ := Lib.hid (heldPool_any pa pn _ rs _ fs (by omega) (by omega) 1 (by omega) (by omega) VI QI.out.g.pool.leases QI.out.g.pool.fixes)
    go_wp2_with fail
    refine (KJ.out).mono ?_
    rintro e VK ⟨rfl, hbK⟩
    have BZ := Lib.hid (QI.out.next hbK).below
    clear hbK
    go_wp2_with fail
    go_ret
    exact ⟨rfl, BZ.out⟩

end Go.Proofs.Ytphmomlgmnllkaq
