/-
  The given StepBoth.
  Two slots in a variable, with rows of their own; marked and held.
  The exact law on Install, out of one answer that both give.
-/
import Derived.Test.YtoaifgblbfdncabDoorJ15
import Derived.Test.YtoaifgblbfdncabDoorJ28
import Derived.Test.YtoaifgblbfdncabDoorJ17
import Derived.Deep.RegionHeld3
namespace Go.Proofs.YtoaifgblbfdncabDoor
open Go.RowKit

set_option maxRecDepth 100000 in
set_option maxHeartbeats 3200000 in
theorem specStepBoth_any (x0 : Int) (x1 x2 : ByteArray) (x3 : Int) (v4 : Value) (r4 : List Int) (x5 : Int) (y0 : Int) (y1 y2 : ByteArray) (y3 : Int) (u4 : Value) (s4 : List Int) (y5 : Int) (now : Int) (l1 : x1.size ≤ 1048576) (l2 : x2.size ≤ 1048576) (hl : r4.length ≤ 10000000) (hk : s4.length ≤ 10000000) (w : World) (h : layIntS.rd w [v4] r4) (k : layIntS.rd w [u4] s4) :
    Calls Tryd.prog 11 #[.agg #[.int .i64 x0, .string x1, .string x2, .int .i64 x3, v4, .int .i64 x5, .int .i64 y0, .string y1, .string y2, .int .i64 y3, u4, .int .i64 y5], .int .i64 now] w (InstallEnd x0 x1 x2 x3 r4 x5 y0 y1 y2 y3 s4 y5 (nextK x1) (nextK x2) now w) := by
  obtain ⟨a4, p4, rfl⟩ := rows_form h
  obtain ⟨b4, q4, rfl⟩ := rows_form k
  have e1 : (w.alloc (.cells #[.int .i64 x0, .string x1, .string x2, .int .i64 x3, .slice a4 r4.length p4, .int .i64 x5, .int .i64 y0, .string y1, .string y2, .int .i64 y3, .slice b4 s4.length q4, .int .i64 y5] SlotsT)).heap.size = w.heap.size + 1 := by simp
  have h2 := VarA.new (w.alloc (.cells #[.int .i64 x0, .string x1, .string x2, .int .i64 x3, .slice a4 r4.length p4, .int .i64 x5, .int .i64 y0, .string y1, .string y2, .int .i64 y3, .slice b4 s4.length q4, .int .i64 y5] SlotsT)) SlotsT #[.int .i64 0, .string ⟨#[]⟩, .string ⟨#[]⟩, .int .i64 0, .slice none 0 0, .int .i64 0, .int .i64 0, .string ⟨#[]⟩, .string ⟨#[]⟩, .int .i64 0, .slice none 0 0, .int .i64 0]
  rw [e1] at h2
  have A0 := Lib.hid ((VarA.new w SlotsT #[.int .i64 x0, .string x1, .string x2, .int .i64 x3, .slice a4 r4.length p4, .int .i64 x5, .int .i64 y0, .string y1, .string y2, .int .i64 y3, .slice b4 s4.length q4, .int .i64 y5]).alloc (.cells #[.int .i64 0, .string ⟨#[]⟩, .string ⟨#[]⟩, .int .i64 0, .slice none 0 0, .int .i64 0, .int .i64 0, .string ⟨#[]⟩, .string ⟨#[]⟩, .int .i64 0, .slice none 0 0, .int .i64 0] SlotsT))
  have A1 := Lib.hid h2
  have BY := Lib.hid (((Below.refl w.heap.size w).alloc (Nat.le_refl _) (.cells #[.int .i64 x0, .string x1, .string x2, .int .i64 x3, .slice a4 r4.length p4, .int .i64 x5, .int .i64 y0, .string y1, .string y2, .int .i64 y3, .slice b4 s4.length q4, .int .i64 y5] SlotsT)).alloc (by simp) (.cells #[.int .i64 0, .string ⟨#[]⟩, .string ⟨#[]⟩, .int .i64 0, .slice none 0 0, .int .i64 0, .int .i64 0, .string ⟨#[]⟩, .string ⟨#[]⟩, .int .i64 0, .slice none 0 0, .int .i64 0] SlotsT))
  have hz : Hid (w.heap.size + 2 ≤ ((w.alloc (.cells #[.int .i64 x0, .string x1, .string x2, .int .i64 x3, .slice a4 r4.length p4, .int .i64 x5, .int .i64 y0, .string y1, .string y2, .int .i64 y3, .slice b4 s4.length q4, .int .i64 y5] SlotsT)).alloc (.cells #[.int .i64 0, .string ⟨#[]⟩, .string ⟨#[]⟩, .int .i64 0, .slice none 0 0, .int .i64 0, .int .i64 0, .string ⟨#[]⟩, .string ⟨#[]⟩, .int .i64 0, .slice none 0 0, .int .i64 0] SlotsT)).heap.size) := Lib.hid (by simp)
  have HR := Lib.hid h
  have HK := Lib.hid k
  have HN := Lib.hid (specNextKeys_any x1 x2 (by omega) (by omega))
  clear h k h2 e1
  obtain ⟨Q, HQ⟩ : ∃ Q : Ending → World → Prop, Hid (Q = InstallEnd x0 x1 x2 x3 r4 x5 y0 y1 y2 y3 s4 y5 (nextK x1) (nextK x2) now w) := ⟨_, Lib.hid rfl⟩
  rw [← HQ.out]
  obtain ⟨na, NA⟩ : ∃ n, Hid (nextK x1 = n) := ⟨_, Lib.hid rfl⟩
  obtain ⟨nb, NB⟩ : ∃ n, Hid (nextK x2 = n) := ⟨_, Lib.hid rfl⟩
  rw [NA.out, NB.out] at HN
  go_enter Tryd.func11, Tryd.ntmps11
  go_upto_region 1 with fail
  generalize ((w.alloc (.cells #[.int .i64 x0, .string x1, .string x2, .int .i64 x3, .slice a4 r4.length p4, .int .i64 x5, .int .i64 y0, .string y1, .string y2, .int .i64 y3, .slice b4 s4.length q4, .int .i64 y5] SlotsT)).alloc (.cells #[.int .i64 0, .string ⟨#[]⟩, .string ⟨#[]⟩, .int .i64 0, .slice none 0 0, .int .i64 0, .int .i64 0, .string ⟨#[]⟩, .string ⟨#[]⟩, .int .i64 0, .slice none 0 0, .int .i64 0] SlotsT)) = Y at *
  have c0 : Y.cell? ⟨w.heap.size, 0, none⟩ = some (.int .i64 x0) := A0.out.cell 0
  have c1 : Y.cell? ⟨w.heap.size, 1, none⟩ = some (.string x1) := A0.out.cell 1
  have c2 : Y.cell? ⟨w.heap.size, 2, none⟩ = some (.string x2) := A0.out.cell 2
  have c3 : Y.cell? ⟨w.heap.size, 3, none⟩ = some (.int .i64 x3) := A0.out.cell 3
  have c4 : Y.cell? ⟨w.heap.size, 4, none⟩ = some (.slice a4 r4.length p4) := A0.out.cell 4
  have c5 : Y.cell? ⟨w.heap.size, 5, none⟩ = some (.int .i64 x5) := A0.out.cell 5
  have c6 : Y.cell? ⟨w.heap.size, 6, none⟩ = some (.int .i64 y0) := A0.out.cell 6
  have c7 : Y.cell? ⟨w.heap.size, 7, none⟩ = some (.string y1) := A0.out.cell 7
  have c8 : Y.cell? ⟨w.heap.size, 8, none⟩ = some (.string y2) := A0.out.cell 8
  have c9 : Y.cell? ⟨w.heap.size, 9, none⟩ = some (.int .i64 y3) := A0.out.cell 9
  have c10 : Y.cell? ⟨w.heap.size, 10, none⟩ = some (.slice b4 s4.length q4) := A0.out.cell 10
  have c11 : Y.cell? ⟨w.heap.size, 11, none⟩ = some (.int .i64 y5) := A0.out.cell 11
  go_wp2_with fail
  refine (HN.out Y).mono ?_
  rintro e Y1 ⟨rfl, hb⟩
  replace A0 := Lib.hid (A0.out.next hb)
  replace A1 := Lib.hid (A1.out.next hb)
  replace hz := Lib.hid (Nat.le_trans hz.out hb.size)
  replace BY := Lib.hid (BY.out.trans (hb.mono BY.out.size))
  clear hb HN c0 c1 c2 c3 c4 c5 c6 c7 c8 c9 c10 c11
  have c0 : Y1.cell? ⟨w.heap.size, 0, none⟩ = some (.int .i64 x0) := A0.out.cell 0
  have c1 : Y1.cell? ⟨w.heap.size, 1, none⟩ = some (.string x1) := A0.out.cell 1
  have c2 : Y1.cell? ⟨w.heap.size, 2, none⟩ = some (.string x2) := A0.out.cell 2
  have c3 : Y1.cell? ⟨w.heap.size, 3, none⟩ = some (.int .i64 x3) := A0.out.cell 3
  have c4 : Y1.cell? ⟨w.heap.size, 4, none⟩ = some (.slice a4 r4.length p4) := A0.out.cell 4
  have c5 : Y1.cell? ⟨w.heap.size, 5, none⟩ = some (.int .i64 x5) := A0.out.cell 5
  have c6 : Y1.cell? ⟨w.heap.size, 6, none⟩ = some (.int .i64 y0) := A0.out.cell 6
  have c7 : Y1.cell? ⟨w.heap.size, 7, none⟩ = some (.string y1) := A0.out.cell 7
  have c8 : Y1.cell? ⟨w.heap.size, 8, none⟩ = some (.string y2) := A0.out.cell 8
  have c9 : Y1.cell? ⟨w.heap.size, 9, none⟩ = some (.int .i64 y3) := A0.out.cell 9
  have c10 : Y1.cell? ⟨w.heap.size, 10, none⟩ = some (.slice b4 s4.length q4) := A0.out.cell 10
  have c11 : Y1.cell? ⟨w.heap.size, 11, none⟩ = some (.int .i64 y5) := A0.out.cell 11
  have K := Lib.hid (specInstall_any x0 x1 x2 x3 _ r4 x5 y0 y1 y2 y3 _ s4 y5 na nb now hl hk Y1 (layIntS.below HR.out BY.out) (layIntS.below HK.out BY.out))
  go_wp2_with fail
  refine (K.out).mono ?_
  rintro e Y2 ⟨z0, z1, z2, z3, t4, z5, n0, n1, n2, n3, o4, n5, ok, v5, u5, f, g, hc, rfl, hd, o1, o2, hb⟩
  obtain ⟨ma, mk, rfl⟩ := rows_form (layIntS.read o1)
  obtain ⟨la, lk, rfl⟩ := rows_form (layIntS.read o2)
  have HC := Lib.hid hc
  have ND := Lib.hid hd
  have O1 := Lib.hid o1
  have O2 := Lib.hid o2
  replace A1 := Lib.hid (A1.out.next hb)
  replace BY := Lib.hid (BY.out.trans (hb.mono BY.out.size))
  clear hb K hc hd o1 o2 A0 c0 c1 c2 c3 c4 c5 c6 c7 c8 c9 c10 c11
  have d0 : Y2.cell? ⟨w.heap.size + 1, 0, none⟩ = some (.int .i64 0) := A1.out.cell 0
  have d1 : Y2.cell? ⟨w.heap.size + 1, 1, none⟩ = some (.string ⟨#[]⟩) := A1.out.cell 1
  have d2 : Y2.cell? ⟨w.heap.size + 1, 2, none⟩ = some (.string ⟨#[]⟩) := A1.out.cell 2
  have d3 : Y2.cell? ⟨w.heap.size + 1, 3, none⟩ = some (.int .i64 0) := A1.out.cell 3
  have d4 : Y2.cell? ⟨w.heap.size + 1, 4, none⟩ = some (.slice none 0 0) := A1.out.cell 4
  have d5 : Y2.cell? ⟨w.heap.size + 1, 5, none⟩ = some (.int .i64 0) := A1.out.cell 5
  have d6 : Y2.cell? ⟨w.heap.size + 1, 6, none⟩ = some (.int .i64 0) := A1.out.cell 6
  have d7 : Y2.cell? ⟨w.heap.size + 1, 7, none⟩ = some (.string ⟨#[]⟩) := A1.out.cell 7
  have d8 : Y2.cell? ⟨w.heap.size + 1, 8, none⟩ = some (.string ⟨#[]⟩) := A1.out.cell 8
  have d9 : Y2.cell? ⟨w.heap.size + 1, 9, none⟩ = some (.int .i64 0) := A1.out.cell 9
  have d10 : Y2.cell? ⟨w.heap.size + 1, 10, none⟩ = some (.slice none 0 0) := A1.out.cell 10
  have d11 : Y2.cell? ⟨w.heap.size + 1, 11, none⟩ = some (.int .i64 0) := A1.out.cell 11
  have g0 := A1.out.free 0
  have g1 := A1.out.free 1
  have g2 := A1.out.free 2
  have g3 := A1.out.free 3
  have g4 := A1.out.free 4
  have g5 := A1.out.free 5
  have g6 := A1.out.free 6
  have g7 := A1.out.free 7
  have g8 := A1.out.free 8
  have g9 := A1.out.free 9
  have g10 := A1.out.free 10
  have g11 := A1.out.free 11
  have S1 := putBoth A1.out (.int .i64 z0) (.string z1) (.string z2) (.int .i64 z3) (.slice ma t4.length mk) (.int .i64 z5) (.int .i64 n0) (.string n1) (.string n2) (.int .i64 n3) (.slice la o4.length lk) (.int .i64 n5)
  have j0 := S1.cell 0
  have j1 := S1.cell 1
  have j2 := S1.cell 2
  have j3 := S1.cell 3
  have j4 := S1.cell 4
  have j5 := S1.cell 5
  have j6 := S1.cell 6
  have j7 := S1.cell 7
  have j8 := S1.cell 8
  have j9 := S1.cell 9
  have j10 := S1.cell 10
  have j11 := S1.cell 11
  have E : Hid (Q (.returned (.tuple #[.agg #[.int .i64 z0, .string z1, .string z2, .int .i64 z3, .slice ma t4.length mk, .int .i64 z5, .int .i64 n0, .string n1, .string n2, .int .i64 n3, .slice la o4.length lk, .int .i64 n5], .bool ok])) ((((((((((((Y2.setCell ⟨w.heap.size + 1, 0, none⟩ (.int .i64 z0)).setCell ⟨w.heap.size + 1, 1, none⟩ (.string z1)).setCell ⟨w.heap.size + 1, 2, none⟩ (.string z2)).setCell ⟨w.heap.size + 1, 3, none⟩ (.int .i64 z3)).setCell ⟨w.heap.size + 1, 4, none⟩ (.slice ma t4.length mk)).setCell ⟨w.heap.size + 1, 5, none⟩ (.int .i64 z5)).setCell ⟨w.heap.size + 1, 6, none⟩ (.int .i64 n0)).setCell ⟨w.heap.size + 1, 7, none⟩ (.string n1)).setCell ⟨w.heap.size + 1, 8, none⟩ (.string n2)).setCell ⟨w.heap.size + 1, 9, none⟩ (.int .i64 n3)).setCell ⟨w.heap.size + 1, 10, none⟩ (.slice la o4.length lk)).setCell ⟨w.heap.size + 1, 11, none⟩ (.int .i64 n5))) := by
    rw [HQ.out]
    have ho : Only (w.heap.size + 1) Y2 ((((((((((((Y2.setCell ⟨w.heap.size + 1, 0, none⟩ (.int .i64 z0)).setCell ⟨w.heap.size + 1, 1, none⟩ (.string z1)).setCell ⟨w.heap.size + 1, 2, none⟩ (.string z2)).setCell ⟨w.heap.size + 1, 3, none⟩ (.int .i64 z3)).setCell ⟨w.heap.size + 1, 4, none⟩ (.slice ma t4.length mk)).setCell ⟨w.heap.size + 1, 5, none⟩ (.int .i64 z5)).setCell ⟨w.heap.size + 1, 6, none⟩ (.int .i64 n0)).setCell ⟨w.heap.size + 1, 7, none⟩ (.string n1)).setCell ⟨w.heap.size + 1, 8, none⟩ (.string n2)).setCell ⟨w.heap.size + 1, 9, none⟩ (.int .i64 n3)).setCell ⟨w.heap.size + 1, 10, none⟩ (.slice la o4.length lk)).setCell ⟨w.heap.size + 1, 11, none⟩ (.int .i64 n5)) := (putMain_only Y2 (w.heap.size + 1) _ _ _ _ _ _).trans (putLame_only _ (w.heap.size + 1) _ _ _ _ _ _)
    have hbel : Below w.heap.size w ((((((((((((Y2.setCell ⟨w.heap.size + 1, 0, none⟩ (.int .i64 z0)).setCell ⟨w.heap.size + 1, 1, none⟩ (.string z1)).setCell ⟨w.heap.size + 1, 2, none⟩ (.string z2)).setCell ⟨w.heap.size + 1, 3, none⟩ (.int .i64 z3)).setCell ⟨w.heap.size + 1, 4, none⟩ (.slice ma t4.length mk)).setCell ⟨w.heap.size + 1, 5, none⟩ (.int .i64 z5)).setCell ⟨w.heap.size + 1, 6, none⟩ (.int .i64 n0)).setCell ⟨w.heap.size + 1, 7, none⟩ (.string n1)).setCell ⟨w.heap.size + 1, 8, none⟩ (.string n2)).setCell ⟨w.heap.size + 1, 9, none⟩ (.int .i64 n3)).setCell ⟨w.heap.size + 1, 10, none⟩ (.slice la o4.length lk)).setCell ⟨w.heap.size + 1, 11, none⟩ (.int .i64 n5)) := putBoth_below BY.out (show w.heap.size ≤ w.heap.size + 1 by omega) _ _ _ _ _ _ _ _ _ _ _ _
    have hlo := hz.out
    exact Lib.hid ⟨z0, z1, z2, z3, t4, z5, n0, n1, n2, n3, o4, n5, ok, _, _, f, g, by rw [NA.out, NB.out]; exact HC.out, rfl, ND.out, layIntS.lower (layIntS.keep O1.out (fun a ha => ho.block a (layIntS.blocks O1.out a ha).2 (by have := (layIntS.blocks O1.out a ha).1; omega))) (by omega), layIntS.lower (layIntS.keep O2.out (fun a ha => ho.block a (layIntS.blocks O2.out a ha).2 (by have := (layIntS.blocks O2.out a ha).1; omega))) (by omega), hbel⟩
  clear S1
  go_wp2_with fail
  try simp only [Exit.inBlock, Exit.then]
  exact bodyPost_ret (v := .tuple #[.agg #[.int .i64 z0, .string z1, .string z2, .int .i64 z3, .slice ma t4.length mk, .int .i64 z5, .int .i64 n0, .string n1, .string n2, .int .i64 n3, .slice la o4.length lk, .int .i64 n5], .bool ok]) (by simp [results, Tryd.results11, go_sem, j0, j1, j2, j3, j4, j5, j6, j7, j8, j9, j10, j11]) rfl E.out

end Go.Proofs.YtoaifgblbfdncabDoor
namespace Go.Proofs.YtoaifgblbfdncabDoor
open Go.RowKit

/-- Two slots in variable G, whose rows lie in blocks from lo on, below hi. -/
structure SO (lo hi G : Nat) (cs : Array Value) (v u : Value) (r s : List Int) (X : World) : Prop where
  var : VarA G SlotsT cs X
  co : ∃ f g : List Nat, (f ++ g).Nodup ∧ layIntS.own X lo f [v] r ∧ layIntS.own X lo g [u] s ∧ ∀ a ∈ f ++ g, a < hi
  gh : hi ≤ G
section
variable {lo hi G : Nat} {cs : Array Value} {v u : Value} {r s : List Int} {X Y : World}
theorem SO.next (h : SO lo hi G cs v u r s X) (hb : Below X.heap.size X Y) : SO lo hi G cs v u r s Y := by
  obtain ⟨f, g, hd, h1, h2, h3⟩ := h.co
  exact ⟨h.var.next hb, ⟨f, g, hd, layIntS.next h1 hb, layIntS.next h2 hb, h3⟩, h.gh⟩
theorem SO.rd1 (h : SO lo hi G cs v u r s X) : layIntS.rd X [v] r := by
  obtain ⟨f, g, hd, h1, h2, h3⟩ := h.co
  exact layIntS.read h1
theorem SO.rd2 (h : SO lo hi G cs v u r s X) : layIntS.rd X [u] s := by
  obtain ⟨f, g, hd, h1, h2, h3⟩ := h.co
  exact layIntS.read h2
/-- Blocks from a on, below b, alone are changed. -/
def ChgIn (a b : Nat) (X Y : World) : Prop := ∃ f : List Nat, (∀ g ∈ f, a ≤ g ∧ g < b) ∧ Chg f X Y
theorem SO.away (h : SO lo hi G cs v u r s X) {a b : Nat} (hc : ChgIn a b X Y) (ho : b ≤ lo ∨ hi ≤ a) (hG : G < a ∨ b ≤ G) : SO lo hi G cs v u r s Y := by
  obtain ⟨f, g, hd, h1, h2, h3⟩ := h.co
  obtain ⟨e, he, hc⟩ := hc
  refine ⟨⟨(hc.block G h.var.lt (fun hm => by have := he G hm; omega)).trans h.var.row⟩, ⟨f, g, hd, layIntS.chg h1 hc (fun x hx hm => ?_), layIntS.chg h2 hc (fun x hx hm => ?_), h3⟩, h.gh⟩
  · have h5 := (layIntS.blocks h1 x hx).1
    have h6 := h3 x (List.mem_append_left _ hx)
    have h7 := he x hm
    omega
  · have h5 := (layIntS.blocks h2 x hx).1
    have h6 := h3 x (List.mem_append_right _ hx)
    have h7 := he x hm
    omega
theorem ChgIn.var {a b : Nat} (hc : ChgIn a b X Y) {q : Nat} {t : TypeId} {es : Array Value} (h : VarA q t es X) (hq : q < a ∨ b ≤ q) : VarA q t es Y := by
  obtain ⟨f, h1, h2⟩ := hc
  exact ⟨(h2.block q h.lt (fun hm => by have := h1 q hm; omega)).trans h.row⟩
theorem ChgIn.below {W : World} {a b : Nat} (hb : Below W.heap.size W X) (hc : ChgIn a b X Y) (ha : W.heap.size ≤ a) : Below W.heap.size W Y := by
  obtain ⟨f, h1, h2⟩ := hc
  exact hb.trans (h2.below (fun g hg => by have := h1 g hg; omega) hb.size)
theorem ChgIn.size {a b : Nat} (hc : ChgIn a b X Y) : X.heap.size ≤ Y.heap.size := by
  obtain ⟨f, _, h⟩ := hc
  exact h.size
theorem SO.mark {z0 : Int} {z1 z2 : ByteArray} {z3 : Int} {z5 : Int} {n0 : Int} {n1 n2 : ByteArray} {n3 : Int} {n5 : Int} (h : SO lo hi G #[.int .i64 z0, .string z1, .string z2, .int .i64 z3, v, .int .i64 z5, .int .i64 n0, .string n1, .string n2, .int .i64 n3, u, .int .i64 n5] v u r s X) (l4 : r.length ≤ 10000000) (l5 : s.length ≤ 10000000) :
    Calls Tryd.prog 8 #[.agg #[.int .i64 z0, .string z1, .string z2, .int .i64 z3, v, .int .i64 z5, .int .i64 n0, .string n1, .string n2, .int .i64 n3, u, .int .i64 n5], .int .i64 1] X fun e Y => e = .returned (.int .i64 (1 + 1 * (r.length : Int) + 1 * (s.length : Int))) ∧ SO lo hi G #[.int .i64 z0, .string z1, .string z2, .int .i64 z3, v, .int .i64 z5, .int .i64 n0, .string n1, .string n2, .int .i64 n3, u, .int .i64 n5] v u (layIntS.mark 1 r).1 (layIntS.mark (1 + 1 * (r.length : Int)) s).1 Y ∧ ChgIn lo hi X Y := by
  obtain ⟨f, g, hd, h1, h2, h3⟩ := h.co
  refine (markSlots_any z0 z1 z2 z3 v r z5 n0 n1 n2 n3 u s n5 lo f g l4 l5 1 (by omega) (by omega) X hd h1 h2).mono ?_
  rintro e Y ⟨rfl, k1, k2, hc⟩
  have hin : ∀ a ∈ f ++ g, lo ≤ a ∧ a < hi := fun a ha => ⟨by
    rcases List.mem_append.1 ha with ha | ha
    · exact (layIntS.blocks h1 a ha).1
    · exact (layIntS.blocks h2 a ha).1, h3 a ha⟩
  have hG := h.gh
  exact ⟨rfl, ⟨⟨(hc.block G h.var.lt (fun hm => by have := hin G hm; omega)).trans h.var.row⟩, ⟨f, g, hd, k1, k2, h3⟩, h.gh⟩, f ++ g, hin, hc⟩
theorem SO.held {z0 : Int} {z1 z2 : ByteArray} {z3 : Int} {z5 : Int} {n0 : Int} {n1 n2 : ByteArray} {n3 : Int} {n5 : Int} (h : SO lo hi G #[.int .i64 z0, .string z1, .string z2, .int .i64 z3, v, .int .i64 z5, .int .i64 n0, .string n1, .string n2, .int .i64 n3, u, .int .i64 n5] v u (layIntS.mark 1 r).1 (layIntS.mark (1 + 1 * (r.length : Int)) s).1 X) (l4 : r.length ≤ 10000000) (l5 : s.length ≤ 10000000) :
    Calls Tryd.prog 9 #[.agg #[.int .i64 z0, .string z1, .string z2, .int .i64 z3, v, .int .i64 z5, .int .i64 n0, .string n1, .string n2, .int .i64 n3, u, .int .i64 n5], .int .i64 1] X fun e Y => e = .returned (.int .i64 (1 + 1 * (r.length : Int) + 1 * (s.length : Int))) ∧ Below X.heap.size X Y :=
  heldSlots_any z0 z1 z2 z3 v r z5 n0 n1 n2 n3 u s n5 l4 l5 1 (by omega) (by omega) X h.rd1 h.rd2
end
theorem SO.new {W X : World} {cs : Array Value} {v u : Value} {r s : List Int} {f g : List Nat} (hd : (f ++ g).Nodup) (h1 : layIntS.own X W.heap.size f [v] r) (h2 : layIntS.own X W.heap.size g [u] s) : SO W.heap.size X.heap.size X.heap.size cs v u r s (X.alloc (.cells cs SlotsT)) :=
  ⟨VarA.new X SlotsT cs, ⟨f, g, hd, layIntS.next h1 ((Below.refl _ _).alloc (Nat.le_refl _) _), layIntS.next h2 ((Below.refl _ _).alloc (Nat.le_refl _) _), fun a ha => by
    rcases List.mem_append.1 ha with ha | ha
    · exact (layIntS.blocks h1 a ha).2
    · exact (layIntS.blocks h2 a ha).2⟩, Nat.le_refl _⟩

end Go.Proofs.YtoaifgblbfdncabDoor
namespace Go.Proofs.YtoaifgblbfdncabDoor
open Go.RowKit

/-- Two slots laid anew, and whether. -/
def SlotsMadeB (x0 : Int) (x1 x2 : ByteArray) (x3 : Int) (r4 : List Int) (x5 : Int) (y0 : Int) (y1 y2 : ByteArray) (y3 : Int) (s4 : List Int) (y5 : Int) (ok : Bool) (w : World) (e : Ending) (w' : World) : Prop := ∃ v4 u4 f g, e = .returned (.tuple #[.agg #[.int .i64 x0, .string x1, .string x2, .int .i64 x3, v4, .int .i64 x5, .int .i64 y0, .string y1, .string y2, .int .i64 y3, u4, .int .i64 y5], .bool ok]) ∧ (f ++ g).Nodup ∧ layIntS.own w' w.heap.size f [v4] r4 ∧ layIntS.own w' w.heap.size g [u4] s4 ∧ Below w.heap.size w w'
end Go.Proofs.YtoaifgblbfdncabDoor
