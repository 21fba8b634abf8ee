/-
  Rows of ints of the call's own; no program is spoken of here.
  The program's hello of a meeting, and whether events are right.
-/
import Derived.Test.YtkjjdoadjhjmbauGreatDoorJ05
import Derived.Test.YtkjjdoadjhjmbauGreatDoorRows
import Derived.Test.YtkjjdoadjhjmbauGreatDoorJ31
namespace Go.Proofs.YtkjjdoadjhjmbauGreatDoor
open Go.RowKit

def layIntS : Lay (List Int) := .rows 3 .int
theorem int_own {w : World} {b : Nat} {f : List Nat} {cs : List Value} {x : Int} : Lay.int.own w b f cs x ↔ f = [] ∧ cs = [.int .i64 x] := Iff.rfl
theorem int_rd {w : World} {cs : List Value} {x : Int} : Lay.int.rd w cs x ↔ cs = [.int .i64 x] := Iff.rfl
theorem zeroInt_none (w : World) (b : Nat) (f : List Nat) (c : List Value) (h : Lay.int.own w b f c 0) : f = [] := h.1
theorem infoInt : (Tryz.prog.info? 3).map (fun i => (i.zero, i.size, i.bytes)) = some (some (.int .i64 0), 1, 8) := by kernel_rfl
/-- One number of a row that can be read. -/
theorem ints_get {w : World} {v : Value} {xs : List Int} (h : layIntS.rd w [v] xs) (m : Nat) (hm : m < xs.length) : ∃ g off cap, v = .slice (some ⟨g, off, none⟩) xs.length cap ∧ g < w.heap.size ∧ w.cell? ⟨g, off + m, none⟩ = some (.int .i64 xs[m]) := by
  obtain ⟨a, cap, rfl⟩ := rows_form h
  obtain ⟨g, off, c, rfl, hg, hr, hc⟩ := rows_elem h m _ (List.getElem?_eq_getElem hm)
  rw [int_rd] at hr
  subst hr
  refine ⟨g, off, cap, rfl, hg, ?_⟩
  have := hc 0 _ rfl
  rw [show Lay.int.k = 1 from rfl, Nat.mul_one] at this
  exact this
/-- One number of a row is read and written. -/
theorem ints_put {w : World} {b : Nat} {fp : List Nat} {v : Value} {xs : List Int} (h : layIntS.own w b fp [v] xs) (hd : fp.Nodup) (m : Nat) (hm : m < xs.length) (y : Int) :
    ∃ g cap, v = .slice (some ⟨g, 0, none⟩) xs.length cap ∧ b ≤ g ∧ g < w.heap.size ∧ g ∈ fp ∧ w.cell? ⟨g, m, none⟩ = some (.int .i64 xs[m]) ∧ w.frozen? ⟨g, m, none⟩ = false ∧
      layIntS.own (w.setCell ⟨g, m, none⟩ (.int .i64 y)) b fp [v] (xs.set m y) ∧ Chg fp w (w.setCell ⟨g, m, none⟩ (.int .i64 y)) := by
  have e : xs = xs.take m ++ xs[m] :: xs.drop (m + 1) := by rw [List.getElem_cons_drop, List.take_append_drop]
  have es : xs.set m y = xs.take m ++ y :: xs.drop (m + 1) := by rw [List.set_eq_take_append_cons_drop, if_pos hm]
  have hl : (xs.take m ++ xs[m] :: xs.drop (m + 1)).length = xs.length := by rw [← e]
  have h2 := h
  rw [e] at h2
  obtain ⟨g, cap, f1, f2, f3, u1, c, u3, hv, rfl, Z⟩ := rows_open h2 hd
  rw [hl] at hv
  obtain ⟨rfl, rfl⟩ := int_own.1 Z.mid
  have hml : (xs.take m).length = m := by rw [List.length_take]; omega
  have hc := Z.cell 0 _ rfl
  rw [show Lay.int.k = 1 from rfl, Nat.mul_one, hml] at hc
  have hs := Z.store [.int .i64 y] 0 (by simp) [] y (int_own.2 ⟨rfl, rfl⟩) Z.dup
  rw [show Lay.int.k = 1 from rfl, Nat.mul_one, hml] at hs
  refine ⟨g, cap, hv, Z.lt.1, Z.lt.2, by simp, hc.1, hc.2, ?_, hs.2.sub (by simp)⟩
  have h3 := hs.1.shut
  have e4 : (xs.take m ++ y :: xs.drop (m + 1)).length = xs.length := by rw [← es, List.length_set]
  rw [e4] at h3
  rw [es, hv]
  exact h3

end Go.Proofs.YtkjjdoadjhjmbauGreatDoor
namespace Go.Proofs.YtkjjdoadjhjmbauGreatDoor
open Go.RowKit

set_option maxRecDepth 100000 in
set_option maxHeartbeats 6400000 in
theorem meetHello0_any {lo m : Nat} {va vb : Value} {a0 a1 a2 a3 a4 : Int} {a5 a6 : ByteArray} {b0 b1 b2 b3 b4 : Int} {b5 b6 : ByteArray} {sa sb : List ByteArray}  {c0 c1 c2 c3 c4 : Int} {c5 c6 t : ByteArray} (HG : CloneG) (X : World) (hh : HelloIs a0 a3 a4 a5 c4 c5 t) (hc : c0 = a0 ∧ c1 = a1 ∧ c2 = a2 ∧ c3 = a3 ∧ c6 = a6) (h5 : a5.size ≤ 1000000) (h6 : a6.size ≤ 1000000) (hol : sa.length ≤ 1000000) (hlo : lo ≤ X.heap.size) (h : MM lo m va vb a0 a1 a2 a3 a4 a5 a6 b0 b1 b2 b3 b4 b5 b6 sa sb X) :
    Calls Tryz.prog 38 #[.pointer (some ⟨m, 0, none⟩), .int .i64 0] X fun r Y => r = .returned (.tuple #[]) ∧ (∃ v1, MM lo m v1 vb c0 c1 c2 c3 c4 c5 c6 b0 b1 b2 b3 b4 b5 b6 (sa ++ [t]) sb Y) ∧ Below lo X Y := by
  obtain ⟨rfl, rfl, rfl, rfl, rfl⟩ := hc
  obtain ⟨ao, ac, hvb⟩ := movS_form h.rowA
  subst hvb
  obtain ⟨i1, hi1, hz1, hsz1, hby1⟩ := info_of infoString
  have H2 := Lib.hid h
  have B2 := Lib.hid (Below.refl lo X)
  have HH := Lib.hid hh
  clear h hh
  have y0 : X.cell? ⟨m, 0, none⟩ = some (.int .i64 c0) := H2.out.var.cell 0
  have y1 : X.cell? ⟨m, 1, none⟩ = some (.int .i64 c1) := H2.out.var.cell 1
  have y2 : X.cell? ⟨m, 2, none⟩ = some (.int .i64 c2) := H2.out.var.cell 2
  have y3 : X.cell? ⟨m, 3, none⟩ = some (.int .i64 c3) := H2.out.var.cell 3
  have y4 : X.cell? ⟨m, 4, none⟩ = some (.int .i64 a4) := H2.out.var.cell 4
  have y5 : X.cell? ⟨m, 5, none⟩ = some (.string a5) := H2.out.var.cell 5
  have y6 : X.cell? ⟨m, 6, none⟩ = some (.string c6) := H2.out.var.cell 6
  have KH := Lib.hid (implHello_any HG c0 c1 c2 c3 a4 a5 c6 (by omega) (by omega) c4 c5 t HH.out X)
  go_enter Tryz.func38, Tryz.ntmps38
  go_wp2_with fail
  refine KH.out.mono ?_
  rintro e X3 ⟨rfl, hb⟩
  have H3 := Lib.hid (H2.out.next hb)
  have B3 := Lib.hid (B2.out.trans (hb.mono (Nat.le_trans hlo B2.out.size)))
  clear H2 B2 hb KH y0 y1 y2 y3 y4 y5 y6
  have hal : Below X3.heap.size X3 (X3.alloc (.cells #[.int .i64 c0, .int .i64 c1, .int .i64 c2, .int .i64 c3, .int .i64 c4, .string c5, .string c6] GreeterT)) := (Below.refl _ _).alloc (Nat.le_refl _) _
  have VG := Lib.hid (VarA.new X3 GreeterT #[.int .i64 c0, .int .i64 c1, .int .i64 c2, .int .i64 c3, .int .i64 c4, .string c5, .string c6])
  have H4 := Lib.hid (H3.out.next hal)
  have B4 := Lib.hid (B3.out.trans (hal.mono (Nat.le_trans hlo B3.out.size)))
  clear hal H3 B3
  go_upto_region 1 with fail
  generalize X3.alloc (.cells #[.int .i64 c0, .int .i64 c1, .int .i64 c2, .int .i64 c3, .int .i64 c4, .string c5, .string c6] GreeterT) = X4 at *
  generalize X3.heap.size = gn at *
  have y0 : X4.cell? ⟨m, 0, none⟩ = some (.int .i64 c0) := H4.out.var.cell 0
  have f0 := H4.out.var.free 0
  have y1 : X4.cell? ⟨m, 1, none⟩ = some (.int .i64 c1) := H4.out.var.cell 1
  have f1 := H4.out.var.free 1
  have y2 : X4.cell? ⟨m, 2, none⟩ = some (.int .i64 c2) := H4.out.var.cell 2
  have f2 := H4.out.var.free 2
  have y3 : X4.cell? ⟨m, 3, none⟩ = some (.int .i64 c3) := H4.out.var.cell 3
  have f3 := H4.out.var.free 3
  have y4 : X4.cell? ⟨m, 4, none⟩ = some (.int .i64 a4) := H4.out.var.cell 4
  have f4 := H4.out.var.free 4
  have y5 : X4.cell? ⟨m, 5, none⟩ = some (.string a5) := H4.out.var.cell 5
  have f5 := H4.out.var.free 5
  have y6 : X4.cell? ⟨m, 6, none⟩ = some (.string c6) := H4.out.var.cell 6
  have f6 := H4.out.var.free 6
  have e0 : X4.cell? ⟨gn, 0, none⟩ = some (.int .i64 c0) := VG.out.cell 0
  have e1 : X4.cell? ⟨gn, 1, none⟩ = some (.int .i64 c1) := VG.out.cell 1
  have e2 : X4.cell? ⟨gn, 2, none⟩ = some (.int .i64 c2) := VG.out.cell 2
  have e3 : X4.cell? ⟨gn, 3, none⟩ = some (.int .i64 c3) := VG.out.cell 3
  have e4 : X4.cell? ⟨gn, 4, none⟩ = some (.int .i64 c4) := VG.out.cell 4
  have e5 : X4.cell? ⟨gn, 5, none⟩ = some (.string c5) := VG.out.cell 5
  have e6 : X4.cell? ⟨gn, 6, none⟩ = some (.string c6) := VG.out.cell 6
  have hlx : lo ≤ X4.heap.size := Nat.le_trans hlo B4.out.size
  have hX5 : Only m X4 (((((((X4.setCell ⟨m, 0, none⟩ (.int .i64 c0)).setCell ⟨m, 1, none⟩ (.int .i64 c1)).setCell ⟨m, 2, none⟩ (.int .i64 c2)).setCell ⟨m, 3, none⟩ (.int .i64 c3)).setCell ⟨m, 4, none⟩ (.int .i64 c4)).setCell ⟨m, 5, none⟩ (.string c5)).setCell ⟨m, 6, none⟩ (.string c6)) := (((((((Only.setCell 0 (.int .i64 c0) : Only m X4 _).trans (Only.setCell 1 (.int .i64 c1))).trans (Only.setCell 2 (.int .i64 c2))).trans (Only.setCell 3 (.int .i64 c3))).trans (Only.setCell 4 (.int .i64 c4))).trans (Only.setCell 5 (.string c5))).trans (Only.setCell 6 (.string c6)))
  have H5 := Lib.hid ((H4.out.heardA (c0 := c0) (c1 := c1) (c2 := c2) (c3 := c3) (c4 := c4) (c5 := c5) (c6 := c6)).next ((Below.refl _ _).drew))
  have B5 := Lib.hid ((B4.out.trans (below_only hX5 H4.out.low hlx)).drew)
  clear hX5
  go_region
  go_upto_region 2 with fail
  generalize (((((((X4.setCell ⟨m, 0, none⟩ (.int .i64 c0)).setCell ⟨m, 1, none⟩ (.int .i64 c1)).setCell ⟨m, 2, none⟩ (.int .i64 c2)).setCell ⟨m, 3, none⟩ (.int .i64 c3)).setCell ⟨m, 4, none⟩ (.int .i64 c4)).setCell ⟨m, 5, none⟩ (.string c5)).setCell ⟨m, 6, none⟩ (.string c6)).drew = X5 at *
  clear H4 B4 VG hlx y0 f0 e0 y1 f1 e1 y2 f2 e2 y3 f3 e3 y4 f4 e4 y5 f5 e5 y6 f6 e6
  have s1 : X5.cell? ⟨m, 14, none⟩ = some (.slice ao sa.length ac) := H5.out.var.cell 14
  have AD : Below X5.heap.size X5 (X5.alloc (.cells #[.string t] StringT)).drew := ((Below.refl _ _).alloc (Nat.le_refl _) _).drew
  have H6 := Lib.hid (H5.out.next AD)
  have B6 := Lib.hid (B5.out.trans (AD.mono (Nat.le_trans hlo B5.out.size)))
  have r2 : (X5.alloc (.cells #[.string t] StringT)).cell? ⟨m, 14, none⟩ = some (.slice ao sa.length ac) := H6.out.var.cell 14
  have hws : lo ≤ (X5.alloc (.cells #[.string t] StringT)).drew.heap.size := Nat.le_trans hlo B6.out.size
  clear AD H5 B5
  go_region_law (refine step_pushMv rfl (.tmp 29) (.tmp 31) 31 rfl lo StringT i1 (.string ⟨#[]⟩) 16 Tryz.underlying31 hi1 hz1 hsz1 hby1 rfl (by omega) (.slice ao sa.length ac) (strC sa) (by first | rfl | simp [Act.eval, Act.put]) H6.out.rowA (.string t) rfl ⟨X5.heap.size, 0, none⟩ (by first | rfl | simp [Act.eval, Act.put]) (cell_lit X5 (.string t) StringT) (by rw [strC_len]; omega) hws ?_; intro v1 w2 hp; obtain ⟨a9, k9, hv9⟩ := hp.row.form; obtain ⟨l9, HL9⟩ : ∃ l : Nat, Hid ((strC sa ++ [Value.string t]).length = l) := ⟨_, Lib.hid rfl⟩; rw [HL9.out] at hv9; subst hv9; obtain ⟨d1, d2, hgm⟩ := H6.out.saidA hp)
  all_goals
    have HM := Lib.hid hgm
    have BM := Lib.hid ((B6.out.trans hp.below).trans (below_only (Only.setCell (c := m) (w := w2) 14 (.slice a9 l9 k9)) H6.out.low (Nat.le_trans hlo (B6.out.trans hp.below).size)))
    clear hgm hp r2 s1
    go_wp2_with fail
    exact bodyPost_end (results_none rfl _ _ _) rfl ⟨rfl, ⟨.slice a9 l9 k9, HM.out⟩, BM.out⟩

set_option maxRecDepth 100000 in
set_option maxHeartbeats 6400000 in
theorem meetHello1_any {lo m : Nat} {va vb : Value} {a0 a1 a2 a3 a4 : Int} {a5 a6 : ByteArray} {b0 b1 b2 b3 b4 : Int} {b5 b6 : ByteArray} {sa sb : List ByteArray}  {c0 c1 c2 c3 c4 : Int} {c5 c6 t : ByteArray} (HG : CloneG) (X : World) (hh : HelloIs b0 b3 b4 b5 c4 c5 t) (hc : c0 = b0 ∧ c1 = b1 ∧ c2 = b2 ∧ c3 = b3 ∧ c6 = b6) (h5 : b5.size ≤ 1000000) (h6 : b6.size ≤ 1000000) (hol : sb.length ≤ 1000000) (hlo : lo ≤ X.heap.size) (h : MM lo m va vb a0 a1 a2 a3 a4 a5 a6 b0 b1 b2 b3 b4 b5 b6 sa sb X) :
    Calls Tryz.prog 38 #[.pointer (some ⟨m, 0, none⟩), .int .i64 1] X fun r Y => r = .returned (.tuple #[]) ∧ (∃ v1, MM lo m va v1 a0 a1 a2 a3 a4 a5 a6 c0 c1 c2 c3 c4 c5 c6 sa (sb ++ [t]) Y) ∧ Below lo X Y := by
  obtain ⟨rfl, rfl, rfl, rfl, rfl⟩ := hc
  obtain ⟨ao, ac, hvb⟩ := movS_form h.rowB
  subst hvb
  obtain ⟨i1, hi1, hz1, hsz1, hby1⟩ := info_of infoString
  have H2 := Lib.hid h
  have B2 := Lib.hid (Below.refl lo X)
  have HH := Lib.hid hh
  clear h hh
  have y0 : X.cell? ⟨m, 7, none⟩ = some (.int .i64 c0) := H2.out.var.cell 7
  have y1 : X.cell? ⟨m, 8, none⟩ = some (.int .i64 c1) := H2.out.var.cell 8
  have y2 : X.cell? ⟨m, 9, none⟩ = some (.int .i64 c2) := H2.out.var.cell 9
  have y3 : X.cell? ⟨m, 10, none⟩ = some (.int .i64 c3) := H2.out.var.cell 10
  have y4 : X.cell? ⟨m, 11, none⟩ = some (.int .i64 b4) := H2.out.var.cell 11
  have y5 : X.cell? ⟨m, 12, none⟩ = some (.string b5) := H2.out.var.cell 12
  have y6 : X.cell? ⟨m, 13, none⟩ = some (.string c6) := H2.out.var.cell 13
  have KH := Lib.hid (implHello_any HG c0 c1 c2 c3 b4 b5 c6 (by omega) (by omega) c4 c5 t HH.out X)
  go_enter Tryz.func38, Tryz.ntmps38
  go_wp2_with fail
  refine KH.out.mono ?_
  rintro e X3 ⟨rfl, hb⟩
  have H3 := Lib.hid (H2.out.next hb)
  have B3 := Lib.hid (B2.out.trans (hb.mono (Nat.le_trans hlo B2.out.size)))
  clear H2 B2 hb KH y0 y1 y2 y3 y4 y5 y6
  have hal : Below X3.heap.size X3 (X3.alloc (.cells #[.int .i64 c0, .int .i64 c1, .int .i64 c2, .int .i64 c3, .int .i64 c4, .string c5, .string c6] GreeterT)) := (Below.refl _ _).alloc (Nat.le_refl _) _
  have VG := Lib.hid (VarA.new X3 GreeterT #[.int .i64 c0, .int .i64 c1, .int .i64 c2, .int .i64 c3, .int .i64 c4, .string c5, .string c6])
  have H4 := Lib.hid (H3.out.next hal)
  have B4 := Lib.hid (B3.out.trans (hal.mono (Nat.le_trans hlo B3.out.size)))
  clear hal H3 B3
  go_upto_region 1 with fail
  generalize X3.alloc (.cells #[.int .i64 c0, .int .i64 c1, .int .i64 c2, .int .i64 c3, .int .i64 c4, .string c5, .string c6] GreeterT) = X4 at *
  generalize X3.heap.size = gn at *
  have y0 : X4.cell? ⟨m, 7, none⟩ = some (.int .i64 c0) := H4.out.var.cell 7
  have f0 := H4.out.var.free 7
  have y1 : X4.cell? ⟨m, 8, none⟩ = some (.int .i64 c1) := H4.out.var.cell 8
  have f1 := H4.out.var.free 8
  have y2 : X4.cell? ⟨m, 9, none⟩ = some (.int .i64 c2) := H4.out.var.cell 9
  have f2 := H4.out.var.free 9
  have y3 : X4.cell? ⟨m, 10, none⟩ = some (.int .i64 c3) := H4.out.var.cell 10
  have f3 := H4.out.var.free 10
  have y4 : X4.cell? ⟨m, 11, none⟩ = some (.int .i64 b4) := H4.out.var.cell 11
  have f4 := H4.out.var.free 11
  have y5 : X4.cell? ⟨m, 12, none⟩ = some (.string b5) := H4.out.var.cell 12
  have f5 := H4.out.var.free 12
  have y6 : X4.cell? ⟨m, 13, none⟩ = some (.string c6) := H4.out.var.cell 13
  have f6 := H4.out.var.free 13
  have e0 : X4.cell? ⟨gn, 0, none⟩ = some (.int .i64 c0) := VG.out.cell 0
  have e1 : X4.cell? ⟨gn, 1, none⟩ = some (.int .i64 c1) := VG.out.cell 1
  have e2 : X4.cell? ⟨gn, 2, none⟩ = some (.int .i64 c2) := VG.out.cell 2
  have e3 : X4.cell? ⟨gn, 3, none⟩ = some (.int .i64 c3) := VG.out.cell 3
  have e4 : X4.cell? ⟨gn, 4, none⟩ = some (.int .i64 c4) := VG.out.cell 4
  have e5 : X4.cell? ⟨gn, 5, none⟩ = some (.string c5) := VG.out.cell 5
  have e6 : X4.cell? ⟨gn, 6, none⟩ = some (.string c6) := VG.out.cell 6
  have hlx : lo ≤ X4.heap.size := Nat.le_trans hlo B4.out.size
  have hX5 : Only m X4 (((((((X4.setCell ⟨m, 7, none⟩ (.int .i64 c0)).setCell ⟨m, 8, none⟩ (.int .i64 c1)).setCell ⟨m, 9, none⟩ (.int .i64 c2)).setCell ⟨m, 10, none⟩ (.int .i64 c3)).setCell ⟨m, 11, none⟩ (.int .i64 c4)).setCell ⟨m, 12, none⟩ (.string c5)).setCell ⟨m, 13, none⟩ (.string c6)) := (((((((Only.setCell 7 (.int .i64 c0) : Only m X4 _).trans (Only.setCell 8 (.int .i64 c1))).trans (Only.setCell 9 (.int .i64 c2))).trans (Only.setCell 10 (.int .i64 c3))).trans (Only.setCell 11 (.int .i64 c4))).trans (Only.setCell 12 (.string c5))).trans (Only.setCell 13 (.string c6)))
  have H5 := Lib.hid ((H4.out.heardB (c0 := c0) (c1 := c1) (c2 := c2) (c3 := c3) (c4 := c4) (c5 := c5) (c6 := c6)).next ((Below.refl _ _).drew))
  have B5 := Lib.hid ((B4.out.trans (below_only hX5 H4.out.low hlx)).drew)
  clear hX5
  go_region
  go_upto_region 2 with fail
  generalize (((((((X4.setCell ⟨m, 7, none⟩ (.int .i64 c0)).setCell ⟨m, 8, none⟩ (.int .i64 c1)).setCell ⟨m, 9, none⟩ (.int .i64 c2)).setCell ⟨m, 10, none⟩ (.int .i64 c3)).setCell ⟨m, 11, none⟩ (.int .i64 c4)).setCell ⟨m, 12, none⟩ (.string c5)).setCell ⟨m, 13, none⟩ (.string c6)).drew = X5 at *
  clear H4 B4 VG hlx y0 f0 e0 y1 f1 e1 y2 f2 e2 y3 f3 e3 y4 f4 e4 y5 f5 e5 y6 f6 e6
  have s1 : X5.cell? ⟨m, 15, none⟩ = some (.slice ao sb.length ac) := H5.out.var.cell 15
  have AD : Below X5.heap.size X5 (X5.alloc (.cells #[.string t] StringT)).drew := ((Below.refl _ _).alloc (Nat.le_refl _) _).drew
  have H6 := Lib.hid (H5.out.next AD)
  have B6 := Lib.hid (B5.out.trans (AD.mono (Nat.le_trans hlo B5.out.size)))
  have r2 : (X5.alloc (.cells #[.string t] StringT)).cell? ⟨m, 15, none⟩ = some (.slice ao sb.length ac) := H6.out.var.cell 15
  have hws : lo ≤ (X5.alloc (.cells #[.string t] StringT)).drew.heap.size := Nat.le_trans hlo B6.out.size
  clear AD H5 B5
  go_region_law (refine step_pushMv rfl (.tmp 29) (.tmp 31) 31 rfl lo StringT i1 (.string ⟨#[]⟩) 16 Tryz.underlying31 hi1 hz1 hsz1 hby1 rfl (by omega) (.slice ao sb.length ac) (strC sb) (by first | rfl | simp [Act.eval, Act.put]) H6.out.rowB (.string t) rfl ⟨X5.heap.size, 0, none⟩ (by first | rfl | simp [Act.eval, Act.put]) (cell_lit X5 (.string t) StringT) (by rw [strC_len]; omega) hws ?_; intro v1 w2 hp; obtain ⟨a9, k9, hv9⟩ := hp.row.form; obtain ⟨l9, HL9⟩ : ∃ l : Nat, Hid ((strC sb ++ [Value.string t]).length = l) := ⟨_, Lib.hid rfl⟩; rw [HL9.out] at hv9; subst hv9; obtain ⟨d1, d2, hgm⟩ := H6.out.saidB hp)
  all_goals
    have HM := Lib.hid hgm
    have BM := Lib.hid ((B6.out.trans hp.below).trans (below_only (Only.setCell (c := m) (w := w2) 15 (.slice a9 l9 k9)) H6.out.low (Nat.le_trans hlo (B6.out.trans hp.below).size)))
    clear hgm hp r2 s1
    go_wp2_with fail
    exact bodyPost_end (results_none rfl _ _ _) rfl ⟨rfl, ⟨.slice a9 l9 k9, HM.out⟩, BM.out⟩

set_option maxRecDepth 100000 in
set_option maxHeartbeats 800000 in
theorem areGreetEvents_any (es : List Int) (v : Value) (b : Bool) (hb : b = true ↔ es.length ≤ 60 ∧ ∀ e ∈ es, 0 ≤ e) (hl : es.length ≤ 100000000) (w : World) (h : layIntS.rd w [v] es) :
    Calls Tryz.prog 36 #[v] w fun e w' => e = .returned (.bool b) ∧ w' = w := by
  obtain ⟨ao, cp, rfl⟩ := rows_form h
  have HR := Lib.hid h
  have HB := Lib.hid hb
  clear h hb
  by_cases h60 : es.length ≤ 60
  rotate_left
  · have k1 : ¬ ((es.length : Int) ≤ 60) := by omega
    have k2 : (60 : Int) < (es.length : Int) := by omega
    obtain rfl : b = false := by
      cases b with
      | false => rfl
      | true => exact absurd (HB.out.1 rfl).1 h60
    clear h60
    go_enter Tryz.func36, Tryz.ntmps36
    go_wp2_with fail
    go_ret
    exact ⟨rfl, rfl⟩
  have k1 : ¬ ((60 : Int) < (es.length : Int)) := by omega
  go_enter Tryz.func36, Tryz.ntmps36
  go_wp2_with fail
  go_loop [10] (fun c => ∃ j : Nat, j ≤ es.length ∧ c = .int .i64 j ∧ Hid (∀ k, (hk : k < es.length) → k < j → 0 ≤ es[k])) (fun c => es.length - (intOf c).toNat)
  case atStart => exact ⟨0, Nat.zero_le _, rfl, Lib.hid (fun i _ h => absurd h (by omega))⟩
  case round =>
    obtain ⟨j, hj, rfl, HA⟩ := hrel
    by_cases hlt : j < es.length
    · have hlt' : (j : Int) < (es.length : Int) := by omega
      obtain ⟨g, off, cp2, hao, -, c0⟩ := ints_get HR.out j hlt
      obtain rfl : ao = some ⟨g, off, none⟩ := (Value.slice.inj hao).1
      clear hao
      have HX : Hid (∀ y, y = es[j] → 0 ≤ y → ∀ k, (hk : k < es.length) → k < j + 1 → 0 ≤ es[k]) := Lib.hid (fun y hy h0 k hk h => by
        rcases Nat.lt_or_ge k j with h2 | h2
        · exact HA.out k hk h2
        · have : k = j := by omega
          subst this
          rw [← hy]
          exact h0)
      have HN : Hid (∀ y, y = es[j] → y < 0 → b = false) := Lib.hid (fun y hy h0 => by
        cases b with
        | false => rfl
        | true =>
          have := (HB.out.1 rfl).2 _ (List.getElem_mem hlt)
          omega)
      obtain ⟨y, hy⟩ : ∃ y, y = es[j] := ⟨_, rfl⟩
      rw [← hy] at c0
      by_cases h0 : y < 0
      · obtain rfl := HN.out y hy h0
        clear hy HX HN
        go_wp2_with fail
        go_ret
        exact ⟨rfl, rfl⟩
      · have HJ := Lib.hid (HX.out y hy (by omega))
        clear hy HX HN
        go_wp2_with fail
        go_round
        case rel => exact ⟨j + 1, by omega, by go_num, HJ⟩
        case measure => simp [intOf]; omega
    · have hlt' : ¬ ((j : Int) < (es.length : Int)) := by omega
      obtain rfl : b = true := HB.out.2 ⟨h60, fun e he => by
        obtain ⟨i, hi, rfl⟩ := List.getElem_of_mem he
        exact HA.out i hi (by omega)⟩
      go_wp2_with fail
      go_ret
      exact ⟨rfl, rfl⟩

end Go.Proofs.YtkjjdoadjhjmbauGreatDoor
