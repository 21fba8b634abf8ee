/-
  The given l20Copy: a shelf that is copied.
-/
import Derived.Test.YthiicpbedgcmlaaJ08
import Derived.Test.YthiicpbedgcmlaaJ10
namespace Go.Proofs.Ythiicpbedgcmlaa
open Go.RowKit

theorem flatBool : Flat Lay.bool := ⟨fun _ _ _ _ h => bool_own.2 ⟨rfl, bool_rd.1 h⟩, fun _ _ _ _ _ h => (bool_own.1 h).1, fun _ _ _ _ h => bool_rd.2 (bool_rd.1 h)⟩
theorem lit_held (X : World) (cs : Array Value) (T : TypeId) (j : Nat) (u : Value) (hj : cs.toList[j]? = some u) : (X.alloc (.cells cs T)).cell? ((⟨X.heap.size, 0, none⟩ : Addr).add j) = some u := by
  have e1 : (⟨X.heap.size, 0, none⟩ : Addr).add j = ⟨X.heap.size, j, none⟩ := by unfold Addr.add; split <;> simp_all
  rw [e1, cell_of_row (X.alloc (.cells cs T)) X.heap.size j cs T (0, 0) (heap_alloc_new X _)]
  simpa using hj
/-- The shelf, the result and the copy in their variables. -/
structure CSV (w : World) (v u : Value) (fp : List Nat) (ys : List HeldD) (X : World) : Prop where
  s : VarA w.heap.size ShelfT #[v] X
  r : VarA (w.heap.size + 1) ShelfT #[.slice none 0 0] X
  o : VarA (w.heap.size + 1 + 1) ShelfT #[u] X
  dup : fp.Nodup
  own : layHeldS.own X (w.heap.size + 1 + 1 + 1) fp [u] ys
  below : Below w.heap.size w X
section
variable {w X Y : World} {v u : Value} {fp : List Nat} {ys : List HeldD}
theorem CSV.next (h : CSV w v u fp ys X) (hb : Below X.heap.size X Y) : CSV w v u fp ys Y := ⟨h.s.next hb, h.r.next hb, h.o.next hb, h.dup, layHeldS.next h.own hb, h.below.trans (hb.mono h.below.size)⟩
theorem CSV.off {g : Nat} (h : CSV w v u fp ys X) (ho : Only g X Y) (hg : w.heap.size + 1 + 1 + 1 ≤ g) (hn : ∀ a ∈ fp, a < g) : CSV w v u fp ys Y :=
  ⟨h.s.only ho (by omega), h.r.only ho (by omega), h.o.only ho (by omega), h.dup, layHeldS.keep h.own (fun a ha => ho.block a (layHeldS.blocks h.own a ha).2 (by have := hn a ha; omega)), h.below.trans (ho.below (by omega) h.below.size)⟩
theorem CSV.pushed {fy f' : List Nat} {y : HeldD} {zs : List HeldD} {u' : Value} (h : CSV w v u fp ys X) (hp : Pushed HeldT layHeld (w.heap.size + 1 + 1 + 1) u fp fy ys y X u' Y) (ho : layHeldS.own Y (w.heap.size + 1 + 1 + 1) f' [u'] zs) (hd : f'.Nodup) : CSV w v u' f' zs (Y.setCell ⟨w.heap.size + 1 + 1, 0, none⟩ u') := by
  have hc : Only (w.heap.size + 1 + 1) Y (Y.setCell ⟨w.heap.size + 1 + 1, 0, none⟩ u') := Only.setCell 0 _
  exact ⟨(h.s.next' hp.below (by omega)).only hc (by omega), (h.r.next' hp.below (by omega)).only hc (by omega), (h.o.next' hp.below (by omega)).set 0 _, hd, layHeldS.keep ho (fun a ha => hc.block a (layHeldS.blocks ho a ha).2 (by have := (layHeldS.blocks ho a ha).1; omega)), (h.below.trans (hp.below.mono (by omega))).setCell (p := ⟨w.heap.size + 1 + 1, 0, none⟩) (show w.heap.size ≤ w.heap.size + 1 + 1 by omega) _⟩
end

set_option maxRecDepth 100000 in
set_option maxHeartbeats 6400000 in
theorem specShelfCopy_any (v : Value) (xs : List HeldD) (hl : xs.length ≤ 10000000) (hf : ∀ x ∈ xs, x.2.2.2.1.length ≤ 10000000 ∧ x.2.2.2.2.1.length ≤ 10000000) (w : World) (h : layHeldS.rd w [v] xs) :
    Calls Try.prog 25 #[.agg #[v]] w (ShelfMade w xs) := by
  obtain ⟨a, p, rfl⟩ := rows_form h
  obtain ⟨i3, hi3, hz3, hs3, hb3⟩ := info_of infoString
  obtain ⟨i4, hi4, hz4, hs4, hb4⟩ := info_of infoBool
  obtain ⟨i0, hi0, hz0, hs0, hb0⟩ := info_of infoHeld
  have e1 : (w.alloc (.cells #[.slice a xs.length p] ShelfT)).heap.size = w.heap.size + 1 := by simp
  have e2 : ((w.alloc (.cells #[.slice a xs.length p] ShelfT)).alloc (.cells #[.slice none 0 0] ShelfT)).heap.size = w.heap.size + 1 + 1 := by simp
  have h2 := VarA.new (w.alloc (.cells #[.slice a xs.length p] ShelfT)) ShelfT #[.slice none 0 0]
  have h3 := VarA.new ((w.alloc (.cells #[.slice a xs.length p] ShelfT)).alloc (.cells #[.slice none 0 0] ShelfT)) ShelfT #[.slice none 0 0]
  rw [e1] at h2
  rw [e2] at h3
  have D0 : Hid (CSV w (.slice a xs.length p) (.slice none 0 0) [] [] (((w.alloc (.cells #[.slice a xs.length p] ShelfT)).alloc (.cells #[.slice none 0 0] ShelfT)).alloc (.cells #[.slice none 0 0] ShelfT))) := Lib.hid ⟨((VarA.new w ShelfT #[.slice a xs.length p]).alloc _).alloc _, h2.alloc _, h3, List.nodup_nil, none_rows _ _, (((Below.refl w.heap.size w).alloc (Nat.le_refl _) _).alloc (by simp) _).alloc (by simp; omega) _⟩
  have HR := Lib.hid h
  have HF := Lib.hid hf
  clear h hf h2 h3 e1 e2
  obtain ⟨Q, HQ⟩ : ∃ Q : Ending → World → Prop, Hid (Q = ShelfMade w xs) := ⟨_, Lib.hid rfl⟩
  rw [← HQ.out]
  go_enter Try.func25, Try.ntmps25
  go_upto_region 2 with fail
  generalize (((w.alloc (.cells #[.slice a xs.length p] ShelfT)).alloc (.cells #[.slice none 0 0] ShelfT)).alloc (.cells #[.slice none 0 0] ShelfT)) = Y at *
  go_wp2_with fail
  go_loopw [4] (fun i wr => ∃ (j : Nat) (fp : List Nat) (u : Value), j ≤ xs.length ∧ i = .int .i64 j ∧ Hid (CSV w (.slice a xs.length p) u fp (xs.take j) wr)) (fun i _ => xs.length - (intOf i).toNat)
  case atStart => exact ⟨0, [], _, Nat.zero_le _, rfl, D0⟩
  case round =>
    obtain ⟨j, fp, u, hj, rfl, D1⟩ := hrel
    have c0 : wr.cell? ⟨w.heap.size, 0, none⟩ = some (.slice a xs.length p) := D1.out.s.cell 0
    by_cases hlt : j < xs.length
    rotate_left
    · have hlt' : ¬ ((j : Int) < (xs.length : Int)) := by omega
      obtain rfl : j = xs.length := by omega
      rw [List.take_length] at D1
      obtain ⟨qa, qc, rfl⟩ := rows_form (layHeldS.read D1.out.own)
      have d0 : wr.cell? ⟨w.heap.size + 1 + 1, 0, none⟩ = some (.slice qa xs.length qc) := D1.out.o.cell 0
      have r0 : wr.cell? ⟨w.heap.size + 1, 0, none⟩ = some (.slice none 0 0) := D1.out.r.cell 0
      have g0 := D1.out.r.free 0
      have j0 : (wr.setCell ⟨w.heap.size + 1, 0, none⟩ (.slice qa xs.length qc)).cell? ⟨w.heap.size + 1, 0, none⟩ = some (.slice qa xs.length qc) := (D1.out.r.set 0 (.slice qa xs.length qc)).cell 0
      have E : Hid (Q (.returned (.agg #[.slice qa xs.length qc])) (wr.setCell ⟨w.heap.size + 1, 0, none⟩ (.slice qa xs.length qc))) := Lib.hid (by
        rw [HQ.out]
        have ho1 : Only (w.heap.size + 1) wr (wr.setCell ⟨w.heap.size + 1, 0, none⟩ (.slice qa xs.length qc)) := Only.setCell 0 _
        exact ⟨_, fp, rfl, D1.out.dup, layHeldS.lower (layHeldS.keep D1.out.own (fun a ha => ho1.block a (layHeldS.blocks D1.out.own a ha).2 (by have := (layHeldS.blocks D1.out.own a ha).1; omega))) (by omega), D1.out.below.trans (ho1.below (by omega) D1.out.below.size)⟩)
      go_wp2_with fail
      try simp only [Exit.inBlock, Exit.then]
      exact bodyPost_ret (v := .agg #[.slice qa xs.length qc]) (by simp [results, Try.results25, go_sem, j0]) rfl E.out
    have hlt' : (j : Int) < (xs.length : Int) := by omega
    have hx := List.getElem?_eq_getElem hlt
    have hfx := HF.out _ (List.getElem_mem hlt)
    obtain ⟨g, og, cs, rfl, hg, hr, hcl⟩ := rows_elem (layHeldS.below HR.out D1.out.below) j _ hx
    have hta : xs.take (j + 1) = xs.take j ++ [xs[j]] := take_next hlt
    generalize xs[j] = x at hr hta hfx
    obtain ⟨v3, v4, rfl, h3, h4⟩ := layHeld_rd.1 hr
    obtain ⟨x0, x1, x2, r3, r4, x5⟩ := x
    simp only at h3 h4 hfx
    obtain ⟨pa, pc, rfl⟩ := rows_form h3
    obtain ⟨pb, pd, rfl⟩ := rows_form h4
    have d0 : wr.cell? ⟨g, og + j * 6, none⟩ = some (.int .i64 x0) := hcl 0 _ rfl
    have d1 : wr.cell? ⟨g, og + j * 6 + 1, none⟩ = some (.int .i64 x1) := hcl 1 _ rfl
    have d2 : wr.cell? ⟨g, og + j * 6 + 2, none⟩ = some (.int .i64 x2) := hcl 2 _ rfl
    have d3 : wr.cell? ⟨g, og + j * 6 + 3, none⟩ = some (.slice pa r3.length pc) := hcl 3 _ rfl
    have d4 : wr.cell? ⟨g, og + j * 6 + 4, none⟩ = some (.slice pb r4.length pd) := hcl 4 _ rfl
    have d5 : wr.cell? ⟨g, og + j * 6 + 5, none⟩ = some (.int .i64 x5) := hcl 5 _ rfl
    have HTA := Lib.hid hta
    have HFX := Lib.hid hfx
    have hal : Below wr.heap.size wr (wr.alloc (.cells #[.int .i64 x0, .int .i64 x1, .int .i64 x2, .slice pa r3.length pc, .slice pb r4.length pd, .int .i64 x5] HeldT)) := (Below.refl _ _).alloc (Nat.le_refl _) _
    have XV := Lib.hid (VarA.new wr HeldT #[.int .i64 x0, .int .i64 x1, .int .i64 x2, .slice pa r3.length pc, .slice pb r4.length pd, .int .i64 x5])
    have D2 := Lib.hid (D1.out.next hal)
    have H3 := Lib.hid (layStringS.below h3 hal)
    have H4 : Hid (∀ X, Below wr.heap.size wr X → layBoolS.rd X [.slice pb r4.length pd] r4) := Lib.hid (fun X hX => layBoolS.below h4 hX)
    have BG := Lib.hid hal
    have FP : Hid (∀ a ∈ fp, a < wr.heap.size) := Lib.hid (fun a ha => (layHeldS.blocks D1.out.own a ha).2)
    have hgx : w.heap.size + 1 + 1 + 1 ≤ wr.heap.size := D1.out.o.lt
    have GX := Lib.hid hgx
    clear h3 h4 hr hcl hta hfx hx hal
    go_upto_region 6 with fail
    clear d0 d1 d2 d3 d4 d5 c0 D1 hgx
    generalize wr.alloc (.cells #[.int .i64 x0, .int .i64 x1, .int .i64 x2, .slice pa r3.length pc, .slice pb r4.length pd, .int .i64 x5] HeldT) = Y0 at *
    generalize wr.heap.size = gx at *
    have hlg : gx < Y0.heap.size := XV.out.lt
    have hbl : Below Y0.heap.size Y0 (Y0.alloc (.cells #[] StringT)) := (Below.refl _ _).alloc (Nat.le_refl _) _
    have c3 : (Y0.alloc (.cells #[] StringT)).cell? ⟨gx, 3, none⟩ = some (.slice pa r3.length pc) := (XV.out.next hbl).cell 3
    go_upto_region 7 with (at_builtin; refine wpList_copyF (Y0.alloc (.cells #[] StringT)) rfl _ _ 32 rfl Y0.heap.size StringT i3 _ 16 layString flatString Try.underlying32 hi3 hz3 hs3 hb3 rfl (by omega) _ _ _ rfl (flat_lit Y0 _ (Nat.le_refl _)) (fun e => by cases e) _ r3 rfl (layStringS.below H3.out hbl) (by simp; have := HFX.out.1; omega) (by simp) ?_; intro v1 w1 hown1 hnn1 hgr1 hbe1; obtain ⟨g3, k3, rfl, hblk, hg1b, hg1l⟩ := flat_some flatString hown1 hnn1; rw [hblk] at hown1; have A1 := (XV.out.next hbl).next' hbe1 (by omega); have b3 : w1.cell? ⟨gx, 3, none⟩ = some (.slice pa r3.length pc) := A1.cell 3; have f3 := A1.free 3)
    have hbt := hbl.trans hbe1
    have ho1 : Only gx w1 (w1.setCell ⟨gx, 3, none⟩ (.slice (some ⟨g3, 0, none⟩) r3.length k3)) := Only.setCell 3 _
    replace XV : Hid (VarA gx HeldT #[.int .i64 x0, .int .i64 x1, .int .i64 x2, .slice (some ⟨g3, 0, none⟩) r3.length k3, .slice pb r4.length pd, .int .i64 x5] (w1.setCell ⟨gx, 3, none⟩ (.slice (some ⟨g3, 0, none⟩) r3.length k3))) := Lib.hid (A1.set 3 _)
    replace D2 := Lib.hid ((D2.out.next hbt).off ho1 GX.out FP.out)
    have O3 : Hid (layStringS.own (w1.setCell ⟨gx, 3, none⟩ (.slice (some ⟨g3, 0, none⟩) r3.length k3)) (w.heap.size + 1 + 1 + 1) [g3] [.slice (some ⟨g3, 0, none⟩) r3.length k3] r3) := Lib.hid (layStringS.lower (layStringS.keep hown1 (fun t ht => ho1.block t (layStringS.blocks hown1 t ht).2 (by rw [List.mem_singleton] at ht; omega))) (by have := GX.out; omega))
    replace BG := Lib.hid ((BG.out.trans (hbt.mono (by omega))).trans (ho1.below (Nat.le_refl _) (by omega)))
    replace H4 := Lib.hid (H4.out _ BG.out)
    have G3 : Hid (gx < g3) := Lib.hid (by omega)
    clear hbl c3 hown1 hnn1 hgr1 hbe1 hblk A1 b3 f3 hg1b hg1l hlg hbt ho1 H3 BG
    generalize (w1.setCell ⟨gx, 3, none⟩ (.slice (some ⟨g3, 0, none⟩) r3.length k3)) = Y1 at *
    generalize Y0.heap.size = gy0 at *
    clear w1 Y0
    have hlg : gx < Y1.heap.size := XV.out.lt
    have hl3 : g3 < Y1.heap.size := (layStringS.blocks O3.out g3 (by simp)).2
    have hbl : Below Y1.heap.size Y1 (Y1.alloc (.cells #[] 4)) := (Below.refl _ _).alloc (Nat.le_refl _) _
    have c4 : (Y1.alloc (.cells #[] 4)).cell? ⟨gx, 4, none⟩ = some (.slice pb r4.length pd) := (XV.out.next hbl).cell 4
    go_upto_region 8 with (at_builtin; refine wpList_copyF (Y1.alloc (.cells #[] 4)) rfl _ _ 33 rfl Y1.heap.size 4 i4 _ 1 Lay.bool flatBool Try.underlying33 hi4 hz4 hs4 hb4 rfl (by omega) _ _ _ rfl (flat_lit Y1 _ (Nat.le_refl _)) (fun e => by cases e) _ r4 rfl (layBoolS.below H4.out hbl) (by simp; have := HFX.out.2; omega) (by simp) ?_; intro v1 w1 hown1 hnn1 hgr1 hbe1; obtain ⟨g4, k4, rfl, hblk, hg1b, hg1l⟩ := flat_some flatBool hown1 hnn1; rw [hblk] at hown1; have A1 := (XV.out.next hbl).next' hbe1 (by omega); have b4 : w1.cell? ⟨gx, 4, none⟩ = some (.slice pb r4.length pd) := A1.cell 4; have f4 := A1.free 4)
    have hbt := hbl.trans hbe1
    have ho1 : Only gx w1 (w1.setCell ⟨gx, 4, none⟩ (.slice (some ⟨g4, 0, none⟩) r4.length k4)) := Only.setCell 4 _
    replace XV : Hid (VarA gx HeldT #[.int .i64 x0, .int .i64 x1, .int .i64 x2, .slice (some ⟨g3, 0, none⟩) r3.length k3, .slice (some ⟨g4, 0, none⟩) r4.length k4, .int .i64 x5] (w1.setCell ⟨gx, 4, none⟩ (.slice (some ⟨g4, 0, none⟩) r4.length k4))) := Lib.hid (A1.set 4 _)
    replace D2 := Lib.hid ((D2.out.next hbt).off ho1 GX.out FP.out)
    replace O3 : Hid (layStringS.own (w1.setCell ⟨gx, 4, none⟩ (.slice (some ⟨g4, 0, none⟩) r4.length k4)) (w.heap.size + 1 + 1 + 1) [g3] [.slice (some ⟨g3, 0, none⟩) r3.length k3] r3) := Lib.hid (by
      have h9 := layStringS.next O3.out hbt
      exact layStringS.keep h9 (fun t ht => ho1.block t (layStringS.blocks h9 t ht).2 (by rw [List.mem_singleton] at ht; have := G3.out; omega)))
    have O4 : Hid (layBoolS.own (w1.setCell ⟨gx, 4, none⟩ (.slice (some ⟨g4, 0, none⟩) r4.length k4)) (w.heap.size + 1 + 1 + 1) [g4] [.slice (some ⟨g4, 0, none⟩) r4.length k4] r4) := Lib.hid (layBoolS.lower (layBoolS.keep hown1 (fun t ht => ho1.block t (layBoolS.blocks hown1 t ht).2 (by rw [List.mem_singleton] at ht; omega))) (by have := GX.out; omega))
    have G4 : Hid (gx < g4 ∧ g3 < g4) := Lib.hid ⟨by omega, by omega⟩
    clear hbl c4 hown1 hnn1 hgr1 hbe1 hblk A1 b4 f4 hg1b hg1l hlg hl3 hbt ho1 H4
    generalize (w1.setCell ⟨gx, 4, none⟩ (.slice (some ⟨g4, 0, none⟩) r4.length k4)) = Y2 at *
    generalize Y1.heap.size = gy1 at *
    clear w1 Y1
    obtain ⟨qa, qc, rfl⟩ : ∃ qa qc, u = .slice qa j qc := by
      have h9 := rows_form (layHeldS.read D2.out.own)
      rw [List.length_take, Nat.min_eq_left (by omega)] at h9
      exact h9
    have d0 : Y2.cell? ⟨w.heap.size + 1 + 1, 0, none⟩ = some (.slice qa j qc) := D2.out.o.cell 0
    have e0 : Y2.cell? ⟨gx, 0, none⟩ = some (.int .i64 x0) := XV.out.cell 0
    have e1 : Y2.cell? ⟨gx, 1, none⟩ = some (.int .i64 x1) := XV.out.cell 1
    have e2 : Y2.cell? ⟨gx, 2, none⟩ = some (.int .i64 x2) := XV.out.cell 2
    have e3 : Y2.cell? ⟨gx, 3, none⟩ = some (.slice (some ⟨g3, 0, none⟩) r3.length k3) := XV.out.cell 3
    have e4 : Y2.cell? ⟨gx, 4, none⟩ = some (.slice (some ⟨g4, 0, none⟩) r4.length k4) := XV.out.cell 4
    have e5 : Y2.cell? ⟨gx, 5, none⟩ = some (.int .i64 x5) := XV.out.cell 5
    have hal : Below Y2.heap.size Y2 (Y2.alloc (.cells #[.int .i64 x0, .int .i64 x1, .int .i64 x2, .slice (some ⟨g3, 0, none⟩) r3.length k3, .slice (some ⟨g4, 0, none⟩) r4.length k4, .int .i64 x5] HeldT)) := (Below.refl _ _).alloc (Nat.le_refl _) _
    have hlo : w.heap.size + 1 + 1 + 1 ≤ Y2.heap.size := D2.out.o.lt
    have D3 := Lib.hid (D2.out.next hal)
    have hy : layHeld.own (Y2.alloc (.cells #[.int .i64 x0, .int .i64 x1, .int .i64 x2, .slice (some ⟨g3, 0, none⟩) r3.length k3, .slice (some ⟨g4, 0, none⟩) r4.length k4, .int .i64 x5] HeldT)) (w.heap.size + 1 + 1 + 1) ([g3] ++ [g4]) [.int .i64 x0, .int .i64 x1, .int .i64 x2, .slice (some ⟨g3, 0, none⟩) r3.length k3, .slice (some ⟨g4, 0, none⟩) r4.length k4, .int .i64 x5] (x0, x1, x2, r3, r4, x5) := layHeld_own.2 ⟨_, _, [g3], [g4], rfl, rfl, layStringS.next O3.out hal, layBoolS.next O4.out hal⟩
    have HY := Lib.hid hy
    have hjl : (xs.take j).length + 1 ≤ 1000000000 := by rw [List.length_take]; omega
    have HN : Hid (∀ k ∈ [g3] ++ [g4], k ∉ fp) := Lib.hid (fun k hk hm => by
      have h8 := FP.out k hm
      have h7 := G3.out
      have h6 := G4.out
      simp at hk
      omega)
    have HD : Hid (([g3] ++ [g4]).Nodup) := Lib.hid (by have := G4.out; simp; omega)
    have HSZ : Hid ((Y2.alloc (.cells #[.int .i64 x0, .int .i64 x1, .int .i64 x2, .slice (some ⟨g3, 0, none⟩) r3.length k3, .slice (some ⟨g4, 0, none⟩) r4.length k4, .int .i64 x5] HeldT)).heap.size = Y2.heap.size + 1) := Lib.hid (by simp)
    clear hy hal D2 O3 O4
    go_wp2_with (at_builtin; refine wpList_pushL (Y2.alloc (.cells #[.int .i64 x0, .int .i64 x1, .int .i64 x2, .slice (some ⟨g3, 0, none⟩) r3.length k3, .slice (some ⟨g4, 0, none⟩) r4.length k4, .int .i64 x5] HeldT)) rfl _ _ 24 rfl (w.heap.size + 1 + 1 + 1) HeldT i0 _ 80 layHeld Try.underlying24 hi0 hz0 hs0 hb0 rfl (by omega) (.slice qa j qc) fp (xs.take j) (by rfl) D3.out.own D3.out.dup (x0, x1, x2, r3, r4, x5) [.int .i64 x0, .int .i64 x1, .int .i64 x2, .slice (some ⟨g3, 0, none⟩) r3.length k3, .slice (some ⟨g4, 0, none⟩) r4.length k4, .int .i64 x5] ([g3] ++ [g4]) HY.out HD.out HN.out ⟨Y2.heap.size, 0, none⟩ (by rfl) (fun j u hj => lit_held Y2 #[.int .i64 x0, .int .i64 x1, .int .i64 x2, .slice (some ⟨g3, 0, none⟩) r3.length k3, .slice (some ⟨g4, 0, none⟩) r4.length k4, .int .i64 x5] HeldT j u hj) hjl (by have := HSZ.out; omega) ?_; intro v' w' hp; have s3 : VarA (w.heap.size + 1 + 1) ShelfT #[.slice qa j qc] w' := D3.out.o.next' hp.below (by omega); have t3 := s3.cell 0; have z3 := s3.free 0; obtain ⟨f', hof, hdf, hsub⟩ := hp.own; rw [← HTA.out] at hof; obtain ⟨na, nk, rfl⟩ : ∃ na nk, v' = .slice na (j + 1) nk := (by have h9 := rows_form (layHeldS.read hof); rw [List.length_take, Nat.min_eq_left (by omega)] at h9; exact h9); have D5 := Lib.hid (D3.out.pushed hp hof hdf); clear hp hof hdf hsub s3)
    go_roundw
    case rel => exact ⟨j + 1, f', _, by omega, by go_num, D5⟩
    case measure => simp [intOf]; omega

end Go.Proofs.Ythiicpbedgcmlaa
