/-
  The program's TidyShelf.
  The library's contracts laid at this translation, in plain words: each is one application.
  What the library's Clone gives.
  The program's TidyShelf.
  The program's contracts on shelves.
  Rows of structs seen as rows of their cells; no program is spoken of here.
  A row of the call's own, seen as the cells of its elements, each with its own blocks; no program is spoken of here.
-/
import Derived.Test.YthiicpbedgcmlaaJ12
import Derived.Test.YthiicpbedgcmlaaJ08
import Derived.Test.YthiicpbedgcmlaaJ13
import Derived.Shelf.LaysM
import Derived.Shelf.Strconv.Clone
import Derived.Test.YthiicpbedgcmlaaProg
import Derived.Test.YthiicpbedgcmlaaJ10
import Derived.Test.YthiicpbedgcmlaaJ25
import Derived.Test.YthiicpbedgcmlaaJ04
import Derived.Test.YthiicpbedgcmlaaJ09
namespace Go.Proofs.Ythiicpbedgcmlaa
open Go.RowKit

set_option maxRecDepth 100000 in
set_option maxHeartbeats 6400000 in
theorem tidyShelf_any (HG : CloneGives) (v : Value) (xs : List HeldD) (now : Int) (hf : FitsHeldS xs) (w : World) (h : layHeldS.rd w [v] xs) :
    Calls Try.prog 8 #[.agg #[v], .int .i64 now] w (ShelfMade w (tidyV xs now)) := by
  obtain ⟨i0, hi0, hz0, hs0, hb0⟩ := info_of infoHeld
  obtain ⟨a, p, rfl⟩ := rows_form h
  have e1 : (w.alloc (.cells #[.slice a xs.length p] ShelfT)).heap.size = w.heap.size + 1 := by simp
  have h2 := VarA.new (w.alloc (.cells #[.slice a xs.length p] ShelfT)) ShelfT #[.slice none 0 0]
  rw [e1] at h2
  have A0 := Lib.hid ((VarA.new w ShelfT #[.slice a xs.length p]).alloc (.cells #[.slice none 0 0] ShelfT))
  have R0 := Lib.hid h2
  have B0 := Lib.hid (((Below.refl w.heap.size w).alloc (Nat.le_refl _) (.cells #[.slice a xs.length p] ShelfT)).alloc (by simp) (.cells #[.slice none 0 0] ShelfT))
  have hz : Hid (((w.alloc (.cells #[.slice a xs.length p] ShelfT)).alloc (.cells #[.slice none 0 0] ShelfT)).heap.size = w.heap.size + 2) := Lib.hid (by simp)
  have HR := Lib.hid h
  have HF := Lib.hid hf
  have hl : xs.length ≤ 10000000 := by have := hf.1; omega
  clear h hf h2 e1
  obtain ⟨Q, HQ⟩ : ∃ Q : Ending → World → Prop, Hid (Q = ShelfMade w (tidyV xs now)) := ⟨_, Lib.hid rfl⟩
  rw [← HQ.out]
  go_enter Try.func8, Try.ntmps8
  go_upto_region 1 with fail
  generalize ((w.alloc (.cells #[.slice a xs.length p] ShelfT)).alloc (.cells #[.slice none 0 0] ShelfT)) = Y at *
  have hal : Below Y.heap.size Y (Y.alloc (.cells #[] HeldT)) := (Below.refl _ _).alloc (Nat.le_refl _) _
  have D0 : Hid (TDV w (.slice a xs.length p) (.slice (some ⟨Y.heap.size, 0, none⟩) 0 0) [Y.heap.size] [] (Y.alloc (.cells #[] HeldT))) := Lib.hid ⟨A0.out.next hal, R0.out.next hal, by simp, rows_lit Y (by have := hz.out; omega), B0.out.trans (hal.mono (by have := hz.out; omega))⟩
  clear hal
  rw [hz.out] at D0
  clear A0 R0 B0
  go_upto_region 2 with fail
  rw [hz.out]
  generalize Y.alloc (.cells #[] HeldT) = Y1 at *
  have c0 : Y1.cell? ⟨w.heap.size, 0, none⟩ = some (.slice a xs.length p) := D0.out.s.cell 0
  go_wp2_with fail
  clear c0 hz
  go_loopw [5, 12] (fun t i wr => ∃ (j : Nat) (fp : List Nat), j ≤ xs.length ∧ i = .int .i64 j ∧ Hid (TDV w (.slice a xs.length p) t fp (tidyV (xs.take j) now) wr)) (fun _ i _ => xs.length - (intOf i).toNat)
  case atStart => exact ⟨0, [w.heap.size + 2], Nat.zero_le _, rfl, D0⟩
  case round =>
    obtain ⟨j, fp, hj, rfl, D1⟩ := hrel
    by_cases hlt : j < xs.length
    rotate_left
    · have hlt' : ¬ ((j : Int) < (xs.length : Int)) := by omega
      obtain rfl : j = xs.length := by omega
      rw [List.take_length] at D1
      obtain ⟨qa, qc, rfl⟩ := rows_form (layHeldS.read D1.out.own)
      have r0 : wr.cell? ⟨w.heap.size + 1, 0, none⟩ = some (.slice none 0 0) := D1.out.r.cell 0
      have g0 := D1.out.r.free 0
      obtain ⟨nn, hnn⟩ : ∃ nn, nn = (tidyV xs now).length := ⟨_, rfl⟩
      have j0 : (wr.setCell ⟨w.heap.size + 1, 0, none⟩ (.slice qa nn qc)).cell? ⟨w.heap.size + 1, 0, none⟩ = some (.slice qa nn qc) := (D1.out.r.set 0 (.slice qa nn qc)).cell 0
      have E : Hid (Q (.returned (.agg #[.slice qa nn qc])) (wr.setCell ⟨w.heap.size + 1, 0, none⟩ (.slice qa nn qc))) := Lib.hid (by
        rw [HQ.out, hnn]
        have ho1 : Only (w.heap.size + 1) wr (wr.setCell ⟨w.heap.size + 1, 0, none⟩ (.slice qa (tidyV xs now).length qc)) := Only.setCell 0 _
        exact ⟨_, fp, rfl, D1.out.dup, layHeldS.lower (layHeldS.keep D1.out.own (fun a ha => ho1.block a (layHeldS.blocks D1.out.own a ha).2 (by have := (layHeldS.blocks D1.out.own a ha).1; omega))) (by omega), D1.out.below.trans (ho1.below (by omega) D1.out.below.size)⟩)
      rw [← hnn]
      clear D1 hnn
      go_wp2_with fail
      try simp only [Exit.inBlock, Exit.then]
      exact bodyPost_ret (v := .agg #[.slice qa nn qc]) (by simp [results, Try.results8, go_sem, j0]) rfl E.out
    have hlt' : (j : Int) < (xs.length : Int) := by omega
    have hx := List.getElem?_eq_getElem hlt
    have hfx := HF.out.2.1 _ (List.getElem_mem hlt)
    obtain ⟨g, og, cs, rfl, hg, hr, hcl⟩ := rows_elem (layHeldS.below HR.out D1.out.below) j _ hx
    have hta : xs.take (j + 1) = xs.take j ++ [xs[j]] := take_next hlt
    generalize xs[j] = x at hr hta hfx
    obtain ⟨v3, v4, rfl, h3, h4⟩ := layHeld_rd.1 hr
    obtain ⟨x0, x1, x2, r3, r4, x5⟩ := x
    simp only at h3 h4 hfx
    obtain ⟨pa, pc, rfl⟩ := rows_form h3
    obtain ⟨pb, pd, rfl⟩ := rows_form h4
    have d0 : wr.cell? ⟨g, og + j * 6, none⟩ = some (.int .i64 x0) := hcl 0 _ rfl
    have d1 : wr.cell? ⟨g, og + j * 6 + 1, none⟩ = some (.int .i64 x1) := hcl 1 _ rfl
    have d2 : wr.cell? ⟨g, og + j * 6 + 2, none⟩ = some (.int .i64 x2) := hcl 2 _ rfl
    have d3 : wr.cell? ⟨g, og + j * 6 + 3, none⟩ = some (.slice pa r3.length pc) := hcl 3 _ rfl
    have d4 : wr.cell? ⟨g, og + j * 6 + 4, none⟩ = some (.slice pb r4.length pd) := hcl 4 _ rfl
    have d5 : wr.cell? ⟨g, og + j * 6 + 5, none⟩ = some (.int .i64 x5) := hcl 5 _ rfl
    have HTB : Hid (tidyV (xs.take (j + 1)) now = tidyV (xs.take j) now ++ (if now < x5 then [(x0, x1, x2, r3, r4, x5)] else [])) := Lib.hid (by
      rw [hta]
      unfold tidyV
      rw [List.filter_append]
      congr 1
      by_cases hu : now < x5
      · rw [if_pos hu]; simp [hu]
      · rw [if_neg hu]; simp [hu])
    have HFX := Lib.hid hfx
    have hal : Below wr.heap.size wr (wr.alloc (.cells #[.int .i64 0, .int .i64 0, .int .i64 0, .slice none 0 0, .slice none 0 0, .int .i64 0] HeldT)) := (Below.refl _ _).alloc (Nat.le_refl _) _
    have XV := VarA.new wr HeldT #[.int .i64 0, .int .i64 0, .int .i64 0, .slice none 0 0, .slice none 0 0, .int .i64 0]
    have z0 := XV.cell 0
    have z1 := XV.cell 1
    have z2 := XV.cell 2
    have z3 := XV.cell 3
    have z4 := XV.cell 4
    have z5 := XV.cell 5
    have f0 := XV.free 0
    have f1 := XV.free 1
    have f2 := XV.free 2
    have f3 := XV.free 3
    have f4 := XV.free 4
    have f5 := XV.free 5
    have HD1 := D1
    have XH := Lib.hid (VarA.new wr HeldT #[.int .i64 x0, .int .i64 x1, .int .i64 x2, .slice pa r3.length pc, .slice pb r4.length pd, .int .i64 x5])
    have hal2 : Below wr.heap.size wr (wr.alloc (.cells #[.int .i64 x0, .int .i64 x1, .int .i64 x2, .slice pa r3.length pc, .slice pb r4.length pd, .int .i64 x5] HeldT)) := (Below.refl _ _).alloc (Nat.le_refl _) _
    have D2 := Lib.hid (D1.out.next hal2)
    have H3 := Lib.hid (layStringS.below h3 hal2)
    have H4 := Lib.hid (layBoolS.below h4 hal2)
    have FP : Hid (∀ a ∈ fp, a < wr.heap.size) := Lib.hid (fun a ha => (layHeldS.blocks D1.out.own a ha).2)
    have GX : Hid (w.heap.size + 2 ≤ wr.heap.size) := Lib.hid D1.out.r.lt
    have LG : Hid ((wr.alloc (.cells #[.int .i64 x0, .int .i64 x1, .int .i64 x2, .slice pa r3.length pc, .slice pb r4.length pd, .int .i64 x5] HeldT)).heap.size = wr.heap.size + 1) := Lib.hid (by simp)
    clear D1 HD1 h3 h4 hr hx hal hal2 XV hta hfx
    go_upto_region 5 with fail
    clear z0 z1 z2 z3 z4 z5 f0 f1 f2 f3 f4 f5 d0 d1 d2 d3 d4 d5 hcl
    generalize (wr.alloc (.cells #[.int .i64 x0, .int .i64 x1, .int .i64 x2, .slice pa r3.length pc, .slice pb r4.length pd, .int .i64 x5] HeldT)) = Y2 at *
    generalize wr.heap.size = gx at *
    have c5 : Y2.cell? ⟨gx, 5, none⟩ = some (.int .i64 x5) := XH.out.cell 5
    by_cases hu : now < x5
    rotate_left
    · have ku : decide (now < x5) = false := decide_eq_false hu
      have D4 : Hid (TDV w (.slice (some ⟨g, og, none⟩) xs.length p) u5 fp (tidyV (xs.take (j + 1)) now) Y2) := Lib.hid (by
        rw [HTB.out, if_neg hu, List.append_nil]
        exact D2.out)
      clear D2
      go_wp2_with fail
      go_roundw
      case rel => exact ⟨j + 1, fp, by omega, by go_num, D4⟩
      case measure => simp [intOf]; omega
    have ku : decide (now < x5) = true := decide_eq_true hu
    have HTA : Hid (tidyV (xs.take (j + 1)) now = tidyV (xs.take j) now ++ [(x0, x1, x2, r3, r4, x5)]) := Lib.hid (by rw [HTB.out, if_pos hu])
    clear c5
    have c0 : Y2.cell? ⟨gx, 0, none⟩ = some (.int .i64 x0) := XH.out.cell 0
    have c1 : Y2.cell? ⟨gx, 1, none⟩ = some (.int .i64 x1) := XH.out.cell 1
    have c2 : Y2.cell? ⟨gx, 2, none⟩ = some (.int .i64 x2) := XH.out.cell 2
    have c3 : Y2.cell? ⟨gx, 3, none⟩ = some (.slice pa r3.length pc) := XH.out.cell 3
    have c4 : Y2.cell? ⟨gx, 4, none⟩ = some (.slice pb r4.length pd) := XH.out.cell 4
    have c5 : Y2.cell? ⟨gx, 5, none⟩ = some (.int .i64 x5) := XH.out.cell 5
    have KC := Lib.hid (copyOfHeld_any HG x0 x1 x2 _ r3 _ r4 x5 HFX.out.1.1 HFX.out.1.2 HFX.out.2 Y2 H3.out H4.out)
    clear H3 H4
    go_wp2_with fail
    refine KC.out.mono ?_
    rintro e Y3 ⟨v3, v4, f, rfl, hd, ho, hb⟩
    clear KC XH c0 c1 c2 c3 c4 c5
    have hal3 : Below Y3.heap.size Y3 (Y3.alloc (.cells #[.int .i64 x0, .int .i64 x1, .int .i64 x2, v3, v4, .int .i64 x5] HeldT)) := (Below.refl _ _).alloc (Nat.le_refl _) _
    have D3 := Lib.hid ((D2.out.next hb).next hal3)
    have HY : Hid (layHeld.own (Y3.alloc (.cells #[.int .i64 x0, .int .i64 x1, .int .i64 x2, v3, v4, .int .i64 x5] HeldT)) (w.heap.size + 2) f [.int .i64 x0, .int .i64 x1, .int .i64 x2, v3, v4, .int .i64 x5] (x0, x1, x2, r3, r4, x5)) := Lib.hid (layHeld.lower (layHeld.next ho hal3) (by have := GX.out; have := LG.out; omega))
    have HN : Hid (∀ k ∈ f, k ∉ fp) := Lib.hid (fun k hk hm => by
      have h8 := FP.out k hm
      have h7 := (layHeld.blocks ho k hk).1
      have h6 := LG.out
      omega)
    have HD := Lib.hid hd
    have hjl : (tidyV (xs.take j) now).length + 1 ≤ 1000000000 := by (have h9 : (tidyV (xs.take j) now).length ≤ (xs.take j).length := List.length_filter_le _ _; rw [List.length_take] at h9; omega)
    have HSZ : Hid (w.heap.size + 2 ≤ (Y3.alloc (.cells #[.int .i64 x0, .int .i64 x1, .int .i64 x2, v3, v4, .int .i64 x5] HeldT)).heap.size) := Lib.hid (by have := D3.out.r.lt; omega)
    clear hd ho hb hal3 D2
    go_wp2_with (at_builtin; refine wpList_pushL (Y3.alloc (.cells #[.int .i64 x0, .int .i64 x1, .int .i64 x2, v3, v4, .int .i64 x5] HeldT)) rfl _ _ 24 rfl (w.heap.size + 2) HeldT i0 _ 80 layHeld Try.underlying24 hi0 hz0 hs0 hb0 rfl (by omega) u5 fp (tidyV (xs.take j) now) (by rfl) D3.out.own D3.out.dup (x0, x1, x2, r3, r4, x5) [.int .i64 x0, .int .i64 x1, .int .i64 x2, v3, v4, .int .i64 x5] f HY.out HD.out HN.out ⟨Y3.heap.size, 0, none⟩ (by rfl) (fun j u hj => lit_held Y3 #[.int .i64 x0, .int .i64 x1, .int .i64 x2, v3, v4, .int .i64 x5] HeldT j u hj) hjl HSZ.out ?_; intro v' w' hp; obtain ⟨f', hof, hdf, hsub⟩ := hp.own; rw [← HTA.out] at hof; have D5 := Lib.hid (D3.out.pushed hp hof hdf); clear hp hof hdf hsub)
    go_roundw
    case rel => exact ⟨j + 1, f', by omega, by go_num, D5⟩
    case measure => simp [intOf]; omega

end Go.Proofs.Ythiicpbedgcmlaa
namespace Go.Proofs
open Go.Shelf
def Try.laysM316_ren : Go.Shelf.Ren := ⟨fun | 316 => 45 | n => n, fun | 9 => 9 | 3 => 3 | 4 => 4 | 37 => 22 | 0 => 0 | 127 => 74 | 5 => 5 | n => n, fun | n => n⟩
theorem Try.laysM316 : Go.Proofs.LaysM.n316 Try.prog Try.laysM316_ren := {
  mixed := by kernel_rfl
  f316 := Try.func45.trans (congrArg some (by kernel_rfl))
  t0 := Try.underlying0
  a0 := Try.isAgg0
  z0 := Try.sizeOf0
  v0 := Try.zeroValue0
  t3 := Try.underlying3
  a3 := Try.isAgg3
  z3 := Try.sizeOf3
  v3 := Try.zeroValue3
  t4 := Try.underlying4
  a4 := Try.isAgg4
  z4 := Try.sizeOf4
  v4 := Try.zeroValue4
  t9 := Try.underlying9
  a9 := Try.isAgg9
  z9 := Try.sizeOf9
  v9 := Try.zeroValue9
  t37 := Try.underlying22
  a37 := Try.isAgg22
  z37 := Try.sizeOf22
  v37 := Try.zeroValue22
  t127 := Try.underlying74
  a127 := Try.isAgg74
  z127 := Try.sizeOf74
  v127 := Try.zeroValue74
  t5 := Try.underlying5
  a5 := Try.isAgg5
  z5 := Try.sizeOf5
  v5 := Try.zeroValue5
  i0 := by kernel_rfl
  i3 := by kernel_rfl
  i4 := by kernel_rfl
  i5 := by kernel_rfl
  i9 := by kernel_rfl
  i37 := by kernel_rfl
  i127 := by kernel_rfl }
open Go.RowKit in
theorem Try.stringslite_Clone (s : ByteArray) (w : World) (hlim : s.size ≤ 281474976710656) :
    Calls Try.prog 45 #[.string s] w fun e w' => e = .returned (.string s) ∧ Below w.heap.size w w' := Any.stringslite_Clone Try.laysM316 s w hlim
end Go.Proofs
namespace Go.Proofs.Ythiicpbedgcmlaa
open Go.RowKit

theorem cloneGives : CloneGives := fun s w hs => by
  have H := Lib.hid (fun w => Try.stringslite_Clone s w (by omega))
  go_enter Try.func37, Try.ntmps37
  go_wp2_with fail
  refine (H.out _).mono ?_
  rintro e w1 ⟨rfl, hb1⟩
  go_wp2
  go_ret
  exact ⟨rfl, hb1⟩

end Go.Proofs.Ythiicpbedgcmlaa
namespace Go.Proofs.Ythiicpbedgcmlaa
open Go.RowKit

theorem implTidyShelf_any (v : Value) (xs : List HeldD) (now : Int) (hf : FitsHeldS xs) (_hg : ∀ x ∈ xs, HdG x) (_hwn : IntZ now) (w : World) (h : layHeldS.rd w [v] xs) :
    Calls Try.prog 8 #[.agg #[v], .int .i64 now] w (ShelfMade w (tidyV xs now)) := tidyShelf_any cloneGives v xs now hf w h

end Go.Proofs.Ythiicpbedgcmlaa
namespace Go.Proofs.Ythiicpbedgcmlaa
open Go.RowKit

theorem shelfFns : ShelfFns where
  add := fun v xs a t now ys whole done h hf hg hz X hr => addPart_any cloneGives v xs a t now ys whole done h hf hg hz X hr
  tidy := fun v xs now hf hg hn X hr => implTidyShelf_any v xs now hf hg hn X hr
  ok := fun v xs b hb hf hg X hr => implShelfOk_any v xs b hb hf hg X hr

end Go.Proofs.Ythiicpbedgcmlaa
namespace Go.Proofs.Ythiicpbedgcmlaa
open Go.RowKit

/-- Some cells as they are. -/
def layCells (k : Nat) (hk : 0 < k) : Lay (List Value) where
  k := k
  rd := fun _ cs x => cs = x ∧ x.length = k ∧ ∀ u ∈ x, u.oneCell' = true
  own := fun _ _ fp cs x => fp = [] ∧ cs = x ∧ x.length = k ∧ ∀ u ∈ x, u.oneCell' = true
  mark := fun k x => (x, k)
  pos := hk
  len := fun h => by rw [h.1]; exact h.2.1
  one := fun h u hu => by rw [h.1] at hu; exact h.2.2 u hu
  below := fun h _ => h
  read := fun h => h.2
  blocks := fun h g hg => by rw [h.1] at hg; cases hg
  keep := fun h _ => h
  lower := fun h _ => h
theorem flatCells (k : Nat) (hk : 0 < k) : Flat (layCells k hk) := ⟨fun _ _ _ _ h => ⟨rfl, h⟩, fun _ _ _ _ _ h => h.1, fun _ _ _ _ h => h⟩
variable {α : Type}
theorem raw_rdAll (A : Lay α) {w w0 : World} : ∀ {us : List Value} {zs : List (List Value × α)}, rdAll (layCells A.k A.pos) w0 us (zs.map (·.1)) → (∀ z ∈ zs, A.rd w z.1 z.2) → rdAll A w us (zs.map (·.2))
  | us, [], h, _ => h
  | us, z :: zs, h, hz => by
    obtain ⟨c, us', rfl, ⟨rfl, _, _⟩, h2⟩ := h
    exact ⟨z.1, us', rfl, hz z List.mem_cons_self, raw_rdAll A h2 (fun q hq => hz q (List.mem_cons_of_mem _ hq))⟩
/-- A row of cells whose elements can be read. -/
theorem raw_rows {e : TypeId} {A : Lay α} {w : World} {v : Value} {zs : List (List Value × α)} (h : (Lay.rows e (layCells A.k A.pos)).rd w [v] (zs.map (·.1))) (hz : ∀ z ∈ zs, A.rd w z.1 z.2) : (Lay.rows e A).rd w [v] (zs.map (·.2)) := by
  obtain ⟨v', hv, h⟩ := h
  obtain rfl : v = v' := by simpa using hv
  rcases h with ⟨h0, h⟩ | ⟨g, off, cap, us, h1, h2, h3, h4, h5⟩
  · have e : zs = [] := by cases zs with
      | nil => rfl
      | cons _ _ => simp at h0
    subst e
    exact ⟨_, rfl, .inl ⟨rfl, h⟩⟩
  · refine ⟨_, rfl, .inr ⟨g, off, cap, us, ?_, ?_, h3, h4, raw_rdAll A h5 hz⟩⟩
    · rw [h1, List.length_map, List.length_map]
    · rw [List.length_map] at h2 ⊢
      exact h2

end Go.Proofs.Ythiicpbedgcmlaa
namespace Go.Proofs.Ythiicpbedgcmlaa
open Go.RowKit

section
variable {α : Type}
theorem ownAll_raw (A : Lay α) {w : World} {b : Nat} : ∀ {f : List Nat} {us : List Value} {xs : List α}, ownAll A w b f us xs → f.Nodup → ∃ zs : List (List Value × α × List Nat), xs = zs.map (·.2.1) ∧ (∀ w', rdAll (layCells A.k A.pos) w' us (zs.map (·.1))) ∧ (∀ z ∈ zs, A.own w b z.2.2 z.1 z.2.1 ∧ z.2.2.Nodup ∧ ∀ k ∈ z.2.2, k ∈ f) ∧ zs.Pairwise (fun y z => ∀ k ∈ y.2.2, k ∉ z.2.2)
  | f, us, [], h, _ => ⟨[], rfl, fun _ => h.2, (fun z hz => by cases hz), List.Pairwise.nil⟩
  | f, us, x :: xs, h, hd => by
    obtain ⟨f1, f2, c, us', rfl, rfl, h1, h2⟩ := h
    have hd2 := List.nodup_append.1 hd
    obtain ⟨zs, rfl, k1, k2, k3⟩ := ownAll_raw A h2 hd2.2.1
    have hr := A.read h1
    refine ⟨(c, x, f1) :: zs, rfl, fun w' => ⟨c, us', rfl, ⟨rfl, A.len hr, A.one hr⟩, k1 w'⟩, fun z hz => ?_, List.pairwise_cons.2 ⟨fun z hz k hk hm => hd2.2.2 k hk k ((k2 z hz).2.2 k hm) rfl, k3⟩⟩
    rcases List.mem_cons.1 hz with rfl | hz
    · exact ⟨h1, hd2.1, fun k hk => by simp [hk]⟩
    · exact ⟨(k2 z hz).1, (k2 z hz).2.1, fun k hk => by simp [(k2 z hz).2.2 k hk]⟩
theorem own_raw {e : TypeId} {A : Lay α} {w : World} {b : Nat} {fp : List Nat} {v : Value} {xs : List α} (h : (Lay.rows e A).own w b fp [v] xs) (hd : fp.Nodup) :
    ∃ zs : List (List Value × α × List Nat), xs = zs.map (·.2.1) ∧ (∀ w', (∀ g ∈ fp, w'.heap[g]? = w.heap[g]?) → (Lay.rows e (layCells A.k A.pos)).rd w' [v] (zs.map (·.1))) ∧ (∀ z ∈ zs, A.own w b z.2.2 z.1 z.2.1 ∧ z.2.2.Nodup ∧ ∀ k ∈ z.2.2, k ∈ fp) ∧ zs.Pairwise (fun y z => ∀ k ∈ y.2.2, k ∉ z.2.2) := by
  have hrd0 := (Lay.rows e A).read h
  obtain ⟨v', hv, h⟩ := h
  obtain rfl : v = v' := by simpa using hv
  rcases h with ⟨rfl, rfl, rfl⟩ | ⟨g, cap, us, fq, rfl, rfl, hrow, hall⟩
  · exact ⟨[], rfl, fun w' _ => ⟨_, rfl, .inl ⟨rfl, none, 0, rfl, fun _ => rfl⟩⟩, (fun z hz => by cases hz), List.Pairwise.nil⟩
  · obtain ⟨zs, hx, k1, k2, k3⟩ := ownAll_raw A hall (List.nodup_cons.1 hd).2
    have hn : xs.length = zs.length := by rw [hx, List.length_map]
    have hcell := hrow.cells (g := g) rfl
    have hb := ownsRow_block hrow
    have hcap : xs.length ≤ cap := by
      rcases hrow.2 with ⟨hv, _⟩ | ⟨g', cap', cur, hv, _, _, hc, _⟩
      · cases hv
      · simp only [Value.slice.injEq] at hv
        obtain ⟨-, -, rfl⟩ := hv
        exact hc
    refine ⟨zs, hx, fun w' hk => ?_, fun z hz => ⟨(k2 z hz).1, (k2 z hz).2.1, fun k hk => by simp [(k2 z hz).2.2 k hk]⟩, k3⟩
    have hg := hk g (by simp)
    refine ⟨_, rfl, .inr ⟨g, 0, cap, us, by rw [List.length_map, ← hn], by rw [List.length_map, ← hn]; exact hcap, ?_, fun i u hu => ?_, k1 w'⟩⟩
    · have h9 : w.heap[g]? = some (w.heap[g]'hb.2.1) := Array.getElem?_eq_getElem hb.2.1
      rw [h9] at hg
      exact (Array.getElem?_eq_some_iff.1 hg).1
    · have h9 := hcell i u hu
      rw [add_in, Nat.zero_add] at h9
      rw [Nat.zero_add]
      exact (World.cell?_of_block (by exact hg)).trans h9
end

end Go.Proofs.Ythiicpbedgcmlaa
