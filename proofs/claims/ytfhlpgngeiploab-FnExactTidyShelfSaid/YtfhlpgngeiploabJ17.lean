/-
  The given TidyShelf.
-/
import Derived.Test.YtfhlpgngeiploabJ13
import Derived.Test.YtfhlpgngeiploabJ16
import Derived.Deep.RegionHeld3
namespace Go.Proofs.Ytfhlpgngeiploab
open Go.RowKit

/-- The shelf, the result and a row of cells in their variables. -/
structure TSV (w : World) (v u : Value) (fp : List Nat) (ys : List (List Value)) (X : World) : Prop where
  s : VarA w.heap.size ShelfT #[v] X
  r : VarA (w.heap.size + 1) ShelfT #[.slice none 0 0] X
  o : VarA (w.heap.size + 1 + 1) ShelfT #[u] X
  dup : fp.Nodup
  own : (Lay.rows HeldT (layCells layHeld.k layHeld.pos)).own X (w.heap.size + 1 + 1 + 1) fp [u] ys
  below : Below w.heap.size w X
section
variable {w X Y : World} {v u : Value} {fp : List Nat} {ys : List (List Value)}
theorem TSV.next (h : TSV w v u fp ys X) (hb : Below X.heap.size X Y) : TSV w v u fp ys Y := ⟨h.s.next hb, h.r.next hb, h.o.next hb, h.dup, (Lay.rows HeldT (layCells layHeld.k layHeld.pos)).next h.own hb, h.below.trans (hb.mono h.below.size)⟩
theorem TSV.grown {fy : List Nat} {y : List Value} {u' : Value} (h : TSV w v u fp ys X) (hp : Pushed HeldT (layCells layHeld.k layHeld.pos) (w.heap.size + 1 + 1 + 1) u fp fy ys y X u' Y) : VarA w.heap.size ShelfT #[v] Y ∧ VarA (w.heap.size + 1) ShelfT #[.slice none 0 0] Y ∧ VarA (w.heap.size + 1 + 1) ShelfT #[u] Y ∧ Below w.heap.size w Y :=
  ⟨h.s.next' hp.below (by omega), h.r.next' hp.below (by omega), h.o.next' hp.below (by omega), h.below.trans (hp.below.mono (by omega))⟩
theorem TSV.put {f' : List Nat} {zs : List (List Value)} {u' : Value} (h : VarA w.heap.size ShelfT #[v] Y ∧ VarA (w.heap.size + 1) ShelfT #[.slice none 0 0] Y ∧ VarA (w.heap.size + 1 + 1) ShelfT #[u] Y ∧ Below w.heap.size w Y) (ho : (Lay.rows HeldT (layCells layHeld.k layHeld.pos)).own Y (w.heap.size + 1 + 1 + 1) f' [u'] zs) (hd : f'.Nodup) : TSV w v u' f' zs (Y.setCell ⟨w.heap.size + 1 + 1, 0, none⟩ u') := by
  have hc : Only (w.heap.size + 1 + 1) Y (Y.setCell ⟨w.heap.size + 1 + 1, 0, none⟩ u') := Only.setCell 0 _
  exact ⟨h.1.only hc (by omega), h.2.1.only hc (by omega), h.2.2.1.set 0 _, hd, (Lay.rows HeldT (layCells layHeld.k layHeld.pos)).keep ho (fun a ha => hc.block a ((Lay.rows HeldT (layCells layHeld.k layHeld.pos)).blocks ho a ha).2 (by have := ((Lay.rows HeldT (layCells layHeld.k layHeld.pos)).blocks ho a ha).1; omega)), h.2.2.2.setCell (p := ⟨w.heap.size + 1 + 1, 0, none⟩) (show w.heap.size ≤ w.heap.size + 1 + 1 by omega) _⟩
end
/-- What stays till then. -/
def stayZ (now : Int) (zs : List (List Value × HeldD)) : List (List Value × HeldD) := zs.filter (fun z => decide (now < z.2.2.2.2.2.2))
theorem stayZ_snd (now : Int) (zs : List (List Value × HeldD)) : (stayZ now zs).map (·.2) = tidyV (zs.map (·.2)) now := by
  unfold stayZ tidyV
  rw [List.filter_map]
  rfl
theorem stayZ_next {now : Int} {zs : List (List Value × HeldD)} {j : Nat} (h : j < zs.length) : stayZ now (zs.take (j + 1)) = stayZ now (zs.take j) ++ (if now < zs[j].2.2.2.2.2.2 then [zs[j]] else []) := by
  unfold stayZ
  rw [take_next h, List.filter_append]
  congr 1
  by_cases hh : now < zs[j].2.2.2.2.2.2
  · rw [if_pos hh]; simp [hh]
  · rw [if_neg hh]; simp [hh]
theorem stayZ_len (now : Int) (zs : List (List Value × HeldD)) : (stayZ now zs).length ≤ zs.length := List.length_filter_le _ _

set_option maxRecDepth 100000 in
set_option maxHeartbeats 6400000 in
theorem specTidyShelf_any (v : Value) (xs : List HeldD) (now : Int) (hl : xs.length ≤ 10000000) (hf : ∀ x ∈ xs, x.2.2.2.1.length ≤ 10000000 ∧ x.2.2.2.2.1.length ≤ 10000000) (w : World) (h : layHeldS.rd w [v] xs) :
    Calls Try.prog 15 #[.agg #[v], .int .i64 now] w (ShelfMade w (tidyV xs now)) := by
  obtain ⟨i0, hi0, hz0, hs0, hb0⟩ := info_of infoHeld
  obtain ⟨zs, hzs, hraw, hel⟩ := rows_raw h
  obtain ⟨a, p, rfl⟩ := rows_form h
  have e1 : (w.alloc (.cells #[.slice a xs.length p] ShelfT)).heap.size = w.heap.size + 1 := by simp
  have e2 : ((w.alloc (.cells #[.slice a xs.length p] ShelfT)).alloc (.cells #[.slice none 0 0] ShelfT)).heap.size = w.heap.size + 1 + 1 := by simp
  have h2 := VarA.new (w.alloc (.cells #[.slice a xs.length p] ShelfT)) ShelfT #[.slice none 0 0]
  have h3 := VarA.new ((w.alloc (.cells #[.slice a xs.length p] ShelfT)).alloc (.cells #[.slice none 0 0] ShelfT)) ShelfT #[.slice none 0 0]
  rw [e1] at h2
  rw [e2] at h3
  have D0 : Hid (TSV w (.slice a xs.length p) (.slice none 0 0) [] [] (((w.alloc (.cells #[.slice a xs.length p] ShelfT)).alloc (.cells #[.slice none 0 0] ShelfT)).alloc (.cells #[.slice none 0 0] ShelfT))) := Lib.hid ⟨((VarA.new w ShelfT #[.slice a xs.length p]).alloc _).alloc _, h2.alloc _, h3, List.nodup_nil, none_rows _ _, (((Below.refl w.heap.size w).alloc (Nat.le_refl _) _).alloc (by simp) _).alloc (by simp; omega) _⟩
  have HW := Lib.hid hraw
  have HE := Lib.hid hel
  have hzl : zs.length = xs.length := by rw [hzs, List.length_map]
  have HT : Hid (tidyV xs now = (stayZ now zs).map (·.2)) := Lib.hid (by rw [stayZ_snd, hzs])
  have HF : Hid (∀ z ∈ zs, z.2.2.2.2.1.length ≤ 10000000 ∧ z.2.2.2.2.2.1.length ≤ 10000000) := Lib.hid (fun z hz => hf z.2 (by rw [hzs]; exact List.mem_map_of_mem hz))
  rw [HT.out]
  generalize xs.length = n at *
  clear h hf h2 h3 e1 e2 hraw hel hzs HT
  obtain ⟨Q, HQ⟩ : ∃ Q : Ending → World → Prop, Hid (Q = ShelfMade w ((stayZ now zs).map (·.2))) := ⟨_, Lib.hid rfl⟩
  rw [← HQ.out]
  go_enter Try.func15, Try.ntmps15
  go_upto_region 2 with fail
  generalize (((w.alloc (.cells #[.slice a n p] ShelfT)).alloc (.cells #[.slice none 0 0] ShelfT)).alloc (.cells #[.slice none 0 0] ShelfT)) = Y at *
  go_wp2_with fail
  go_loopw [6] (fun i wr => ∃ (j : Nat) (fp : List Nat) (u : Value), j ≤ n ∧ i = .int .i64 j ∧ Hid (TSV w (.slice a n p) u fp ((stayZ now (zs.take j)).map (·.1)) wr)) (fun i _ => n - (intOf i).toNat)
  case atStart => exact ⟨0, [], _, Nat.zero_le _, rfl, D0⟩
  case round =>
    obtain ⟨j, fp, u, hj, rfl, D1⟩ := hrel
    have c0 : wr.cell? ⟨w.heap.size, 0, none⟩ = some (.slice a n p) := D1.out.s.cell 0
    by_cases hlt : j < n
    rotate_left
    · have hlt' : ¬ ((j : Int) < (n : Int)) := by omega
      obtain rfl : j = n := by omega
      rw [List.take_of_length_le (by omega)] at D1
      have hrd : layHeldS.rd wr [u] ((stayZ now zs).map (·.2)) := raw_rows ((Lay.rows HeldT (layCells layHeld.k layHeld.pos)).read D1.out.own) (fun z hz => layHeld.below (HE.out z (List.mem_filter.1 hz).1) D1.out.below)
      have KC := Lib.hid (specShelfCopy_any u ((stayZ now zs).map (·.2)) (by rw [List.length_map]; have := stayZ_len now zs; omega) (fun x hx => by
        obtain ⟨z, hz, rfl⟩ := List.mem_map.1 hx
        exact HF.out z (List.mem_filter.1 hz).1) wr hrd)
      have d0 : wr.cell? ⟨w.heap.size + 1 + 1, 0, none⟩ = some u := D1.out.o.cell 0
      clear hrd
      go_wp2_with fail
      refine KC.out.mono ?_
      rintro e Y1 ⟨v', f', rfl, hd, ho, hb⟩
      obtain ⟨qa, qc, rfl⟩ := rows_form (layHeldS.read ho)
      have hr1 := D1.out.r.next hb
      have r0 : Y1.cell? ⟨w.heap.size + 1, 0, none⟩ = some (.slice none 0 0) := hr1.cell 0
      have g0 := hr1.free 0
      have j0 : (Y1.setCell ⟨w.heap.size + 1, 0, none⟩ (.slice qa ((stayZ now zs).map (·.2)).length qc)).cell? ⟨w.heap.size + 1, 0, none⟩ = some (.slice qa ((stayZ now zs).map (·.2)).length qc) := (hr1.set 0 _).cell 0
      have E : Hid (Q (.returned (.agg #[.slice qa ((stayZ now zs).map (·.2)).length qc])) (Y1.setCell ⟨w.heap.size + 1, 0, none⟩ (.slice qa ((stayZ now zs).map (·.2)).length qc))) := Lib.hid (by
        rw [HQ.out]
        have ho1 : Only (w.heap.size + 1) Y1 (Y1.setCell ⟨w.heap.size + 1, 0, none⟩ (.slice qa ((stayZ now zs).map (·.2)).length qc)) := Only.setCell 0 _
        have hz1 : w.heap.size + 1 + 1 + 1 ≤ wr.heap.size := D1.out.o.lt
        have hbb := D1.out.below.trans (hb.mono D1.out.below.size)
        exact ⟨_, f', rfl, hd, layHeldS.lower (layHeldS.keep ho (fun a ha => ho1.block a (layHeldS.blocks ho a ha).2 (by have := (layHeldS.blocks ho a ha).1; omega))) (by omega), hbb.trans (ho1.below (by omega) hbb.size)⟩)
      clear hr1 hd ho hb KC d0
      generalize ((stayZ now zs).map (·.2)).length = nn at *
      go_wp2_with fail
      try simp only [Exit.inBlock, Exit.then]
      exact bodyPost_ret (v := .agg #[.slice qa nn qc]) (by simp [results, Try.results15, go_sem, j0]) rfl E.out
    have hlt' : (j : Int) < (n : Int) := by omega
    have hjz : j < zs.length := by omega
    have hn1 := stayZ_next (now := now) hjz
    obtain ⟨g, og, cs, rfl, hg, hr, hcl⟩ := rows_elem HW.out j zs[j].1 (by rw [List.getElem?_map, List.getElem?_eq_getElem hjz]; rfl)
    obtain ⟨rfl, hk6, hone⟩ := hr
    have hel := HE.out _ (List.getElem_mem hjz)
    generalize zs[j] = z at hn1 hcl hel hk6 hone
    obtain ⟨cz, x⟩ := z
    obtain ⟨v3, v4, hcz, -, -⟩ := layHeld_rd.1 hel
    simp only at hcz
    subst hcz
    obtain ⟨x0, x1, x2, r3, r4, x5⟩ := x
    simp only at hn1
    have d0 : w.cell? ⟨g, og + j * 6, none⟩ = some (.int .i64 x0) := hcl 0 _ rfl
    have d1 : w.cell? ⟨g, og + j * 6 + 1, none⟩ = some (.int .i64 x1) := hcl 1 _ rfl
    have d2 : w.cell? ⟨g, og + j * 6 + 2, none⟩ = some (.int .i64 x2) := hcl 2 _ rfl
    have d3 : w.cell? ⟨g, og + j * 6 + 3, none⟩ = some (v3) := hcl 3 _ rfl
    have d4 : w.cell? ⟨g, og + j * 6 + 4, none⟩ = some (v4) := hcl 4 _ rfl
    have d5 : w.cell? ⟨g, og + j * 6 + 5, none⟩ = some (.int .i64 x5) := hcl 5 _ rfl
    have c5 : wr.cell? ⟨g, og + j * 6 + 5, none⟩ = some (.int .i64 x5) := (D1.out.below.cell (p := ⟨g, og + j * 6 + 5, none⟩) hg).trans d5
    have HONE := Lib.hid hone
    clear hel hk6 hone hcl
    by_cases hu : now < x5
    rotate_left
    · have ku : decide (now < x5) = false := decide_eq_false hu
      rw [if_neg hu, List.append_nil] at hn1
      have D2 : Hid (TSV w (.slice (some ⟨g, og, none⟩) n p) u fp ((stayZ now (zs.take (j + 1))).map (·.1)) wr) := Lib.hid (by rw [hn1]; exact D1.out)
      clear hn1 D1 hu
      go_wp2_with fail
      go_roundw
      case rel => exact ⟨j + 1, fp, u, by omega, by go_num, D2⟩
      case measure => simp [intOf]; omega
    have ku : decide (now < x5) = true := decide_eq_true hu
    rw [if_pos hu] at hn1
    have HN : Hid ((stayZ now (zs.take (j + 1))).map (·.1) = (stayZ now (zs.take j)).map (·.1) ++ [[.int .i64 x0, .int .i64 x1, .int .i64 x2, v3, v4, .int .i64 x5]]) := Lib.hid (by rw [hn1, List.map_append]; rfl)
    have HL : Hid (((stayZ now (zs.take j)).map (·.1)).length ≤ j) := Lib.hid (by rw [List.length_map]; have h9 := stayZ_len now (zs.take j); rw [List.length_take] at h9; omega)
    clear hn1 hu
    generalize (stayZ now (zs.take j)).map (·.1) = ys at *
    go_upto_region 6 with fail
    have E0 : Hid (VarA w.heap.size ShelfT #[.slice (some ⟨g, og, none⟩) n p] wr.drew ∧ (∃ u, VarA (w.heap.size + 1 + 1) ShelfT #[u] wr.drew) ∧ Below w.heap.size w wr.drew) := Lib.hid ⟨D1.out.s.drew, ⟨u, D1.out.o.drew⟩, D1.out.below.drew⟩
    have TD : Hid (TSV w (.slice (some ⟨g, og, none⟩) n p) u fp ys wr.drew) := Lib.hid (D1.out.next (Below.refl _ _).drew)
    have HG := Lib.hid hg
    clear D1 c0 c5
    go_wp2_with fail
    refine wp_region_held_drew (S := fun X => Hid (VarA w.heap.size ShelfT #[.slice (some ⟨g, og, none⟩) n p] X ∧ (∃ u, VarA (w.heap.size + 1 + 1) ShelfT #[u] X) ∧ Below w.heap.size w X)) (by kernel_rfl) E0 (fun hHeld => ?_)
    clear E0
    generalize wr.drew = X0 at *
    refine wpAnyH_take (i := 0) (v := ?_) rfl (by kernel_rfl) (by kernel_rfl) (by kernel_rfl) (fun _ _ _ h => h) (Or.inl ⟨by kernel_rfl, ?_⟩) hHeld ?_
    rotate_left
    · intro X hX
      first | (go_simp; done) | (go_simp; with_reducible rfl)
    try simp only [Act.put, List.getElem_toArray, List.getElem_cons_zero, List.setIfInBounds_toArray, List.set_cons_zero, List.set_cons_succ]
    refine wpAnyH_take (i := 2) (v := ?_) rfl (by kernel_rfl) (by kernel_rfl) (by kernel_rfl) (fun _ _ _ h => h) (Or.inl ⟨by kernel_rfl, ?_⟩) hHeld ?_
    rotate_left
    · intro X hX
      first | (go_simp; done) | (go_simp; with_reducible rfl)
    try simp only [Act.put, List.getElem_toArray, List.getElem_cons_succ, List.getElem_cons_zero, List.setIfInBounds_toArray, List.set_cons_zero, List.set_cons_succ]
    refine wpAnyH_take (i := 3) (v := ?_) rfl (by kernel_rfl) (by kernel_rfl) (by kernel_rfl) (fun _ _ _ h => h) (Or.inl ⟨by kernel_rfl, ?_⟩) hHeld ?_
    rotate_left
    · intro X hX
      have q0 : X.cell? ⟨w.heap.size, 0, none⟩ = some (.slice (some ⟨g, og, none⟩) n p) := hX.out.1.cell 0
      first | (go_simp; done) | (go_simp; with_reducible rfl)
    try simp only [Act.put, List.getElem_toArray, List.getElem_cons_succ, List.getElem_cons_zero, List.setIfInBounds_toArray, List.set_cons_zero, List.set_cons_succ]
    refine wpAnyH_take (i := 4) (v := ?_) rfl (by kernel_rfl) (by kernel_rfl) (by kernel_rfl) (fun _ _ _ h => h) (Or.inl ⟨by kernel_rfl, ?_⟩) hHeld ?_
    rotate_left
    · intro X hX
      first | (go_simp; done) | (go_simp; with_reducible rfl)
    try simp only [Act.put, List.getElem_toArray, List.getElem_cons_succ, List.getElem_cons_zero, List.setIfInBounds_toArray, List.set_cons_zero, List.set_cons_succ]
    refine wpAnyH_take (i := 5) (v := ?_) rfl (by kernel_rfl) (by kernel_rfl) (by kernel_rfl) (fun _ _ _ h => h) (Or.inl ⟨by kernel_rfl, ?_⟩) hHeld ?_
    rotate_left
    · intro X hX
      first | (go_simp; done) | (go_simp; with_reducible rfl)
    try simp only [Act.put, List.getElem_toArray, List.getElem_cons_succ, List.getElem_cons_zero, List.setIfInBounds_toArray, List.set_cons_zero, List.set_cons_succ]
    refine wpAnyH_take (i := 6) (v := ?_) rfl (by kernel_rfl) (by kernel_rfl) (by kernel_rfl) (fun _ _ _ h => h) (Or.inl ⟨by kernel_rfl, ?_⟩) hHeld ?_
    rotate_left
    · intro X hX
      have q0 : X.cell? ⟨g, og + j * 6, none⟩ = some (.int .i64 x0) := (hX.out.2.2.cell (p := ⟨g, og + j * 6, none⟩) HG.out).trans d0
      have q1 : X.cell? ⟨g, og + j * 6 + 1, none⟩ = some (.int .i64 x1) := (hX.out.2.2.cell (p := ⟨g, og + j * 6 + 1, none⟩) HG.out).trans d1
      have q2 : X.cell? ⟨g, og + j * 6 + 2, none⟩ = some (.int .i64 x2) := (hX.out.2.2.cell (p := ⟨g, og + j * 6 + 2, none⟩) HG.out).trans d2
      have q3 : X.cell? ⟨g, og + j * 6 + 3, none⟩ = some (v3) := (hX.out.2.2.cell (p := ⟨g, og + j * 6 + 3, none⟩) HG.out).trans d3
      have q4 : X.cell? ⟨g, og + j * 6 + 4, none⟩ = some (v4) := (hX.out.2.2.cell (p := ⟨g, og + j * 6 + 4, none⟩) HG.out).trans d4
      have q5 : X.cell? ⟨g, og + j * 6 + 5, none⟩ = some (.int .i64 x5) := (hX.out.2.2.cell (p := ⟨g, og + j * 6 + 5, none⟩) HG.out).trans d5
      first | (go_simp; done) | (go_simp; with_reducible rfl)
    try simp only [Act.put, List.getElem_toArray, List.getElem_cons_succ, List.getElem_cons_zero, List.setIfInBounds_toArray, List.set_cons_zero, List.set_cons_succ]
    refine wpAnyH_ready (rs := [1, 7]) (by kernel_rfl) (by simp) ?_
    refine AllReadyH.cons rfl (fun K hK => ?_) (AllReadyH.cons rfl (fun K hK => ?_) AllReadyH.nil)
    · have y0_ : X0.cell? ⟨w.heap.size + 1 + 1, 0, none⟩ = some u := TD.out.o.cell 0
      go_simp
      refine hK.out _ _ hHeld (fun hHeld => ?_)
      clear hK K y0_
      try simp only [Act.put, List.getElem_toArray, List.getElem_cons_succ, List.getElem_cons_zero, List.setIfInBounds_toArray, List.set_cons_zero, List.set_cons_succ]
      refine wpAnyH_ready (rs := [7]) (by kernel_rfl) (by simp) ?_
      refine AllReadyH.cons rfl (fun K hK => ?_) AllReadyH.nil
      go_simp
      have hal : Below X0.heap.size X0 (X0.alloc (.cells #[.int .i64 x0, .int .i64 x1, .int .i64 x2, v3, v4, .int .i64 x5] HeldT)) := (Below.refl _ _).alloc (Nat.le_refl _) _
      have HC : Hid (∀ (j : Nat) (q : Value), ([.int .i64 x0, .int .i64 x1, .int .i64 x2, v3, v4, .int .i64 x5] : List Value)[j]? = some q → (X0.alloc (.cells #[.int .i64 x0, .int .i64 x1, .int .i64 x2, v3, v4, .int .i64 x5] HeldT)).cell? ((⟨X0.heap.size, 0, none⟩ : Addr).add j) = some q) := Lib.hid (fun j q hj => lit_held X0 #[.int .i64 x0, .int .i64 x1, .int .i64 x2, v3, v4, .int .i64 x5] HeldT j q hj)
      replace TD := Lib.hid (TD.out.next hal)
      refine hK.out _ _ (Lib.hid ⟨hHeld.out.1.next hal, ⟨u, TD.out.o⟩, hHeld.out.2.2.trans (hal.mono hHeld.out.2.2.size)⟩) (fun hHeld => ?_)
      clear hK K hal
      generalize (X0.alloc (.cells #[.int .i64 x0, .int .i64 x1, .int .i64 x2, v3, v4, .int .i64 x5] HeldT)) = X2 at *
      generalize X0.heap.size = gl at *
      try simp only [Act.put, List.getElem_toArray, List.getElem_cons_succ, List.getElem_cons_zero, List.setIfInBounds_toArray, List.set_cons_zero, List.set_cons_succ]
      refine wpAnyH_ready (rs := [8]) (by kernel_rfl) (by simp) ?_
      refine AllReadyH.cons rfl (fun K hK => ?_) AllReadyH.nil
      refine step_pushL rfl _ _ 27 rfl (w.heap.size + 1 + 1 + 1) HeldT i0 _ 80 (layCells layHeld.k layHeld.pos) Try.underlying27 hi0 hz0 hs0 hb0 rfl (by omega) u fp ys (by rfl) TD.out.own TD.out.dup [.int .i64 x0, .int .i64 x1, .int .i64 x2, v3, v4, .int .i64 x5] [.int .i64 x0, .int .i64 x1, .int .i64 x2, v3, v4, .int .i64 x5] [] ⟨rfl, rfl, rfl, HONE.out⟩ List.nodup_nil (fun k hk => by cases hk) ⟨gl, 0, none⟩ (by rfl) HC.out (by have := HL.out; omega) (by have := TD.out.o.lt; omega) ?_
      intro v1 X3 hp
      have T4 := TD.out.grown hp
      obtain ⟨f2, hof, hdf, -⟩ := hp.own
      rw [← HN.out] at hof
      have HOF := Lib.hid hof
      have HDF := Lib.hid hdf
      have HT4 := Lib.hid T4
      refine hK.out _ _ (Lib.hid ⟨T4.1, ⟨u, T4.2.2.1⟩, T4.2.2.2⟩) (fun hHeld => ?_)
      clear hK K TD hp hof hdf T4 HC
      try simp only [Act.put, List.getElem_toArray, List.getElem_cons_succ, List.getElem_cons_zero, List.setIfInBounds_toArray, List.set_cons_zero, List.set_cons_succ]
      refine wpAnyH_take (i := 9) (v := ?_) rfl (by kernel_rfl) (by kernel_rfl) (by kernel_rfl) (fun _ _ _ h => h) (Or.inl ⟨by kernel_rfl, ?_⟩) hHeld ?_
      rotate_left
      · intro X hX
        first | (go_simp; done) | (go_simp; with_reducible rfl)
      try simp only [Act.put, List.getElem_toArray, List.getElem_cons_succ, List.getElem_cons_zero, List.setIfInBounds_toArray, List.set_cons_zero, List.set_cons_succ]
      refine wpAnyH_ready (rs := [10]) (by kernel_rfl) (by simp) ?_
      refine AllReadyH.cons rfl (fun K hK => ?_) AllReadyH.nil
      obtain ⟨na, nk, hv1⟩ : ∃ na nk, v1 = .slice na ((stayZ now (zs.take (j + 1))).map (·.1)).length nk := rows_form ((Lay.rows HeldT (layCells layHeld.k layHeld.pos)).read HOF.out)
      have y0_ : X3.cell? ⟨w.heap.size + 1 + 1, 0, none⟩ = some u := HT4.out.2.2.1.cell 0
      have g0_ := HT4.out.2.2.1.free 0
      rw [hv1] at HOF ⊢
      generalize ((stayZ now (zs.take (j + 1))).map (·.1)).length = nn at *
      go_simp
      have D5 := Lib.hid (TSV.put HT4.out HOF.out HDF.out)
      refine hK.out _ _ (Lib.hid ⟨D5.out.s, ⟨_, D5.out.o⟩, D5.out.below⟩) (fun hHeld => ?_)
      clear hK K y0_ g0_ HOF HDF HT4
      try simp only [Act.put, List.getElem_toArray, List.getElem_cons_succ, List.getElem_cons_zero, List.setIfInBounds_toArray, List.set_cons_zero, List.set_cons_succ]
      refine wpAnyH_done (by kernel_rfl) ?_ _
      clear hHeld
      go_wp2_with fail
      go_roundw
      case rel => exact ⟨j + 1, f2, _, by omega, by go_num, D5⟩
      case measure => simp [intOf]; omega
    · go_simp
      have hal : Below X0.heap.size X0 (X0.alloc (.cells #[.int .i64 x0, .int .i64 x1, .int .i64 x2, v3, v4, .int .i64 x5] HeldT)) := (Below.refl _ _).alloc (Nat.le_refl _) _
      have HC : Hid (∀ (j : Nat) (q : Value), ([.int .i64 x0, .int .i64 x1, .int .i64 x2, v3, v4, .int .i64 x5] : List Value)[j]? = some q → (X0.alloc (.cells #[.int .i64 x0, .int .i64 x1, .int .i64 x2, v3, v4, .int .i64 x5] HeldT)).cell? ((⟨X0.heap.size, 0, none⟩ : Addr).add j) = some q) := Lib.hid (fun j q hj => lit_held X0 #[.int .i64 x0, .int .i64 x1, .int .i64 x2, v3, v4, .int .i64 x5] HeldT j q hj)
      replace TD := Lib.hid (TD.out.next hal)
      refine hK.out _ _ (Lib.hid ⟨hHeld.out.1.next hal, ⟨u, TD.out.o⟩, hHeld.out.2.2.trans (hal.mono hHeld.out.2.2.size)⟩) (fun hHeld => ?_)
      clear hK K hal
      generalize (X0.alloc (.cells #[.int .i64 x0, .int .i64 x1, .int .i64 x2, v3, v4, .int .i64 x5] HeldT)) = X1 at *
      generalize X0.heap.size = gl at *
      try simp only [Act.put, List.getElem_toArray, List.getElem_cons_succ, List.getElem_cons_zero, List.setIfInBounds_toArray, List.set_cons_zero, List.set_cons_succ]
      refine wpAnyH_ready (rs := [1]) (by kernel_rfl) (by simp) ?_
      refine AllReadyH.cons rfl (fun K hK => ?_) AllReadyH.nil
      have y0_ : X1.cell? ⟨w.heap.size + 1 + 1, 0, none⟩ = some u := TD.out.o.cell 0
      go_simp
      refine hK.out _ _ hHeld (fun hHeld => ?_)
      clear hK K y0_
      try simp only [Act.put, List.getElem_toArray, List.getElem_cons_succ, List.getElem_cons_zero, List.setIfInBounds_toArray, List.set_cons_zero, List.set_cons_succ]
      refine wpAnyH_ready (rs := [8]) (by kernel_rfl) (by simp) ?_
      refine AllReadyH.cons rfl (fun K hK => ?_) AllReadyH.nil
      refine step_pushL rfl _ _ 27 rfl (w.heap.size + 1 + 1 + 1) HeldT i0 _ 80 (layCells layHeld.k layHeld.pos) Try.underlying27 hi0 hz0 hs0 hb0 rfl (by omega) u fp ys (by rfl) TD.out.own TD.out.dup [.int .i64 x0, .int .i64 x1, .int .i64 x2, v3, v4, .int .i64 x5] [.int .i64 x0, .int .i64 x1, .int .i64 x2, v3, v4, .int .i64 x5] [] ⟨rfl, rfl, rfl, HONE.out⟩ List.nodup_nil (fun k hk => by cases hk) ⟨gl, 0, none⟩ (by rfl) HC.out (by have := HL.out; omega) (by have := TD.out.o.lt; omega) ?_
      intro v1 X3 hp
      have T4 := TD.out.grown hp
      obtain ⟨f2, hof, hdf, -⟩ := hp.own
      rw [← HN.out] at hof
      have HOF := Lib.hid hof
      have HDF := Lib.hid hdf
      have HT4 := Lib.hid T4
      refine hK.out _ _ (Lib.hid ⟨T4.1, ⟨u, T4.2.2.1⟩, T4.2.2.2⟩) (fun hHeld => ?_)
      clear hK K TD hp hof hdf T4 HC
      try simp only [Act.put, List.getElem_toArray, List.getElem_cons_succ, List.getElem_cons_zero, List.setIfInBounds_toArray, List.set_cons_zero, List.set_cons_succ]
      refine wpAnyH_take (i := 9) (v := ?_) rfl (by kernel_rfl) (by kernel_rfl) (by kernel_rfl) (fun _ _ _ h => h) (Or.inl ⟨by kernel_rfl, ?_⟩) hHeld ?_
      rotate_left
      · intro X hX
        first | (go_simp; done) | (go_simp; with_reducible rfl)
      try simp only [Act.put, List.getElem_toArray, List.getElem_cons_succ, List.getElem_cons_zero, List.setIfInBounds_toArray, List.set_cons_zero, List.set_cons_succ]
      refine wpAnyH_ready (rs := [10]) (by kernel_rfl) (by simp) ?_
      refine AllReadyH.cons rfl (fun K hK => ?_) AllReadyH.nil
      obtain ⟨na, nk, hv1⟩ : ∃ na nk, v1 = .slice na ((stayZ now (zs.take (j + 1))).map (·.1)).length nk := rows_form ((Lay.rows HeldT (layCells layHeld.k layHeld.pos)).read HOF.out)
      have y0_ : X3.cell? ⟨w.heap.size + 1 + 1, 0, none⟩ = some u := HT4.out.2.2.1.cell 0
      have g0_ := HT4.out.2.2.1.free 0
      rw [hv1] at HOF ⊢
      generalize ((stayZ now (zs.take (j + 1))).map (·.1)).length = nn at *
      go_simp
      have D5 := Lib.hid (TSV.put HT4.out HOF.out HDF.out)
      refine hK.out _ _ (Lib.hid ⟨D5.out.s, ⟨_, D5.out.o⟩, D5.out.below⟩) (fun hHeld => ?_)
      clear hK K y0_ g0_ HOF HDF HT4
      try simp only [Act.put, List.getElem_toArray, List.getElem_cons_succ, List.getElem_cons_zero, List.setIfInBounds_toArray, List.set_cons_zero, List.set_cons_succ]
      refine wpAnyH_done (by kernel_rfl) ?_ _
      clear hHeld
      go_wp2_with fail
      go_roundw
      case rel => exact ⟨j + 1, f2, _, by omega, by go_num, D5⟩
      case measure => simp [intOf]; omega

end Go.Proofs.Ytfhlpgngeiploab
