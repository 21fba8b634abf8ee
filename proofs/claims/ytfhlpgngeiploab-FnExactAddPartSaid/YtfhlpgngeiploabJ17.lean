/-
  The program's copyOfShelf.
  The given l05Byte: one byte as a text.
  'out = append(out, x)' as a step of a region that draws its order; no program is spoken of here.
  The given ReadPart and Split.
-/
import Derived.Test.YtfhlpgngeiploabJ16
import Derived.Test.YtfhlpgngeiploabJ14
import Derived.Test.YtfhlpgngeiploabJ01
import Derived.Test.YtfhlpgngeiploabRows
import Derived.Test.YtfhlpgngeiploabJ04
import Derived.Test.YtfhlpgngeiploabJ12
import Derived.Test.YtfhlpgngeiploabJ13
import Derived.Test.YtfhlpgngeiploabJ06
import Derived.Deep.RegionHeld3
import Derived.Deep.DeepCutAuto
import Derived.BigQuiet
import Derived.Deep.QuietTactic
namespace Go.Proofs.Ytfhlpgngeiploab
open Go.RowKit

theorem rows_room0 {α : Type} {e : TypeId} {A : Lay α} {X : World} {b g c : Nat} (h : X.ownsRow b e A.k (.slice (some ⟨g, 0, none⟩) 0 c) 0 []) : (Lay.rows e A).own X b [g] [.slice (some ⟨g, 0, none⟩) 0 c] [] :=
  ⟨_, rfl, .inr ⟨g, c, [], [], rfl, rfl, h, ⟨rfl, rfl⟩⟩⟩
/-- The shelf and the result in their variables, and the list that grows. -/
structure TDV (w : World) (v u : Value) (fp : List Nat) (ys : List HeldD) (X : World) : Prop where
  s : VarA w.heap.size ShelfT #[v] X
  r : VarA (w.heap.size + 1) ShelfT #[.slice none 0 0] X
  dup : fp.Nodup
  own : layHeldS.own X (w.heap.size + 2) fp [u] ys
  below : Below w.heap.size w X
section
variable {w X Y : World} {v u : Value} {fp : List Nat} {ys : List HeldD}
theorem TDV.next (h : TDV w v u fp ys X) (hb : Below X.heap.size X Y) : TDV w v u fp ys Y := ⟨h.s.next hb, h.r.next hb, h.dup, layHeldS.next h.own hb, h.below.trans (hb.mono h.below.size)⟩
theorem TDV.pushed {fy f' : List Nat} {y : HeldD} {zs : List HeldD} {u' : Value} (h : TDV w v u fp ys X) (hp : Pushed HeldT layHeld (w.heap.size + 2) u fp fy ys y X u' Y) (ho : layHeldS.own Y (w.heap.size + 2) f' [u'] zs) (hd : f'.Nodup) : TDV w v u' f' zs Y :=
  ⟨h.s.next' hp.below (by omega), h.r.next' hp.below (by omega), hd, ho, h.below.trans (hp.below.mono (by omega))⟩
end

set_option maxRecDepth 100000 in
set_option maxHeartbeats 6400000 in
theorem copyOfShelf_any (HG : CloneGives) (v : Value) (xs : List HeldD) (hf : FitsHeldS xs) (w : World) (h : layHeldS.rd w [v] xs) :
    Calls Try.prog 27 #[.agg #[v]] w (ShelfMade w (xs)) := by
  obtain ⟨i0, hi0, hz0, hs0, hb0⟩ := info_of infoHeld
  obtain ⟨a, p, rfl⟩ := rows_form h
  have e1 : (w.alloc (.cells #[.slice a xs.length p] ShelfT)).heap.size = w.heap.size + 1 := by simp
  have h2 := VarA.new (w.alloc (.cells #[.slice a xs.length p] ShelfT)) ShelfT #[.slice none 0 0]
  rw [e1] at h2
  have A0 := Lib.hid ((VarA.new w ShelfT #[.slice a xs.length p]).alloc (.cells #[.slice none 0 0] ShelfT))
  have R0 := Lib.hid h2
  have B0 := Lib.hid (((Below.refl w.heap.size w).alloc (Nat.le_refl _) (.cells #[.slice a xs.length p] ShelfT)).alloc (by simp) (.cells #[.slice none 0 0] ShelfT))
  have hz : Hid (((w.alloc (.cells #[.slice a xs.length p] ShelfT)).alloc (.cells #[.slice none 0 0] ShelfT)).heap.size = w.heap.size + 2) := Lib.hid (by simp)
  have HR := Lib.hid h
  have HF := Lib.hid hf
  have hl : xs.length ≤ 10000000 := by have := hf.1; omega
  clear h hf h2 e1
  obtain ⟨Q, HQ⟩ : ∃ Q : Ending → World → Prop, Hid (Q = ShelfMade w (xs)) := ⟨_, Lib.hid rfl⟩
  rw [← HQ.out]
  go_enter Try.func27, Try.ntmps27
  go_upto_region 1 with fail
  generalize ((w.alloc (.cells #[.slice a xs.length p] ShelfT)).alloc (.cells #[.slice none 0 0] ShelfT)) = Y at *
  have c0 : Y.cell? ⟨w.heap.size, 0, none⟩ = some (.slice a xs.length p) := A0.out.cell 0
  go_upto_region 2 with (at_make; refine wpList_make_own _ rfl _ _ 27 rfl (w.heap.size + 2) HeldT i0 _ 6 Try.underlying27 hi0 hz0 hs0 .i64 .i64 _ xs.length rfl rfl rfl (by rw [hb0]; omega) (by unfold maxLen; omega) (by have := hz.out; omega) ?_)
  intro Y1 hown1 hg1
  rw [hz.out] at hown1 ⊢
  have hal : Below Y.heap.size Y Y1 := below_grown hg1 (fun k h => by cases h) (Nat.le_refl _)
  have D0 : Hid (TDV w (.slice a xs.length p) (.slice (some ⟨w.heap.size + 2, 0, none⟩) 0 xs.length) [w.heap.size + 2] [] Y1) := Lib.hid ⟨A0.out.next hal, R0.out.next hal, by simp, rows_room0 hown1, B0.out.trans (hal.mono (by have := hz.out; omega))⟩
  clear hal hown1 hg1 c0 A0 R0 B0
  go_upto_region 2 with fail
  have c0 : Y1.cell? ⟨w.heap.size, 0, none⟩ = some (.slice a xs.length p) := D0.out.s.cell 0
  go_wp2_with fail
  clear c0 hz
  go_loopw [3, 13] (fun t i wr => ∃ (j : Nat) (fp : List Nat), j ≤ xs.length ∧ i = .int .i64 j ∧ Hid (TDV w (.slice a xs.length p) t fp (xs.take j) wr)) (fun _ i _ => xs.length - (intOf i).toNat)
  case atStart => exact ⟨0, [w.heap.size + 2], Nat.zero_le _, rfl, D0⟩
  case round =>
    obtain ⟨j, fp, hj, rfl, D1⟩ := hrel
    by_cases hlt : j < xs.length
    rotate_left
    · have hlt' : ¬ ((j : Int) < (xs.length : Int)) := by omega
      obtain rfl : j = xs.length := by omega
      rw [List.take_length] at D1
      obtain ⟨qa, qc, rfl⟩ := rows_form (layHeldS.read D1.out.own)
      have r0 : wr.cell? ⟨w.heap.size + 1, 0, none⟩ = some (.slice none 0 0) := D1.out.r.cell 0
      have g0 := D1.out.r.free 0
      obtain ⟨nn, hnn⟩ : ∃ nn, nn = (xs).length := ⟨_, rfl⟩
      have j0 : (wr.setCell ⟨w.heap.size + 1, 0, none⟩ (.slice qa nn qc)).cell? ⟨w.heap.size + 1, 0, none⟩ = some (.slice qa nn qc) := (D1.out.r.set 0 (.slice qa nn qc)).cell 0
      have E : Hid (Q (.returned (.agg #[.slice qa nn qc])) (wr.setCell ⟨w.heap.size + 1, 0, none⟩ (.slice qa nn qc))) := Lib.hid (by
        rw [HQ.out, hnn]
        have ho1 : Only (w.heap.size + 1) wr (wr.setCell ⟨w.heap.size + 1, 0, none⟩ (.slice qa (xs).length qc)) := Only.setCell 0 _
        exact ⟨_, fp, rfl, D1.out.dup, layHeldS.lower (layHeldS.keep D1.out.own (fun a ha => ho1.block a (layHeldS.blocks D1.out.own a ha).2 (by have := (layHeldS.blocks D1.out.own a ha).1; omega))) (by omega), D1.out.below.trans (ho1.below (by omega) D1.out.below.size)⟩)
      rw [← hnn]
      clear D1 hnn
      go_wp2_with fail
      try simp only [Exit.inBlock, Exit.then]
      exact bodyPost_ret (v := .agg #[.slice qa nn qc]) (by simp [results, Try.results27, go_sem, j0]) rfl E.out
    have hlt' : (j : Int) < (xs.length : Int) := by omega
    have hx := List.getElem?_eq_getElem hlt
    have hfx := HF.out.2.1 _ (List.getElem_mem hlt)
    obtain ⟨g, og, cs, rfl, hg, hr, hcl⟩ := rows_elem (layHeldS.below HR.out D1.out.below) j _ hx
    have hta : xs.take (j + 1) = xs.take j ++ [xs[j]] := take_next hlt
    generalize xs[j] = x at hr hta hfx
    obtain ⟨v3, v4, rfl, h3, h4⟩ := layHeld_rd.1 hr
    obtain ⟨x0, x1, x2, r3, r4, x5⟩ := x
    simp only at h3 h4 hfx
    obtain ⟨pa, pc, rfl⟩ := rows_form h3
    obtain ⟨pb, pd, rfl⟩ := rows_form h4
    have d0 : wr.cell? ⟨g, og + j * 6, none⟩ = some (.int .i64 x0) := hcl 0 _ rfl
    have d1 : wr.cell? ⟨g, og + j * 6 + 1, none⟩ = some (.int .i64 x1) := hcl 1 _ rfl
    have d2 : wr.cell? ⟨g, og + j * 6 + 2, none⟩ = some (.int .i64 x2) := hcl 2 _ rfl
    have d3 : wr.cell? ⟨g, og + j * 6 + 3, none⟩ = some (.slice pa r3.length pc) := hcl 3 _ rfl
    have d4 : wr.cell? ⟨g, og + j * 6 + 4, none⟩ = some (.slice pb r4.length pd) := hcl 4 _ rfl
    have d5 : wr.cell? ⟨g, og + j * 6 + 5, none⟩ = some (.int .i64 x5) := hcl 5 _ rfl
    have HTA := Lib.hid hta
    have HFX := Lib.hid hfx
    have hal : Below wr.heap.size wr (wr.alloc (.cells #[.int .i64 0, .int .i64 0, .int .i64 0, .slice none 0 0, .slice none 0 0, .int .i64 0] HeldT)) := (Below.refl _ _).alloc (Nat.le_refl _) _
    have XV := VarA.new wr HeldT #[.int .i64 0, .int .i64 0, .int .i64 0, .slice none 0 0, .slice none 0 0, .int .i64 0]
    have z0 := XV.cell 0
    have z1 := XV.cell 1
    have z2 := XV.cell 2
    have z3 := XV.cell 3
    have z4 := XV.cell 4
    have z5 := XV.cell 5
    have f0 := XV.free 0
    have f1 := XV.free 1
    have f2 := XV.free 2
    have f3 := XV.free 3
    have f4 := XV.free 4
    have f5 := XV.free 5
    have HD1 := D1
    have XH := Lib.hid (VarA.new wr HeldT #[.int .i64 x0, .int .i64 x1, .int .i64 x2, .slice pa r3.length pc, .slice pb r4.length pd, .int .i64 x5])
    have hal2 : Below wr.heap.size wr (wr.alloc (.cells #[.int .i64 x0, .int .i64 x1, .int .i64 x2, .slice pa r3.length pc, .slice pb r4.length pd, .int .i64 x5] HeldT)) := (Below.refl _ _).alloc (Nat.le_refl _) _
    have D2 := Lib.hid (D1.out.next hal2)
    have H3 := Lib.hid (layStringS.below h3 hal2)
    have H4 := Lib.hid (layBoolS.below h4 hal2)
    have FP : Hid (∀ a ∈ fp, a < wr.heap.size) := Lib.hid (fun a ha => (layHeldS.blocks D1.out.own a ha).2)
    have GX : Hid (w.heap.size + 2 ≤ wr.heap.size) := Lib.hid D1.out.r.lt
    have LG : Hid ((wr.alloc (.cells #[.int .i64 x0, .int .i64 x1, .int .i64 x2, .slice pa r3.length pc, .slice pb r4.length pd, .int .i64 x5] HeldT)).heap.size = wr.heap.size + 1) := Lib.hid (by simp)
    clear D1 HD1 h3 h4 hr hx hal hal2 XV hta hfx
    go_upto_region 5 with fail
    clear z0 z1 z2 z3 z4 z5 f0 f1 f2 f3 f4 f5 d0 d1 d2 d3 d4 d5 hcl
    generalize (wr.alloc (.cells #[.int .i64 x0, .int .i64 x1, .int .i64 x2, .slice pa r3.length pc, .slice pb r4.length pd, .int .i64 x5] HeldT)) = Y2 at *
    generalize wr.heap.size = gx at *
    have c0 : Y2.cell? ⟨gx, 0, none⟩ = some (.int .i64 x0) := XH.out.cell 0
    have c1 : Y2.cell? ⟨gx, 1, none⟩ = some (.int .i64 x1) := XH.out.cell 1
    have c2 : Y2.cell? ⟨gx, 2, none⟩ = some (.int .i64 x2) := XH.out.cell 2
    have c3 : Y2.cell? ⟨gx, 3, none⟩ = some (.slice pa r3.length pc) := XH.out.cell 3
    have c4 : Y2.cell? ⟨gx, 4, none⟩ = some (.slice pb r4.length pd) := XH.out.cell 4
    have c5 : Y2.cell? ⟨gx, 5, none⟩ = some (.int .i64 x5) := XH.out.cell 5
    have KC := Lib.hid (copyOfHeld_any HG x0 x1 x2 _ r3 _ r4 x5 HFX.out.1.1 HFX.out.1.2 HFX.out.2 Y2 H3.out H4.out)
    clear H3 H4
    go_wp2_with fail
    refine KC.out.mono ?_
    rintro e Y3 ⟨v3, v4, f, rfl, hd, ho, hb⟩
    clear KC XH c0 c1 c2 c3 c4 c5
    have hal3 : Below Y3.heap.size Y3 (Y3.alloc (.cells #[.int .i64 x0, .int .i64 x1, .int .i64 x2, v3, v4, .int .i64 x5] HeldT)) := (Below.refl _ _).alloc (Nat.le_refl _) _
    have D3 := Lib.hid ((D2.out.next hb).next hal3)
    have HY : Hid (layHeld.own (Y3.alloc (.cells #[.int .i64 x0, .int .i64 x1, .int .i64 x2, v3, v4, .int .i64 x5] HeldT)) (w.heap.size + 2) f [.int .i64 x0, .int .i64 x1, .int .i64 x2, v3, v4, .int .i64 x5] (x0, x1, x2, r3, r4, x5)) := Lib.hid (layHeld.lower (layHeld.next ho hal3) (by have := GX.out; have := LG.out; omega))
    have HN : Hid (∀ k ∈ f, k ∉ fp) := Lib.hid (fun k hk hm => by
      have h8 := FP.out k hm
      have h7 := (layHeld.blocks ho k hk).1
      have h6 := LG.out
      omega)
    have HD := Lib.hid hd
    have hjl : (xs.take j).length + 1 ≤ 1000000000 := by rw [List.length_take]; omega
    have HSZ : Hid (w.heap.size + 2 ≤ (Y3.alloc (.cells #[.int .i64 x0, .int .i64 x1, .int .i64 x2, v3, v4, .int .i64 x5] HeldT)).heap.size) := Lib.hid (by have := D3.out.r.lt; omega)
    clear hd ho hb hal3 D2
    go_wp2_with (at_builtin; refine wpList_pushL (Y3.alloc (.cells #[.int .i64 x0, .int .i64 x1, .int .i64 x2, v3, v4, .int .i64 x5] HeldT)) rfl _ _ 27 rfl (w.heap.size + 2) HeldT i0 _ 80 layHeld Try.underlying27 hi0 hz0 hs0 hb0 rfl (by omega) u3 fp (xs.take j) (by rfl) D3.out.own D3.out.dup (x0, x1, x2, r3, r4, x5) [.int .i64 x0, .int .i64 x1, .int .i64 x2, v3, v4, .int .i64 x5] f HY.out HD.out HN.out ⟨Y3.heap.size, 0, none⟩ (by rfl) (fun j u hj => lit_held Y3 #[.int .i64 x0, .int .i64 x1, .int .i64 x2, v3, v4, .int .i64 x5] HeldT j u hj) hjl HSZ.out ?_; intro v' w' hp; obtain ⟨f', hof, hdf, hsub⟩ := hp.own; rw [← HTA.out] at hof; have D5 := Lib.hid (D3.out.pushed hp hof hdf); clear hp hof hdf hsub)
    go_roundw
    case rel => exact ⟨j + 1, f', by omega, by go_num, D5⟩
    case measure => simp [intOf]; omega

end Go.Proofs.Ytfhlpgngeiploab
namespace Go.Proofs.Ytfhlpgngeiploab
open Go.RowKit

end Go.Proofs.Ytfhlpgngeiploab
namespace Go.Proofs.Ytfhlpgngeiploab
open Go.RowKit

end Go.Proofs.Ytfhlpgngeiploab
namespace Go.Proofs.Ytfhlpgngeiploab
open Go.RowKit

theorem byte_is (t : ByteArray) (i : Nat) (h : i < t.size) : (t[i]'h).toNat = byteAt t i := by
  unfold byteAt
  rw [List.getD_eq_getElem?_getD, List.getElem?_eq_getElem (show i < t.data.toList.length from h)]
  rfl

set_option maxRecDepth 100000 in
set_option maxHeartbeats 1600000 in
theorem specReadPart_any (t : ByteArray) (id place count : Int) (part : ByteArray) (ok : Bool) (hz : t.size ≤ 9223372036854775807) (h : ReadPartIs t id place count part ok) (w : World) :
    Calls Try.prog 23 #[.string t] w fun e w' => e = .returned (.tuple #[.int .i64 id, .int .i64 place, .int .i64 count, .string part, .bool ok]) ∧ Below w.heap.size w w' := by
  obtain ⟨Q, HQ⟩ : ∃ Q : Ending → World → Prop, Hid (Q = fun e w' => e = .returned (.tuple #[.int .i64 id, .int .i64 place, .int .i64 count, .string part, .bool ok]) ∧ Below w.heap.size w w') := ⟨_, Lib.hid rfl⟩
  rw [← HQ.out]
  go_enter Try.func23, Try.ntmps23
  by_cases h3 : 3 ≤ t.size
  rotate_left
  · obtain ⟨rfl, rfl, rfl, rfl, rfl⟩ : ok = false ∧ id = 0 ∧ place = 0 ∧ count = 0 ∧ part = ⟨#[]⟩ := by
      rcases h with ⟨_, h, _⟩ | ⟨h1, _, h2, h3, h4, h5⟩
      · exact absurd h.1 h3
      · exact ⟨h1, h2, h3, h4, h5⟩
    have h3' : (t.size : Int) < 3 := by omega
    clear h h3
    go_wp2_with fail
    go_quiet (fail)
    go_wp2_with fail
    exact bodyPost_ret (v := .tuple #[.int .i64 0, .int .i64 0, .int .i64 0, .string ⟨#[]⟩, .bool false]) (by simp [results, Try.results23, go_sem]) rfl (by rw [HQ.out]; exact ⟨rfl, below_drewN (Below.refl _ _) _⟩)
  have h3' : ¬ ((t.size : Int) < 3) := by omega
  have i0 : (0 : Int) < (t.size : Int) := by omega
  have i1 : (1 : Int) < (t.size : Int) := by omega
  have i2 : (2 : Int) < (t.size : Int) := by omega
  have z3 : (3 : Int) ≤ (t.size : Int) := by omega
  have B0 := byte_is t 0 (by omega)
  have B1 := byte_is t 1 (by omega)
  have B2 := byte_is t 2 (by omega)
  obtain ⟨x0, hx0⟩ : ∃ x : UInt8, t[0]'(by omega) = x := ⟨_, rfl⟩
  obtain ⟨x1, hx1⟩ : ∃ x : UInt8, t[1]'(by omega) = x := ⟨_, rfl⟩
  obtain ⟨x2, hx2⟩ : ∃ x : UInt8, t[2]'(by omega) = x := ⟨_, rfl⟩
  rw [hx0] at B0
  rw [hx1] at B1
  rw [hx2] at B2
  have l0 := x0.toNat_lt
  have l1 := x1.toNat_lt
  have l2 := x2.toNat_lt
  have w0 : IntKind.i64.wrap (x0.toNat : Int) = (x0.toNat : Int) := by rw [IntKind.wrap_i64]; omega
  have w1 : IntKind.i64.wrap (x1.toNat : Int) = (x1.toNat : Int) := by rw [IntKind.wrap_i64]; omega
  have w2 : IntKind.i64.wrap (x2.toNat : Int) = (x2.toNat : Int) := by rw [IntKind.wrap_i64]; omega
  by_cases h2 : 1 ≤ x2.toNat ∧ x2.toNat ≤ 15
  rotate_left
  · obtain ⟨rfl, rfl, rfl, rfl, rfl⟩ : ok = false ∧ id = 0 ∧ place = 0 ∧ count = 0 ∧ part = ⟨#[]⟩ := by
      rcases h with ⟨_, h, _⟩ | ⟨h1, _, h2, h3, h4, h5⟩
      · exact absurd (by rw [B2]; exact h.2.1) h2
      · exact ⟨h1, h2, h3, h4, h5⟩
    have K := Lib.hid (inRange_no (IntKind.i64.wrap (x2.toNat : Int)) 1 15 (by rw [w2]; omega))
    clear h h2 B0 B1 B2 w0 w1 w2
    go_wp2_with fail
    go_quiet ((go_at_call 25; exact Calls.quiet_of_same (K.out _)))
    go_wp2_with fail
    exact bodyPost_ret (v := .tuple #[.int .i64 0, .int .i64 0, .int .i64 0, .string ⟨#[]⟩, .bool false]) (by simp [results, Try.results23, go_sem]) rfl (by rw [HQ.out]; exact ⟨rfl, below_drewN (Below.refl _ _) _⟩)
  have K := Lib.hid (inRange_yes (IntKind.i64.wrap (x2.toNat : Int)) 1 15 (by rw [w2]; omega) (by rw [w2]; omega))
  by_cases h1 : x1.toNat < x2.toNat
  rotate_left
  · obtain ⟨rfl, rfl, rfl, rfl, rfl⟩ : ok = false ∧ id = 0 ∧ place = 0 ∧ count = 0 ∧ part = ⟨#[]⟩ := by
      rcases h with ⟨_, h, _⟩ | ⟨h1, _, h2, h3, h4, h5⟩
      · exact absurd (by rw [B1, B2]; exact h.2.2) h1
      · exact ⟨h1, h2, h3, h4, h5⟩
    have h1' : decide ((x2.toNat : Int) ≤ (x1.toNat : Int)) = true := decide_eq_true (by omega)
    have h1'' : (x2.toNat : Int) ≤ (x1.toNat : Int) := by omega
    clear h h2 h1 B0 B1 B2 w0 w1 w2
    go_wp2_with fail
    go_quiet ((go_at_call 25; exact Calls.quiet_of_same (K.out _)))
    go_wp2_with fail
    exact bodyPost_ret (v := .tuple #[.int .i64 0, .int .i64 0, .int .i64 0, .string ⟨#[]⟩, .bool false]) (by simp [results, Try.results23, go_sem]) rfl (by rw [HQ.out]; exact ⟨rfl, below_drewN (Below.refl _ _) _⟩)
  have h1' : decide ((x2.toNat : Int) ≤ (x1.toNat : Int)) = false := decide_eq_false (by omega)
  have h1'' : ¬ ((x2.toNat : Int) ≤ (x1.toNat : Int)) := by omega
  obtain ⟨rfl, rfl, rfl, rfl, hp⟩ : ok = true ∧ id = (x0.toNat : Int) ∧ place = (x1.toNat : Int) ∧ count = (x2.toNat : Int) ∧ part = t.extract 3 t.size := by
    rcases h with ⟨h1, _, h2, h3, h4, h5⟩ | ⟨_, h, _⟩
    · exact ⟨h1, by rw [B0]; exact h2, by rw [B1]; exact h3, by rw [B2]; exact h4, h5⟩
    · exact absurd ⟨h3, by rw [← B2]; exact h2, by rw [← B1, ← B2]; exact h1⟩ h
  have E : Hid (∀ X, Below w.heap.size w X → Q (.returned (.tuple #[.int .i64 (x0.toNat : Int), .int .i64 (x1.toNat : Int), .int .i64 (x2.toNat : Int), .string (t.extract 3 t.size), .bool true])) X) := Lib.hid (fun X hX => by
    rw [HQ.out, ← hp]
    exact ⟨rfl, hX⟩)
  clear h h2 h1 B0 B1 B2 hp w0 w1 w2
  go_wp2_with fail
  go_quiet ((go_at_call 25; exact Calls.quiet_of_same (K.out _)))
  go_wp2_with fail
  go_quiet (fail)
  go_wp2_with fail
  exact bodyPost_ret (v := .tuple #[.int .i64 (x0.toNat : Int), .int .i64 (x1.toNat : Int), .int .i64 (x2.toNat : Int), .string (t.extract 3 t.size), .bool true]) (by simp [results, Try.results23, go_sem]) rfl (E.out _ (below_drewN (below_drewN (Below.refl _ _) _) _))

end Go.Proofs.Ytfhlpgngeiploab
