/-
  The program's copyOfShelf.
  The given l05Byte: one byte as a text.
  'out = append(out, x)' as a step of a region that draws its order; no program is spoken of here.
-/
import Derived.Test.YthiicpbedgcmlaaJ12
import Derived.Test.YthiicpbedgcmlaaJ08
import Derived.Test.YthiicpbedgcmlaaJ01
import Derived.Test.YthiicpbedgcmlaaRows
import Derived.Test.YthiicpbedgcmlaaJ04
namespace Go.Proofs.Ythiicpbedgcmlaa
open Go.RowKit

theorem rows_lit {α : Type} {e : TypeId} {A : Lay α} (X : World) {b : Nat} (hb : b ≤ X.heap.size) : (Lay.rows e A).own (X.alloc (.cells #[] e)) b [X.heap.size] [.slice (some ⟨X.heap.size, 0, none⟩) 0 0] [] :=
  ⟨_, rfl, .inr ⟨X.heap.size, 0, [], [], rfl, rfl, World.ownsRow_lit X #[] 0 hb (by simp) (by simp), ⟨rfl, rfl⟩⟩⟩
theorem rows_room0 {α : Type} {e : TypeId} {A : Lay α} {X : World} {b g c : Nat} (h : X.ownsRow b e A.k (.slice (some ⟨g, 0, none⟩) 0 c) 0 []) : (Lay.rows e A).own X b [g] [.slice (some ⟨g, 0, none⟩) 0 c] [] :=
  ⟨_, rfl, .inr ⟨g, c, [], [], rfl, rfl, h, ⟨rfl, rfl⟩⟩⟩
/-- The shelf and the result in their variables, and the list that grows. -/
structure TDV (w : World) (v u : Value) (fp : List Nat) (ys : List HeldD) (X : World) : Prop where
  s : VarA w.heap.size ShelfT #[v] X
  r : VarA (w.heap.size + 1) ShelfT #[.slice none 0 0] X
  dup : fp.Nodup
  own : layHeldS.own X (w.heap.size + 2) fp [u] ys
  below : Below w.heap.size w X
section
variable {w X Y : World} {v u : Value} {fp : List Nat} {ys : List HeldD}
theorem TDV.next (h : TDV w v u fp ys X) (hb : Below X.heap.size X Y) : TDV w v u fp ys Y := ⟨h.s.next hb, h.r.next hb, h.dup, layHeldS.next h.own hb, h.below.trans (hb.mono h.below.size)⟩
theorem TDV.pushed {fy f' : List Nat} {y : HeldD} {zs : List HeldD} {u' : Value} (h : TDV w v u fp ys X) (hp : Pushed HeldT layHeld (w.heap.size + 2) u fp fy ys y X u' Y) (ho : layHeldS.own Y (w.heap.size + 2) f' [u'] zs) (hd : f'.Nodup) : TDV w v u' f' zs Y :=
  ⟨h.s.next' hp.below (by omega), h.r.next' hp.below (by omega), hd, ho, h.below.trans (hp.below.mono (by omega))⟩
end

set_option maxRecDepth 100000 in
set_option maxHeartbeats 6400000 in
theorem copyOfShelf_any (HG : CloneGives) (v : Value) (xs : List HeldD) (hf : FitsHeldS xs) (w : World) (h : layHeldS.rd w [v] xs) :
    Calls Try.prog 15 #[.agg #[v]] w (ShelfMade w (xs)) := by
  obtain ⟨i0, hi0, hz0, hs0, hb0⟩ := info_of infoHeld
  obtain ⟨a, p, rfl⟩ := rows_form h
  have e1 : (w.alloc (.cells #[.slice a xs.length p] ShelfT)).heap.size = w.heap.size + 1 := by simp
  have h2 := VarA.new (w.alloc (.cells #[.slice a xs.length p] ShelfT)) ShelfT #[.slice none 0 0]
  rw [e1] at h2
  have A0 := Lib.hid ((VarA.new w ShelfT #[.slice a xs.length p]).alloc (.cells #[.slice none 0 0] ShelfT))
  have R0 := Lib.hid h2
  have B0 := Lib.hid (((Below.refl w.heap.size w).alloc (Nat.le_refl _) (.cells #[.slice a xs.length p] ShelfT)).alloc (by simp) (.cells #[.slice none 0 0] ShelfT))
  have hz : Hid (((w.alloc (.cells #[.slice a xs.length p] ShelfT)).alloc (.cells #[.slice none 0 0] ShelfT)).heap.size = w.heap.size + 2) := Lib.hid (by simp)
  have HR := Lib.hid h
  have HF := Lib.hid hf
  have hl : xs.length ≤ 10000000 := by have := hf.1; omega
  clear h hf h2 e1
  obtain ⟨Q, HQ⟩ : ∃ Q : Ending → World → Prop, Hid (Q = ShelfMade w (xs)) := ⟨_, Lib.hid rfl⟩
  rw [← HQ.out]
  go_enter Try.func15, Try.ntmps15
  go_upto_region 1 with fail
  generalize ((w.alloc (.cells #[.slice a xs.length p] ShelfT)).alloc (.cells #[.slice none 0 0] ShelfT)) = Y at *
  have c0 : Y.cell? ⟨w.heap.size, 0, none⟩ = some (.slice a xs.length p) := A0.out.cell 0
  go_upto_region 2 with (at_make; refine wpList_make_own _ rfl _ _ 24 rfl (w.heap.size + 2) HeldT i0 _ 6 Try.underlying24 hi0 hz0 hs0 .i64 .i64 _ xs.length rfl rfl rfl (by rw [hb0]; omega) (by unfold maxLen; omega) (by have := hz.out; omega) ?_)
  intro Y1 hown1 hg1
  rw [hz.out] at hown1 ⊢
  have hal : Below Y.heap.size Y Y1 := below_grown hg1 (fun k h => by cases h) (Nat.le_refl _)
  have D0 : Hid (TDV w (.slice a xs.length p) (.slice (some ⟨w.heap.size + 2, 0, none⟩) 0 xs.length) [w.heap.size + 2] [] Y1) := Lib.hid ⟨A0.out.next hal, R0.out.next hal, by simp, rows_room0 hown1, B0.out.trans (hal.mono (by have := hz.out; omega))⟩
  clear hal hown1 hg1 c0 A0 R0 B0
  go_upto_region 2 with fail
  have c0 : Y1.cell? ⟨w.heap.size, 0, none⟩ = some (.slice a xs.length p) := D0.out.s.cell 0
  go_wp2_with fail
  clear c0 hz
  go_loopw [3, 13] (fun t i wr => ∃ (j : Nat) (fp : List Nat), j ≤ xs.length ∧ i = .int .i64 j ∧ Hid (TDV w (.slice a xs.length p) t fp (xs.take j) wr)) (fun _ i _ => xs.length - (intOf i).toNat)
  case atStart => exact ⟨0, [w.heap.size + 2], Nat.zero_le _, rfl, D0⟩
  case round =>
    obtain ⟨j, fp, hj, rfl, D1⟩ := hrel
    by_cases hlt : j < xs.length
    rotate_left
    · have hlt' : ¬ ((j : Int) < (xs.length : Int)) := by omega
      obtain rfl : j = xs.length := by omega
      rw [List.take_length] at D1
      obtain ⟨qa, qc, rfl⟩ := rows_form (layHeldS.read D1.out.own)
      have r0 : wr.cell? ⟨w.heap.size + 1, 0, none⟩ = some (.slice none 0 0) := D1.out.r.cell 0
      have g0 := D1.out.r.free 0
      obtain ⟨nn, hnn⟩ : ∃ nn, nn = (xs).length := ⟨_, rfl⟩
      have j0 : (wr.setCell ⟨w.heap.size + 1, 0, none⟩ (.slice qa nn qc)).cell? ⟨w.heap.size + 1, 0, none⟩ = some (.slice qa nn qc) := (D1.out.r.set 0 (.slice qa nn qc)).cell 0
      have E : Hid (Q (.returned (.agg #[.slice qa nn qc])) (wr.setCell ⟨w.heap.size + 1, 0, none⟩ (.slice qa nn qc))) := Lib.hid (by
        rw [HQ.out, hnn]
        have ho1 : Only (w.heap.size + 1) wr (wr.setCell ⟨w.heap.size + 1, 0, none⟩ (.slice qa (xs).length qc)) := Only.setCell 0 _
        exact ⟨_, fp, rfl, D1.out.dup, layHeldS.lower (layHeldS.keep D1.out.own (fun a ha => ho1.block a (layHeldS.blocks D1.out.own a ha).2 (by have := (layHeldS.blocks D1.out.own a ha).1; omega))) (by omega), D1.out.below.trans (ho1.below (by omega) D1.out.below.size)⟩)
      rw [← hnn]
      clear D1 hnn
      go_wp2_with fail
      try simp only [Exit.inBlock, Exit.then]
      exact bodyPost_ret (v := .agg #[.slice qa nn qc]) (by simp [results, Try.results15, go_sem, j0]) rfl E.out
    have hlt' : (j : Int) < (xs.length : Int) := by omega
    have hx := List.getElem?_eq_getElem hlt
    have hfx := HF.out.2.1 _ (List.getElem_mem hlt)
    obtain ⟨g, og, cs, rfl, hg, hr, hcl⟩ := rows_elem (layHeldS.below HR.out D1.out.below) j _ hx
    have hta : xs.take (j + 1) = xs.take j ++ [xs[j]] := take_next hlt
    generalize xs[j] = x at hr hta hfx
    obtain ⟨v3, v4, rfl, h3, h4⟩ := layHeld_rd.1 hr
    obtain ⟨x0, x1, x2, r3, r4, x5⟩ := x
    simp only at h3 h4 hfx
    obtain ⟨pa, pc, rfl⟩ := rows_form h3
    obtain ⟨pb, pd, rfl⟩ := rows_form h4
    have d0 : wr.cell? ⟨g, og + j * 6, none⟩ = some (.int .i64 x0) := hcl 0 _ rfl
    have d1 : wr.cell? ⟨g, og + j * 6 + 1, none⟩ = some (.int .i64 x1) := hcl 1 _ rfl
    have d2 : wr.cell? ⟨g, og + j * 6 + 2, none⟩ = some (.int .i64 x2) := hcl 2 _ rfl
    have d3 : wr.cell? ⟨g, og + j * 6 + 3, none⟩ = some (.slice pa r3.length pc) := hcl 3 _ rfl
    have d4 : wr.cell? ⟨g, og + j * 6 + 4, none⟩ = some (.slice pb r4.length pd) := hcl 4 _ rfl
    have d5 : wr.cell? ⟨g, og + j * 6 + 5, none⟩ = some (.int .i64 x5) := hcl 5 _ rfl
    have HTA := Lib.hid hta
    have HFX := Lib.hid hfx
    have hal : Below wr.heap.size wr (wr.alloc (.cells #[.int .i64 0, .int .i64 0, .int .i64 0, .slice none 0 0, .slice none 0 0, .int .i64 0] HeldT)) := (Below.refl _ _).alloc (Nat.le_refl _) _
    have XV := VarA.new wr HeldT #[.int .i64 0, .int .i64 0, .int .i64 0, .slice none 0 0, .slice none 0 0, .int .i64 0]
    have z0 := XV.cell 0
    have z1 := XV.cell 1
    have z2 := XV.cell 2
    have z3 := XV.cell 3
    have z4 := XV.cell 4
    have z5 := XV.cell 5
    have f0 := XV.free 0
    have f1 := XV.free 1
    have f2 := XV.free 2
    have f3 := XV.free 3
    have f4 := XV.free 4
    have f5 := XV.free 5
    have HD1 := D1
    have XH := Lib.hid (VarA.new wr HeldT #[.int .i64 x0, .int .i64 x1, .int .i64 x2, .slice pa r3.length pc, .slice pb r4.length pd, .int .i64 x5])
    have hal2 : Below wr.heap.size wr (wr.alloc (.cells #[.int .i64 x0, .int .i64 x1, .int .i64 x2, .slice pa r3.length pc, .slice pb r4.length pd, .int .i64 x5] HeldT)) := (Below.refl _ _).alloc (Nat.le_refl _) _
    have D2 := Lib.hid (D1.out.next hal2)
    have H3 := Lib.hid (layStringS.below h3 hal2)
    have H4 := Lib.hid (layBoolS.below h4 hal2)
    have FP : Hid (∀ a ∈ fp, a < wr.heap.size) := Lib.hid (fun a ha => (layHeldS.blocks D1.out.own a ha).2)
    have GX : Hid (w.heap.size + 2 ≤ wr.heap.size) := Lib.hid D1.out.r.lt
    have LG : Hid ((wr.alloc (.cells #[.int .i64 x0, .int .i64 x1, .int .i64 x2, .slice pa r3.length pc, .slice pb r4.length pd, .int .i64 x5] HeldT)).heap.size = wr.heap.size + 1) := Lib.hid (by simp)
    clear D1 HD1 h3 h4 hr hx hal hal2 XV hta hfx
    go_upto_region 5 with fail
    clear z0 z1 z2 z3 z4 z5 f0 f1 f2 f3 f4 f5 d0 d1 d2 d3 d4 d5 hcl
    generalize (wr.alloc (.cells #[.int .i64 x0, .int .i64 x1, .int .i64 x2, .slice pa r3.length pc, .slice pb r4.length pd, .int .i64 x5] HeldT)) = Y2 at *
    generalize wr.heap.size = gx at *
    have c0 : Y2.cell? ⟨gx, 0, none⟩ = some (.int .i64 x0) := XH.out.cell 0
    have c1 : Y2.cell? ⟨gx, 1, none⟩ = some (.int .i64 x1) := XH.out.cell 1
    have c2 : Y2.cell? ⟨gx, 2, none⟩ = some (.int .i64 x2) := XH.out.cell 2
    have c3 : Y2.cell? ⟨gx, 3, none⟩ = some (.slice pa r3.length pc) := XH.out.cell 3
    have c4 : Y2.cell? ⟨gx, 4, none⟩ = some (.slice pb r4.length pd) := XH.out.cell 4
    have c5 : Y2.cell? ⟨gx, 5, none⟩ = some (.int .i64 x5) := XH.out.cell 5
    have KC := Lib.hid (copyOfHeld_any HG x0 x1 x2 _ r3 _ r4 x5 HFX.out.1.1 HFX.out.1.2 HFX.out.2 Y2 H3.out H4.out)
    clear H3 H4
    go_wp2_with fail
    refine KC.out.mono ?_
    rintro e Y3 ⟨v3, v4, f, rfl, hd, ho, hb⟩
    clear KC XH c0 c1 c2 c3 c4 c5
    have hal3 : Below Y3.heap.size Y3 (Y3.alloc (.cells #[.int .i64 x0, .int .i64 x1, .int .i64 x2, v3, v4, .int .i64 x5] HeldT)) := (Below.refl _ _).alloc (Nat.le_refl _) _
    have D3 := Lib.hid ((D2.out.next hb).next hal3)
    have HY : Hid (layHeld.own (Y3.alloc (.cells #[.int .i64 x0, .int .i64 x1, .int .i64 x2, v3, v4, .int .i64 x5] HeldT)) (w.heap.size + 2) f [.int .i64 x0, .int .i64 x1, .int .i64 x2, v3, v4, .int .i64 x5] (x0, x1, x2, r3, r4, x5)) := Lib.hid (layHeld.lower (layHeld.next ho hal3) (by have := GX.out; have := LG.out; omega))
    have HN : Hid (∀ k ∈ f, k ∉ fp) := Lib.hid (fun k hk hm => by
      have h8 := FP.out k hm
      have h7 := (layHeld.blocks ho k hk).1
      have h6 := LG.out
      omega)
    have HD := Lib.hid hd
    have hjl : (xs.take j).length + 1 ≤ 1000000000 := by rw [List.length_take]; omega
    have HSZ : Hid (w.heap.size + 2 ≤ (Y3.alloc (.cells #[.int .i64 x0, .int .i64 x1, .int .i64 x2, v3, v4, .int .i64 x5] HeldT)).heap.size) := Lib.hid (by have := D3.out.r.lt; omega)
    clear hd ho hb hal3 D2
    go_wp2_with (at_builtin; refine wpList_pushL (Y3.alloc (.cells #[.int .i64 x0, .int .i64 x1, .int .i64 x2, v3, v4, .int .i64 x5] HeldT)) rfl _ _ 24 rfl (w.heap.size + 2) HeldT i0 _ 80 layHeld Try.underlying24 hi0 hz0 hs0 hb0 rfl (by omega) u3 fp (xs.take j) (by rfl) D3.out.own D3.out.dup (x0, x1, x2, r3, r4, x5) [.int .i64 x0, .int .i64 x1, .int .i64 x2, v3, v4, .int .i64 x5] f HY.out HD.out HN.out ⟨Y3.heap.size, 0, none⟩ (by rfl) (fun j u hj => lit_held Y3 #[.int .i64 x0, .int .i64 x1, .int .i64 x2, v3, v4, .int .i64 x5] HeldT j u hj) hjl HSZ.out ?_; intro v' w' hp; obtain ⟨f', hof, hdf, hsub⟩ := hp.own; rw [← HTA.out] at hof; have D5 := Lib.hid (D3.out.pushed hp hof hdf); clear hp hof hdf hsub)
    go_roundw
    case rel => exact ⟨j + 1, f', by omega, by go_num, D5⟩
    case measure => simp [intOf]; omega

end Go.Proofs.Ythiicpbedgcmlaa
namespace Go.Proofs.Ythiicpbedgcmlaa
open Go.RowKit

set_option maxRecDepth 100000 in
set_option maxHeartbeats 400000 in
theorem specByteP_any (i : Nat) (h : i < 256) (w : World) :
    Calls Try.prog 32 #[.int .i64 i] w fun e w' => e = .returned (.string ⟨#[UInt8.ofNat i]⟩) ∧ Below w.heap.size w w' := by
  have h1 : (i : Int) % 256 = (i : Int) := by omega
  have h2 : (i : Int).tmod 256 = (i : Int) := by rw [Int.tmod_eq_emod_of_nonneg (by omega)]; exact h1
  have h3 : ¬ ((i : Int) < 0) := by omega
  obtain ⟨b, hb, BB⟩ : ∃ b : UInt8, (i : Int) = (b.toNat : Int) ∧ Hid (b = UInt8.ofNat i) := ⟨UInt8.ofNat i, by rw [UInt8.toNat_ofNat']; omega, rfl⟩
  have hr := run_string_one (P := Try.prog) w 22 9 5 Try.underlying22 Try.underlying5 Try.underlying9 b
  rw [← hb] at hr
  have HB := Lib.hid hb
  rw [← BB.out]
  clear hb
  go_enter Try.func32, Try.ntmps32
  go_wp2_with fail
  go_ret
  exact ⟨rfl, (Below.refl _ _).alloc (Nat.le_refl _) _⟩

end Go.Proofs.Ythiicpbedgcmlaa
namespace Go.Proofs.Ythiicpbedgcmlaa
open Go.RowKit

/-- 'out = append(out, x)' as a step of a region that draws its order, over flat rows. -/
theorem step_pushOne {α : Type} {P : Program} {ops : Array Oper} {o : Oper} {a : Act} {W : World} {K : Act → World → Prop} {Q : Exit → Act → World → Prop} {E : Prop}
    (hg : o.guard = none) (s x : Operand) (t : TypeId) (hop : o.op = Op.call { callee := Callee.builtin Builtin.append, args := #[s, x], argTypes := #[t, t] })
    (base : Nat) (e : TypeId) (i : TypeInfo) (z : Value) (bytes : Nat) (A : Lay α) (hf : Flat A) (ht : P.underlying t = some (.slice e)) (hi : P.info? e = some i) (hz : i.zero = some z)
    (hsize : i.size = A.k) (hby : i.bytes = bytes) (hzs : z.cells.size = A.k) (hb1 : bytes ≤ 1000) (v : Value) (f : List Nat) (xs : List α) (hs : a.eval s = v) (hown : (Lay.rows e A).own W base f [v] xs)
    (y : α) (cs : List Value) (hcs : A.rd W cs y) (ad : Addr) (hx : a.eval x = .slice (some ad) 1 1) (hc : ∀ j u, cs[j]? = some u → W.cell? (ad.add j) = some u)
    (hlen : xs.length + 1 ≤ 1000000000) (hbase : base ≤ W.heap.size)
    (hK : ∀ v' w', (Lay.rows e A).own w' base (blk v') [v'] (xs ++ [y]) → v' ≠ .slice none 0 0 → Below base W w' → W.grownBy w' v.ownBlock → K (a.put o.dst v') w') :
    if Region.wanted o (yielded ops a.tmps) = true then Oper.wp P o a W K Q else E := by
  have hw : Region.wanted o (yielded ops a.tmps) = true := by simp [Region.wanted, hg]
  rw [if_pos hw]
  obtain ⟨us, h1, h2, rfl⟩ := flat_inv hf hown
  have hlt : ∀ k, v.ownBlock = some k → base ≤ k := fun k hk => (World.ownsRow.lt h1 k hk).1
  obtain ⟨v', w', hrun, r1, r2, r3⟩ := run_append_own (P := P) W base t o.type e i z A.k bytes ht hi hz hsize hby hzs A.pos v xs.length us h1 ad 1 1 cs (by rw [A.len hcs, Nat.one_mul]) hc (A.one hcs) (by unfold maxLen; omega)
    (by have h1 : (xs.length + 1) * bytes ≤ 1000000000 * 1000 := Nat.mul_le_mul hlen hb1
        omega) hbase
  unfold Oper.wp
  simp [execOp, hop, resolve, invoke, builtin, hs, hx, hrun, Result.andThen]
  refine hK v' w' ?_ (fun e => by have := (r3.1 e).2; omega) (below_grown r2 hlt hbase) r2
  have h6 : w'.ownsRow base e A.k v' (xs ++ [y]).length (us ++ cs) := by rw [List.length_append]; exact r1
  exact flat_own hf h6 (rdAll_join A (hf.all h2) ⟨cs, [], by simp, hf.any _ _ _ _ hcs, rfl⟩)
end Go.Proofs.Ythiicpbedgcmlaa
