/-
  Rows of what is held as the laws read them.
  A shelf as it lies; the laws' own functions over it.
  Numbers that are taken once, in plain words; no program is spoken of here.
  Right numbers that were seen, one behind another; no program is spoken of here.
-/
import Derived.Test.YtfhlpgngeiploabJ08
import Derived.Test.YtfhlpgngeiploabJ10
import Derived.Test.YtfhlpgngeiploabRows
namespace Go.Proofs.Ytfhlpgngeiploab
open Go.RowKit

theorem zeroHeld (w : World) (b : Nat) : layHeld.own w b [] [.int .i64 0, .int .i64 0, .int .i64 0, .slice none 0 0, .slice none 0 0, .int .i64 0] (0, 0, 0, [], [], 0) := layHeld_own.2 ⟨_, _, [], [], rfl, rfl, none_rows w b, none_rows w b⟩
set_option maxRecDepth 100000 in
set_option maxHeartbeats 3200000 in
theorem toHeldS_any (v : Value) (xs : List HeldD) (hl : xs.length ≤ 1048576) (hf : ∀ x ∈ xs, x.2.2.2.1.length ≤ 1048576 ∧ x.2.2.2.2.1.length ≤ 1048576) (w : World) (hs : layHeldS.rd w [v] xs) :
    Calls Try.prog 19 #[v] w fun e w' => OutS layHeldS w xs e w' := by
  obtain ⟨i0, hi, hz0, hsz0, hby0⟩ := info_of infoHeld
  obtain ⟨a, cap, rfl⟩ := rows_form hs
  have H1 := Lib.hid toHeld_any
  have HS := Lib.hid hs
  have HF := Lib.hid hf
  clear hs hf
  go_enter Try.func19, Try.ntmps19
  go_wp2_with (at_make; refine wpList_make_full _ rfl _ _ 27 rfl w.heap.size HeldT i0 (.agg #[.int .i64 0, .int .i64 0, .int .i64 0, .slice none 0 0, .slice none 0 0, .int .i64 0]) 6 Try.underlying27 hi hz0 hsz0 .i64 .i64 _ _ xs.length rfl rfl rfl rfl (by rw [hby0]; omega) (by unfold maxLen; omega) (Nat.le_refl _) ?_)
  intro w1 hown1 hg1
  have hown : layHeldS.own w1 w.heap.size [w.heap.size] [.slice (some ⟨w.heap.size, 0, none⟩) xs.length xs.length] (List.replicate xs.length (0, 0, 0, [], [], 0)) := rows_made hown1 rfl (zeroHeld _ _)
  have hbel : Below w.heap.size w w1 := below_grown hg1 (fun k h => by cases h) (Nat.le_refl _)
  clear hown1 hg1
  go_wp2_with fail
  go_loopw [4] (fun c wr => ∃ (j : Nat) (fp : List Nat), j ≤ xs.length ∧ c = .int .i64 j ∧ fp.Nodup ∧ layHeldS.own wr w.heap.size fp [.slice (some ⟨w.heap.size, 0, none⟩) xs.length xs.length] (xs.take j ++ List.replicate (xs.length - j) (0, 0, 0, [], [], 0)) ∧ Below w.heap.size w wr) (fun c _ => xs.length - (intOf c).toNat)
  case atStart => exact ⟨0, [w.heap.size], Nat.zero_le _, rfl, by simp, by simpa using hown, hbel⟩
  case round =>
    obtain ⟨j, fp, hj, rfl, hdup, hown2, hb2⟩ := hrel
    have HO := Lib.hid hown2
    have HB := Lib.hid hb2
    clear hown2 hb2 hown hbel
    by_cases hlt : j < xs.length
    · have hlt' : (j : Int) < (xs.length : Int) := by omega
      have hx := List.getElem?_eq_getElem hlt
      have hfx := HF.out _ (List.getElem_mem hlt)
      obtain ⟨g, off, cs, rfl, hg, hr, hc⟩ := rows_elem (layHeldS.below HS.out HB.out) j _ hx
      have hta : xs.take (j + 1) = xs.take j ++ [xs[j]] := by rw [List.take_add_one, hx]; rfl
      generalize xs[j] = x at hr hta hfx
      obtain ⟨v3, v4, rfl, h3, h4⟩ := layHeld_rd.1 hr
      obtain ⟨x0, x1, x2, r3, r4, x5⟩ := x
      simp only at h3 h4 hfx
      obtain ⟨pa, pc, rfl⟩ := rows_form h3
      obtain ⟨pb, pd, rfl⟩ := rows_form h4
      have c0 : wr.cell? ⟨g, off + j * 6, none⟩ = some (.int .i64 x0) := hc 0 _ rfl
      have c1 : wr.cell? ⟨g, off + j * 6 + 1, none⟩ = some (.int .i64 x1) := hc 1 _ rfl
      have c2 : wr.cell? ⟨g, off + j * 6 + 2, none⟩ = some (.int .i64 x2) := hc 2 _ rfl
      have c3 : wr.cell? ⟨g, off + j * 6 + 3, none⟩ = some (.slice pa r3.length pc) := hc 3 _ rfl
      have c4 : wr.cell? ⟨g, off + j * 6 + 4, none⟩ = some (.slice pb r4.length pd) := hc 4 _ rfl
      have c5 : wr.cell? ⟨g, off + j * 6 + 5, none⟩ = some (.int .i64 x5) := hc 5 _ rfl
      have HTA := Lib.hid hta
      have HK := Lib.hid (H1.out x0 x1 x2 _ r3 _ r4 x5 wr h3 hfx.1 h4 hfx.2)
      clear hta hc hx h3 h4 hr hfx
      go_wp2_with fail
      refine HK.out.mono ?_
      rintro e w2 ⟨cs, fq, rfl, hfq, hoq, hb2⟩
      obtain ⟨u3, u4, f3, f4, rfl, hfqe, h3, h4⟩ := layHeld_own.1 hoq
      simp only at h3 h4
      obtain ⟨qa, qc, rfl⟩ := rows_form (layStringS.read h3)
      obtain ⟨qb, qd, rfl⟩ := rows_form (layBoolS.read h4)
      have hm : xs.length - j = (xs.length - (j + 1)) + 1 := by omega
      have hown3 := layHeldS.next HO.out hb2
      rw [hm, List.replicate_succ] at hown3
      have hbo := HB.out.size
      have hoq2 := layHeld.lower hoq hbo
      obtain ⟨g', cap', hv, hbg, hgl, ⟨zc, zf, hzc, hcell⟩, fp', hd', _, hown4, hchg⟩ := rows_set hown3 hdup fq _ _ hoq2 hfq (fun i hi hm => by
        have h8 := (layHeldS.blocks HO.out i hm).2
        have h9 := (layHeld.blocks hoq i hi).1
        omega)
      simp only [Value.slice.injEq, Option.some.injEq, Addr.mk.injEq, and_true] at hv
      obtain ⟨rfl, -, rfl⟩ := hv
      have hjl : (xs.take j).length = j := by rw [List.length_take]; omega
      rw [hjl] at hcell hown4 hchg
      obtain ⟨z3, z4, _, _, rfl, _, _, _⟩ := layHeld_own.1 hzc
      obtain ⟨e0, m0⟩ : w2.cell? ⟨w.heap.size, j * 6, none⟩ = some (.int .i64 0) ∧ w2.frozen? ⟨w.heap.size, j * 6, none⟩ = false := hcell 0 _ rfl
      obtain ⟨e1, m1⟩ : w2.cell? ⟨w.heap.size, j * 6 + 1, none⟩ = some (.int .i64 0) ∧ w2.frozen? ⟨w.heap.size, j * 6 + 1, none⟩ = false := hcell 1 _ rfl
      obtain ⟨e2, m2⟩ : w2.cell? ⟨w.heap.size, j * 6 + 2, none⟩ = some (.int .i64 0) ∧ w2.frozen? ⟨w.heap.size, j * 6 + 2, none⟩ = false := hcell 2 _ rfl
      obtain ⟨e3, m3⟩ : w2.cell? ⟨w.heap.size, j * 6 + 3, none⟩ = some z3 ∧ w2.frozen? ⟨w.heap.size, j * 6 + 3, none⟩ = false := hcell 3 _ rfl
      obtain ⟨e4, m4⟩ : w2.cell? ⟨w.heap.size, j * 6 + 4, none⟩ = some z4 ∧ w2.frozen? ⟨w.heap.size, j * 6 + 4, none⟩ = false := hcell 4 _ rfl
      obtain ⟨e5, m5⟩ : w2.cell? ⟨w.heap.size, j * 6 + 5, none⟩ = some (.int .i64 0) ∧ w2.frozen? ⟨w.heap.size, j * 6 + 5, none⟩ = false := hcell 5 _ rfl
      have hbel2 := HB.out.trans (hb2.mono HB.out.size)
      have HP : Hid (layHeldS.own (setCells w2 w.heap.size (j * layHeld.k) [.int .i64 x0, .int .i64 x1, .int .i64 x2, .slice qa r3.length qc, .slice qb r4.length qd, .int .i64 x5]) w.heap.size fp' [.slice (some ⟨w.heap.size, 0, none⟩) xs.length xs.length] (xs.take (j + 1) ++ List.replicate (xs.length - (j + 1)) (0, 0, 0, [], [], 0))) := by
        rw [HTA.out, List.append_assoc]
        exact hown4
      have HB3 := Lib.hid (hbel2.trans (hchg.below (by simp) hbel2.size))
      have HD := Lib.hid hd'
      clear hown3 hown4 hchg hbel2 hb2 hcell hm hjl hd' hbg hgl hoq hoq2 hbo h3 h4 hzc HK hfqe c0 c1 c2 c3 c4 c5
      go_wp2_with fail
      go_roundw
      case rel => exact ⟨j + 1, fp', by omega, by go_num, HD.out, HP.out, HB3.out⟩
      case measure => simp [intOf]; omega
    · have hlt' : ¬ ((j : Int) < (xs.length : Int)) := by omega
      have hke : j = xs.length := by omega
      have hfin : xs.take j ++ List.replicate (xs.length - j) ((0, 0, 0, [], [], 0) : HeldD) = xs := by subst hke; simp
      have HO2 := HO.out
      rw [hfin] at HO2
      have HO3 := Lib.hid HO2
      clear HO2 HO
      go_wp2_with fail
      go_ret
      exact ⟨_, fp, rfl, hdup, HO3.out, HB.out⟩

end Go.Proofs.Ytfhlpgngeiploab
namespace Go.Proofs.Ytfhlpgngeiploab
open Go.RowKit

abbrev LShT : TypeId := 24
set_option maxRecDepth 100000 in
set_option maxHeartbeats 800000 in
theorem szShelf_any (v : Value) (xs : List HeldD) (left : Int) (h0 : 0 ≤ left) (h1 : left ≤ 1048576) (hR : RoomHeldS xs) (w : World) (h : layHeldS.rd w [v] xs) :
    Calls Try.prog 6 #[.agg #[v], .int .i64 left] w fun e w' => SzEnd (FitsHeldS xs) left e ∧ Below w.heap.size w w' := by
  obtain ⟨a, p, rfl⟩ := rows_form h
  have HR := Lib.hid h
  have A0 := Lib.hid (VarA.new w LShT #[.slice a xs.length p])
  have BY := Lib.hid ((Below.refl w.heap.size w).alloc (Nat.le_refl _) (.cells #[.slice a xs.length p] LShT))
  have M := Lib.hid hR
  clear h hR
  go_enter Try.func6, Try.ntmps6
  go_upto_region 1 with fail
  generalize w.alloc (.cells #[.slice a xs.length p] LShT) = Y0 at *
  have c0 : Y0.cell? ⟨w.heap.size, 0, none⟩ = some (.slice a xs.length p) := A0.out.cell 0
  have K := Lib.hid (szHeldS_any (.slice a xs.length p) xs left h0 h1 M.out Y0 (layHeldS.below HR.out BY.out))
  go_wp2_with fail
  refine (K.out).mono ?_
  rintro e Y1 ⟨⟨t3, rfl, rfl | ⟨u3, w3, F3⟩⟩, hb⟩
  · replace BY := Lib.hid (BY.out.trans (hb.mono BY.out.size))
    clear hb
    go_wp2_with fail
    go_ret
    exact ⟨⟨_, rfl, .inl rfl⟩, BY.out⟩
  replace F3 := Lib.hid F3
  replace BY := Lib.hid (BY.out.trans (hb.mono BY.out.size))
  have g3 : ¬ (t3 < 0) := by omega
  clear hb c0 K
  go_wp2_with fail
  go_ret
  exact ⟨⟨_, rfl, .inr ⟨u3, w3, F3.out⟩⟩, BY.out⟩
/-- A shelf is handed back. -/
def ShelfMade (w : World) (xs : List HeldD) (e : Ending) (w' : World) : Prop := ∃ v fp, e = .returned (.agg #[v]) ∧ fp.Nodup ∧ layHeldS.own w' w.heap.size fp [v] xs ∧ Below w.heap.size w w'
set_option maxRecDepth 100000 in
set_option maxHeartbeats 1600000 in
theorem toShelf_any (v : Value) (xs : List HeldD) (hF : FitsHeldS xs) (w : World) (h : layHeldS.rd w [v] xs) :
    Calls Try.prog 8 #[.agg #[v]] w fun e w' => ShelfMade w xs e w' := by
  obtain ⟨a, p, rfl⟩ := rows_form h
  have e1 : (w.alloc (.cells #[.slice a xs.length p] LShT)).heap.size = w.heap.size + 1 := by simp
  have h2 := VarA.new (w.alloc (.cells #[.slice a xs.length p] LShT)) ShelfT #[.slice none 0 0]
  have h3 := VarA.new ((w.alloc (.cells #[.slice a xs.length p] LShT)).alloc (.cells #[.slice none 0 0] ShelfT)) ShelfT #[.slice none 0 0]
  rw [e1] at h2
  rw [show ((w.alloc (.cells #[.slice a xs.length p] LShT)).alloc (.cells #[.slice none 0 0] ShelfT)).heap.size = w.heap.size + 1 + 1 by simp] at h3
  have A0 := Lib.hid (((VarA.new w LShT #[.slice a xs.length p]).alloc (.cells #[.slice none 0 0] ShelfT)).alloc (.cells #[.slice none 0 0] ShelfT))
  have A1 := Lib.hid (h2.alloc (.cells #[.slice none 0 0] ShelfT))
  have A2 := Lib.hid h3
  have BY := Lib.hid ((((Below.refl w.heap.size w).alloc (Nat.le_refl _) (.cells #[.slice a xs.length p] LShT)).alloc (by simp) (.cells #[.slice none 0 0] ShelfT)).alloc (by simp; omega) (.cells #[.slice none 0 0] ShelfT))
  have hz : Hid (w.heap.size + 3 ≤ (((w.alloc (.cells #[.slice a xs.length p] LShT)).alloc (.cells #[.slice none 0 0] ShelfT)).alloc (.cells #[.slice none 0 0] ShelfT)).heap.size) := Lib.hid (by simp)
  have HR := Lib.hid h
  have HF := Lib.hid hF
  clear h hF h2 h3 e1
  obtain ⟨Q, HQ⟩ : ∃ Q : Ending → World → Prop, Hid (Q = ShelfMade w xs) := ⟨_, Lib.hid rfl⟩
  show Calls Try.prog 8 _ w (ShelfMade w xs)
  rw [← HQ.out]
  go_enter Try.func8, Try.ntmps8
  go_upto_region 2 with fail
  generalize (((w.alloc (.cells #[.slice a xs.length p] LShT)).alloc (.cells #[.slice none 0 0] ShelfT)).alloc (.cells #[.slice none 0 0] ShelfT)) = Y at *
  have c0 : Y.cell? ⟨w.heap.size, 0, none⟩ = some (.slice a xs.length p) := A0.out.cell 0
  have K := Lib.hid (toHeldS_any (.slice a xs.length p) xs HF.out.1 (fun x hx => ⟨(HF.out.2.1 x hx).1.1, (HF.out.2.1 x hx).2⟩) Y (layHeldS.below HR.out BY.out))
  have d0 := A2.out.cell 0
  have g0 := A2.out.free 0
  go_wp2_with fail
  refine K.out.mono ?_
  rintro e Y1 ⟨u, fp, rfl, hd, ho, hb⟩
  obtain ⟨qa, qc, rfl⟩ := rows_form (layHeldS.read ho)
  have HD := Lib.hid hd
  have HO := Lib.hid ho
  have B1 := Lib.hid (A1.out.next hb)
  have B2 := Lib.hid (A2.out.next hb)
  have hlo : w.heap.size + 3 ≤ Y.heap.size := hz.out
  have HZ := Lib.hid hlo
  replace BY := Lib.hid (BY.out.trans (hb.mono BY.out.size))
  clear hb hd ho K c0 d0 g0 A0 A1 A2 hz hlo
  have d0 : Y1.cell? ⟨w.heap.size + 1 + 1, 0, none⟩ = some (.slice none 0 0) := B2.out.cell 0
  have g0 := B2.out.free 0
  have ho1 : Only (w.heap.size + 1 + 1) Y1 (Y1.setCell ⟨w.heap.size + 1 + 1, 0, none⟩ (.slice qa xs.length qc)) := Only.setCell 0 _
  replace HO : Hid (layHeldS.own (Y1.setCell ⟨w.heap.size + 1 + 1, 0, none⟩ (.slice qa xs.length qc)) Y.heap.size fp [.slice qa xs.length qc] xs) := Lib.hid (layHeldS.keep HO.out (fun a ha => ho1.block a (layHeldS.blocks HO.out a ha).2 (by have := (layHeldS.blocks HO.out a ha).1; have := HZ.out; omega)))
  replace B1 := Lib.hid (B1.out.only ho1 (by omega))
  replace B2 := Lib.hid (B2.out.set 0 (.slice qa xs.length qc))
  replace BY := Lib.hid (BY.out.trans (ho1.below (by omega) BY.out.size))
  clear ho1
  go_upto_region 3 with fail
  clear d0 g0
  generalize Y1.setCell ⟨w.heap.size + 1 + 1, 0, none⟩ (.slice qa xs.length qc) = Y2 at *
  have d0 : Y2.cell? ⟨w.heap.size + 1 + 1, 0, none⟩ = some (.slice qa xs.length qc) := B2.out.cell 0
  have r0 : Y2.cell? ⟨w.heap.size + 1, 0, none⟩ = some (.slice none 0 0) := B1.out.cell 0
  have g0 := B1.out.free 0
  have ho1 : Only (w.heap.size + 1) Y2 (Y2.setCell ⟨w.heap.size + 1, 0, none⟩ (.slice qa xs.length qc)) := Only.setCell 0 _
  have j0 : (Y2.setCell ⟨w.heap.size + 1, 0, none⟩ (.slice qa xs.length qc)).cell? ⟨w.heap.size + 1, 0, none⟩ = some (.slice qa xs.length qc) := (B1.out.set 0 (.slice qa xs.length qc)).cell 0
  have E : Hid (Q (.returned (.agg #[.slice qa xs.length qc])) (Y2.setCell ⟨w.heap.size + 1, 0, none⟩ (.slice qa xs.length qc))) := Lib.hid (by
    rw [HQ.out]
    have hzz := HZ.out
    exact ⟨_, fp, rfl, HD.out, layHeldS.lower (layHeldS.keep HO.out (fun a ha => ho1.block a (layHeldS.blocks HO.out a ha).2 (by have := (layHeldS.blocks HO.out a ha).1; omega))) (by omega), BY.out.trans (ho1.below (by omega) BY.out.size)⟩)
  clear ho1
  go_wp2_with fail
  try simp only [Exit.inBlock, Exit.then]
  exact bodyPost_ret (v := .agg #[.slice qa xs.length qc]) (by simp [results, Try.results8, go_sem, j0]) rfl E.out
set_option maxRecDepth 100000 in
set_option maxHeartbeats 1600000 in
theorem eqShelf_same (v u : Value) (xs : List HeldD) (hl : xs.length ≤ 100000000) (hf : ∀ x ∈ xs, x.2.2.2.1.length ≤ 100000000 ∧ x.2.2.2.2.1.length ≤ 100000000) (w : World) (hv : layHeldS.rd w [v] xs) (hu : layHeldS.rd w [u] xs) :
    Calls Try.prog 10 #[.agg #[v], .agg #[u]] w fun e w' => e = .returned (.bool true) ∧ Below w.heap.size w w' := by
  obtain ⟨a, p, rfl⟩ := rows_form hv
  obtain ⟨b, q, rfl⟩ := rows_form hu
  have e1 : (w.alloc (.cells #[.slice a xs.length p] ShelfT)).heap.size = w.heap.size + 1 := by simp
  have h2 := VarA.new (w.alloc (.cells #[.slice a xs.length p] ShelfT)) ShelfT #[.slice b xs.length q]
  rw [e1] at h2
  have A0 := Lib.hid ((VarA.new w ShelfT #[.slice a xs.length p]).alloc (.cells #[.slice b xs.length q] ShelfT))
  have A1 := Lib.hid h2
  have BY := Lib.hid (((Below.refl w.heap.size w).alloc (Nat.le_refl _) (.cells #[.slice a xs.length p] ShelfT)).alloc (by simp) (.cells #[.slice b xs.length q] ShelfT))
  have HV := Lib.hid hv
  have HU := Lib.hid hu
  clear hv hu h2 e1
  go_enter Try.func10, Try.ntmps10
  go_upto_region 1 with fail
  generalize ((w.alloc (.cells #[.slice a xs.length p] ShelfT)).alloc (.cells #[.slice b xs.length q] ShelfT)) = Y at *
  have c0 : Y.cell? ⟨w.heap.size, 0, none⟩ = some (.slice a xs.length p) := A0.out.cell 0
  have d0 : Y.cell? ⟨w.heap.size + 1, 0, none⟩ = some (.slice b xs.length q) := A1.out.cell 0
  have K := Lib.hid (eqHeldS_same _ _ xs hl hf Y (layHeldS.below HV.out BY.out) (layHeldS.below HU.out BY.out))
  go_wp2_with fail
  refine K.out.mono ?_
  rintro e Y1 ⟨rfl, hb⟩
  replace BY := Lib.hid (BY.out.trans (hb.mono BY.out.size))
  clear hb K c0 d0
  go_wp2_with fail
  go_ret
  exact ⟨rfl, BY.out⟩

end Go.Proofs.Ytfhlpgngeiploab
namespace Go.Proofs.Ytfhlpgngeiploab

end Go.Proofs.Ytfhlpgngeiploab
namespace Go.Proofs.Ytfhlpgngeiploab

/-- A number that an int holds. -/
def IntZ (x : Int) : Prop := -9223372036854775808 ≤ x ∧ x ≤ 9223372036854775807
end Go.Proofs.Ytfhlpgngeiploab
