/-
  The given ShelfOk.
  A shelf as it lies; the laws' own functions over it.
  Rows and variables of different types lie apart; no program is spoken of here.
-/
import Derived.Test.YtfhlpgngeiploabJ13
import Derived.Test.YtfhlpgngeiploabJ10
import Derived.Test.YtfhlpgngeiploabJ11
import Derived.Test.YtfhlpgngeiploabJ12
import Derived.Test.YtfhlpgngeiploabJ04
namespace Go.Proofs.Ytfhlpgngeiploab
open Go.RowKit

abbrev ShelfT : TypeId := 29
/-- Of one From and Id. -/
def OneV (x y : HeldV) : Prop := x.1 = y.1 ∧ x.2.1 = y.2.1
theorem take_next {α : Type} {l : List α} {j : Nat} (h : j < l.length) : l.take (j + 1) = l.take j ++ [l[j]] := by rw [List.take_add_one, List.getElem?_eq_getElem h]; rfl
set_option maxRecDepth 100000 in
set_option maxHeartbeats 3200000 in
theorem specShelfOk_bool (v : Value) (l : List HeldV) (c : Bool) (hc : c = true ↔ ShelfP l) (hl : l.length ≤ 100000000) (w : World) (h : layHeldS.rd w [v] l) :
    Calls Try.prog 7 #[.agg #[v]] w fun e w' => e = .returned (.bool c) ∧ Below w.heap.size w w' := by
  obtain ⟨a, p, rfl⟩ := rows_form h
  have A0 := Lib.hid (VarA.new w ShelfT #[.slice a l.length p])
  have B0 := Lib.hid ((Below.refl w.heap.size w).alloc (Nat.le_refl _) (.cells #[.slice a l.length p] ShelfT))
  have HR := Lib.hid h
  have HF : Hid (¬ ShelfP l → c = false) := Lib.hid (fun h => Bool.eq_false_iff.2 fun e => h (hc.1 e))
  have HC := Lib.hid hc
  have KH := Lib.hid specHeld_bool
  clear h hc
  go_enter Try.func7, Try.ntmps7
  go_upto_region 1 with fail
  generalize w.alloc (.cells #[.slice a l.length p] ShelfT) = Y at *
  go_wp2_with fail
  go_loopw [3] (fun i wr => ∃ j : Nat, j ≤ l.length ∧ i = .int .i64 j ∧ Hid (∀ x ∈ l.take j, HeldP x) ∧ Hid ((l.take j).Pairwise (fun x y => ¬ OneV x y)) ∧ Hid (VarA w.heap.size ShelfT #[.slice a l.length p] wr) ∧ Hid (Below w.heap.size w wr)) (fun i _ => l.length - (intOf i).toNat)
  case atStart => exact ⟨0, Nat.zero_le _, rfl, Lib.hid (by simp), Lib.hid (by simp), A0, B0⟩
  case round =>
    obtain ⟨j, hj, rfl, T1, T2, A1, B1⟩ := hrel
    have c0 : wr.cell? ⟨w.heap.size, 0, none⟩ = some (.slice a l.length p) := A1.out.cell 0
    by_cases hlt : j < l.length
    rotate_left
    · have hlt' : ¬ ((j : Int) < (l.length : Int)) := by omega
      obtain rfl : j = l.length := by omega
      rw [List.take_length] at T1 T2
      by_cases h3 : l.length ≤ 3
      · have k3 : decide ((l.length : Int) ≤ 3) = true := decide_eq_true (by omega)
        have k3' : (l.length : Int) ≤ 3 := by omega
        obtain rfl : c = true := HC.out.2 ⟨h3, T1.out, T2.out⟩
        go_wp2_with fail
        go_ret
        exact ⟨rfl, B1.out⟩
      · have k3 : decide ((l.length : Int) ≤ 3) = false := decide_eq_false (by omega)
        have k3' : ¬ ((l.length : Int) ≤ 3) := by omega
        obtain rfl := HF.out (fun h => h3 h.1)
        go_wp2_with fail
        go_ret
        exact ⟨rfl, B1.out⟩
    have hlt' : (j : Int) < (l.length : Int) := by omega
    obtain ⟨g, og, cs, rfl, hg, hr, hcl⟩ := rows_elem (layHeldS.below HR.out B1.out) j _ (List.getElem?_eq_getElem hlt)
    have HTN := Lib.hid (take_next hlt)
    have HLJ := Lib.hid (List.getElem_mem hlt)
    have HXJ := Lib.hid (List.getElem?_eq_getElem hlt)
    obtain ⟨y, hy⟩ : ∃ y, l[j] = y := ⟨_, rfl⟩
    rw [hy] at hr HTN HLJ HXJ
    clear hy
    obtain ⟨v3, v4, rfl, h3, h4⟩ := layHeld_rd.1 hr
    obtain ⟨y0, y1, y2, r3, r4, y5⟩ := y
    simp only at h3 h4
    have d0 : wr.cell? ⟨g, og + j * 6, none⟩ = some (.int .i64 y0) := hcl 0 _ rfl
    have d1 : wr.cell? ⟨g, og + j * 6 + 1, none⟩ = some (.int .i64 y1) := hcl 1 _ rfl
    have d2 : wr.cell? ⟨g, og + j * 6 + 2, none⟩ = some (.int .i64 y2) := hcl 2 _ rfl
    have d3 : wr.cell? ⟨g, og + j * 6 + 3, none⟩ = some v3 := hcl 3 _ rfl
    have d4 : wr.cell? ⟨g, og + j * 6 + 4, none⟩ = some v4 := hcl 4 _ rfl
    have d5 : wr.cell? ⟨g, og + j * 6 + 5, none⟩ = some (.int .i64 y5) := hcl 5 _ rfl
    obtain ⟨b, hb⟩ : ∃ b : Bool, b = true ↔ HeldP (y0, y1, y2, r3, r4, y5) := by
      by_cases h : HeldP (y0, y1, y2, r3, r4, y5)
      · exact ⟨true, ⟨fun _ => h, fun _ => rfl⟩⟩
      · exact ⟨false, ⟨fun e => (by cases e), fun e => absurd e h⟩⟩
    obtain ⟨pa, pc, rfl⟩ := rows_form h3
    obtain ⟨pb, pd, rfl⟩ := rows_form h4
    have K := Lib.hid (KH.out y0 y1 y2 _ r3 _ r4 y5 b hb wr h3 h4)
    have HB := Lib.hid hb
    clear hb h3 h4 hr hcl
    go_wp2_with fail
    refine K.out.mono ?_
    rintro e w1 ⟨rfl, hbw⟩
    have A2 := Lib.hid (A1.out.next hbw)
    have B2 := Lib.hid (B1.out.trans (hbw.mono B1.out.size))
    clear hbw K d0 d1 d2 d3 d4 d5 c0 A1 B1
    cases b with
    | false =>
      obtain rfl := HF.out (fun h => absurd (HB.out.2 (h.2.1 _ HLJ.out)) (by decide))
      go_wp2_with fail
      go_ret
      exact ⟨rfl, B2.out⟩
    | true =>
      have HY := Lib.hid (HB.out.1 rfl)
      clear HB
      go_wp2_with fail
      generalize wr = wo at *
      go_loopw [4] (fun i wr => ∃ k : Nat, k ≤ j ∧ i = .int .i64 k ∧ Hid (∀ x ∈ l.take k, ¬ OneV x (y0, y1, y2, r3, r4, y5)) ∧ Hid (VarA w.heap.size ShelfT #[.slice (some ⟨g, og, none⟩) l.length p] wr) ∧ Hid (Below w.heap.size w wr)) (fun i _ => j - (intOf i).toNat)
      case atStart => exact ⟨0, Nat.zero_le _, rfl, Lib.hid (by simp), A2, B2⟩
      case round =>
        obtain ⟨k, hk, rfl, T3, A3, B3⟩ := hrel
        have c0 : wr.cell? ⟨w.heap.size, 0, none⟩ = some (.slice (some ⟨g, og, none⟩) l.length p) := A3.out.cell 0
        by_cases hkj : k < j
        rotate_left
        · have hkj' : ¬ ((k : Int) < (j : Int)) := by omega
          obtain rfl : k = j := by omega
          go_wp2_with fail
          go_roundw
          case rel => exact ⟨k + 1, by omega, by go_num, Lib.hid (by
            rw [HTN.out]
            intro x hx
            rcases List.mem_append.1 hx with hx | hx
            · exact T1.out x hx
            · rw [List.mem_singleton.1 hx]; exact HY.out), Lib.hid (by
            rw [HTN.out]
            exact List.pairwise_append.2 ⟨T2.out, List.pairwise_singleton _ _, fun x hx z hz => by rw [List.mem_singleton.1 hz]; exact T3.out x hx⟩), A3, B3⟩
          case measure => simp [intOf]; omega
        have hkj' : (k : Int) < (j : Int) := by omega
        have hkl : k < l.length := by omega
        have hkl' : (k : Int) < (l.length : Int) := by omega
        obtain ⟨g', og', cs', hga, hg', hr', hcl'⟩ := rows_elem (layHeldS.below HR.out B3.out) k _ (List.getElem?_eq_getElem hkl)
        obtain ⟨g2', og2', cs2', hga2, hg2', hr2', hcl2'⟩ := rows_elem (layHeldS.below HR.out B3.out) j _ HXJ.out
        simp only [Option.some.injEq, Addr.mk.injEq, and_true] at hga hga2
        obtain ⟨rfl, rfl⟩ := hga
        obtain ⟨rfl, rfl⟩ := hga2
        have HTK := Lib.hid (take_next hkl)
        have HLK := Lib.hid (List.getElem_mem hkl)
        have HXK := Lib.hid (List.getElem?_eq_getElem hkl)
        obtain ⟨x, hx⟩ : ∃ x, l[k] = x := ⟨_, rfl⟩
        rw [hx] at hr' HTK HLK HXK
        clear hx
        obtain ⟨v3', v4', rfl, h3', h4'⟩ := layHeld_rd.1 hr'
        obtain ⟨v3'', v4'', rfl, h3'', h4''⟩ := layHeld_rd.1 hr2'
        obtain ⟨x0, x1, x2, q3, q4, x5⟩ := x
        have d0 : wr.cell? ⟨g, og + k * 6, none⟩ = some (.int .i64 x0) := hcl' 0 _ rfl
        have d1 : wr.cell? ⟨g, og + k * 6 + 1, none⟩ = some (.int .i64 x1) := hcl' 1 _ rfl
        have e0 : wr.cell? ⟨g, og + j * 6, none⟩ = some (.int .i64 y0) := hcl2' 0 _ rfl
        have e1 : wr.cell? ⟨g, og + j * 6 + 1, none⟩ = some (.int .i64 y1) := hcl2' 1 _ rfl
        clear h3' h4' h3'' h4'' hr' hr2' hcl' hcl2' hg' hg2'
        have HNO : Hid (¬ OneV (x0, x1, x2, q3, q4, x5) (y0, y1, y2, r3, r4, y5) → ∀ x ∈ l.take (k + 1), ¬ OneV x (y0, y1, y2, r3, r4, y5)) := Lib.hid (fun hn x hx => by
          rw [HTK.out] at hx
          rcases List.mem_append.1 hx with hx | hx
          · exact T3.out x hx
          · rw [List.mem_singleton.1 hx]; exact hn)
        by_cases h0 : x0 = y0
        rotate_left
        · have q0 : (x0 == y0) = false := by rw [beq_eq_false_iff_ne]; exact h0
          have HN2 := Lib.hid (HNO.out (fun h => h0 h.1))
          clear h0
          go_wp2_with fail
          go_quiet (fail)
          go_wp2_with fail
          go_roundw
          case rel => exact ⟨k + 1, by omega, by go_num, HN2, Lib.hid (A3.out.next (below_drewN (Below.refl _ _) _)), Lib.hid (below_drewN B3.out _)⟩
          case measure => simp [intOf]; omega
        have q0 : (x0 == y0) = true := by rw [beq_iff_eq]; exact h0
        by_cases h1 : x1 = y1
        rotate_left
        · have q1 : (x1 == y1) = false := by rw [beq_eq_false_iff_ne]; exact h1
          have HN2 := Lib.hid (HNO.out (fun h => h1 h.2))
          clear h0 h1
          go_wp2_with fail
          go_quiet (fail)
          go_wp2_with fail
          go_roundw
          case rel => exact ⟨k + 1, by omega, by go_num, HN2, Lib.hid (A3.out.next (below_drewN (Below.refl _ _) _)), Lib.hid (below_drewN B3.out _)⟩
          case measure => simp [intOf]; omega
        have q1 : (x1 == y1) = true := by rw [beq_iff_eq]; exact h1
        obtain rfl := HF.out (fun h => (List.pairwise_iff_getElem.1 h.2.2) k j hkl hlt hkj (by
          have a1 := HXK.out
          have a2 := HXJ.out
          rw [List.getElem?_eq_getElem hkl] at a1
          rw [List.getElem?_eq_getElem hlt] at a2
          rw [Option.some.inj a1, Option.some.inj a2]
          exact ⟨h0, h1⟩))
        clear h0 h1
        go_wp2_with fail
        go_quiet (fail)
        go_wp2_with fail
        go_ret
        exact ⟨rfl, below_drewN B3.out _⟩

end Go.Proofs.Ytfhlpgngeiploab
namespace Go.Proofs.Ytfhlpgngeiploab
open Go.RowKit

abbrev LShT : TypeId := 24
set_option maxRecDepth 100000 in
set_option maxHeartbeats 800000 in
theorem szShelf_any (v : Value) (xs : List HeldD) (left : Int) (h0 : 0 ≤ left) (h1 : left ≤ 1048576) (hR : RoomHeldS xs) (w : World) (h : layHeldS.rd w [v] xs) :
    Calls Try.prog 6 #[.agg #[v], .int .i64 left] w fun e w' => SzEnd (FitsHeldS xs) left e ∧ Below w.heap.size w w' := by
  obtain ⟨a, p, rfl⟩ := rows_form h
  have HR := Lib.hid h
  have A0 := Lib.hid (VarA.new w LShT #[.slice a xs.length p])
  have BY := Lib.hid ((Below.refl w.heap.size w).alloc (Nat.le_refl _) (.cells #[.slice a xs.length p] LShT))
  have M := Lib.hid hR
  clear h hR
  go_enter Try.func6, Try.ntmps6
  go_upto_region 1 with fail
  generalize w.alloc (.cells #[.slice a xs.length p] LShT) = Y0 at *
  have c0 : Y0.cell? ⟨w.heap.size, 0, none⟩ = some (.slice a xs.length p) := A0.out.cell 0
  have K := Lib.hid (szHeldS_any (.slice a xs.length p) xs left h0 h1 M.out Y0 (layHeldS.below HR.out BY.out))
  go_wp2_with fail
  refine (K.out).mono ?_
  rintro e Y1 ⟨⟨t3, rfl, rfl | ⟨u3, w3, F3⟩⟩, hb⟩
  · replace BY := Lib.hid (BY.out.trans (hb.mono BY.out.size))
    clear hb
    go_wp2_with fail
    go_ret
    exact ⟨⟨_, rfl, .inl rfl⟩, BY.out⟩
  replace F3 := Lib.hid F3
  replace BY := Lib.hid (BY.out.trans (hb.mono BY.out.size))
  have g3 : ¬ (t3 < 0) := by omega
  clear hb c0 K
  go_wp2_with fail
  go_ret
  exact ⟨⟨_, rfl, .inr ⟨u3, w3, F3.out⟩⟩, BY.out⟩
/-- A shelf is handed back. -/
def ShelfMade (w : World) (xs : List HeldD) (e : Ending) (w' : World) : Prop := ∃ v fp, e = .returned (.agg #[v]) ∧ fp.Nodup ∧ layHeldS.own w' w.heap.size fp [v] xs ∧ Below w.heap.size w w'
set_option maxRecDepth 100000 in
set_option maxHeartbeats 1600000 in
theorem toShelf_any (v : Value) (xs : List HeldD) (hF : FitsHeldS xs) (w : World) (h : layHeldS.rd w [v] xs) :
    Calls Try.prog 8 #[.agg #[v]] w fun e w' => ShelfMade w xs e w' := by
  obtain ⟨a, p, rfl⟩ := rows_form h
  have e1 : (w.alloc (.cells #[.slice a xs.length p] LShT)).heap.size = w.heap.size + 1 := by simp
  have h2 := VarA.new (w.alloc (.cells #[.slice a xs.length p] LShT)) ShelfT #[.slice none 0 0]
  have h3 := VarA.new ((w.alloc (.cells #[.slice a xs.length p] LShT)).alloc (.cells #[.slice none 0 0] ShelfT)) ShelfT #[.slice none 0 0]
  rw [e1] at h2
  rw [show ((w.alloc (.cells #[.slice a xs.length p] LShT)).alloc (.cells #[.slice none 0 0] ShelfT)).heap.size = w.heap.size + 1 + 1 by simp] at h3
  have A0 := Lib.hid (((VarA.new w LShT #[.slice a xs.length p]).alloc (.cells #[.slice none 0 0] ShelfT)).alloc (.cells #[.slice none 0 0] ShelfT))
  have A1 := Lib.hid (h2.alloc (.cells #[.slice none 0 0] ShelfT))
  have A2 := Lib.hid h3
  have BY := Lib.hid ((((Below.refl w.heap.size w).alloc (Nat.le_refl _) (.cells #[.slice a xs.length p] LShT)).alloc (by simp) (.cells #[.slice none 0 0] ShelfT)).alloc (by simp; omega) (.cells #[.slice none 0 0] ShelfT))
  have hz : Hid (w.heap.size + 3 ≤ (((w.alloc (.cells #[.slice a xs.length p] LShT)).alloc (.cells #[.slice none 0 0] ShelfT)).alloc (.cells #[.slice none 0 0] ShelfT)).heap.size) := Lib.hid (by simp)
  have HR := Lib.hid h
  have HF := Lib.hid hF
  clear h hF h2 h3 e1
  obtain ⟨Q, HQ⟩ : ∃ Q : Ending → World → Prop, Hid (Q = ShelfMade w xs) := ⟨_, Lib.hid rfl⟩
  show Calls Try.prog 8 _ w (ShelfMade w xs)
  rw [← HQ.out]
  go_enter Try.func8, Try.ntmps8
  go_upto_region 2 with fail
  generalize (((w.alloc (.cells #[.slice a xs.length p] LShT)).alloc (.cells #[.slice none 0 0] ShelfT)).alloc (.cells #[.slice none 0 0] ShelfT)) = Y at *
  have c0 : Y.cell? ⟨w.heap.size, 0, none⟩ = some (.slice a xs.length p) := A0.out.cell 0
  have K := Lib.hid (toHeldS_any (.slice a xs.length p) xs HF.out.1 (fun x hx => ⟨(HF.out.2.1 x hx).1.1, (HF.out.2.1 x hx).2⟩) Y (layHeldS.below HR.out BY.out))
  have d0 := A2.out.cell 0
  have g0 := A2.out.free 0
  go_wp2_with fail
  refine K.out.mono ?_
  rintro e Y1 ⟨u, fp, rfl, hd, ho, hb⟩
  obtain ⟨qa, qc, rfl⟩ := rows_form (layHeldS.read ho)
  have HD := Lib.hid hd
  have HO := Lib.hid ho
  have B1 := Lib.hid (A1.out.next hb)
  have B2 := Lib.hid (A2.out.next hb)
  have hlo : w.heap.size + 3 ≤ Y.heap.size := hz.out
  have HZ := Lib.hid hlo
  replace BY := Lib.hid (BY.out.trans (hb.mono BY.out.size))
  clear hb hd ho K c0 d0 g0 A0 A1 A2 hz hlo
  have d0 : Y1.cell? ⟨w.heap.size + 1 + 1, 0, none⟩ = some (.slice none 0 0) := B2.out.cell 0
  have g0 := B2.out.free 0
  have ho1 : Only (w.heap.size + 1 + 1) Y1 (Y1.setCell ⟨w.heap.size + 1 + 1, 0, none⟩ (.slice qa xs.length qc)) := Only.setCell 0 _
  replace HO : Hid (layHeldS.own (Y1.setCell ⟨w.heap.size + 1 + 1, 0, none⟩ (.slice qa xs.length qc)) Y.heap.size fp [.slice qa xs.length qc] xs) := Lib.hid (layHeldS.keep HO.out (fun a ha => ho1.block a (layHeldS.blocks HO.out a ha).2 (by have := (layHeldS.blocks HO.out a ha).1; have := HZ.out; omega)))
  replace B1 := Lib.hid (B1.out.only ho1 (by omega))
  replace B2 := Lib.hid (B2.out.set 0 (.slice qa xs.length qc))
  replace BY := Lib.hid (BY.out.trans (ho1.below (by omega) BY.out.size))
  clear ho1
  go_upto_region 3 with fail
  clear d0 g0
  generalize Y1.setCell ⟨w.heap.size + 1 + 1, 0, none⟩ (.slice qa xs.length qc) = Y2 at *
  have d0 : Y2.cell? ⟨w.heap.size + 1 + 1, 0, none⟩ = some (.slice qa xs.length qc) := B2.out.cell 0
  have r0 : Y2.cell? ⟨w.heap.size + 1, 0, none⟩ = some (.slice none 0 0) := B1.out.cell 0
  have g0 := B1.out.free 0
  have ho1 : Only (w.heap.size + 1) Y2 (Y2.setCell ⟨w.heap.size + 1, 0, none⟩ (.slice qa xs.length qc)) := Only.setCell 0 _
  have j0 : (Y2.setCell ⟨w.heap.size + 1, 0, none⟩ (.slice qa xs.length qc)).cell? ⟨w.heap.size + 1, 0, none⟩ = some (.slice qa xs.length qc) := (B1.out.set 0 (.slice qa xs.length qc)).cell 0
  have E : Hid (Q (.returned (.agg #[.slice qa xs.length qc])) (Y2.setCell ⟨w.heap.size + 1, 0, none⟩ (.slice qa xs.length qc))) := Lib.hid (by
    rw [HQ.out]
    have hzz := HZ.out
    exact ⟨_, fp, rfl, HD.out, layHeldS.lower (layHeldS.keep HO.out (fun a ha => ho1.block a (layHeldS.blocks HO.out a ha).2 (by have := (layHeldS.blocks HO.out a ha).1; omega))) (by omega), BY.out.trans (ho1.below (by omega) BY.out.size)⟩)
  clear ho1
  go_wp2_with fail
  try simp only [Exit.inBlock, Exit.then]
  exact bodyPost_ret (v := .agg #[.slice qa xs.length qc]) (by simp [results, Try.results8, go_sem, j0]) rfl E.out
set_option maxRecDepth 100000 in
set_option maxHeartbeats 1600000 in
theorem eqShelf_same (v u : Value) (xs : List HeldD) (hl : xs.length ≤ 100000000) (hf : ∀ x ∈ xs, x.2.2.2.1.length ≤ 100000000 ∧ x.2.2.2.2.1.length ≤ 100000000) (w : World) (hv : layHeldS.rd w [v] xs) (hu : layHeldS.rd w [u] xs) :
    Calls Try.prog 10 #[.agg #[v], .agg #[u]] w fun e w' => e = .returned (.bool true) ∧ Below w.heap.size w w' := by
  obtain ⟨a, p, rfl⟩ := rows_form hv
  obtain ⟨b, q, rfl⟩ := rows_form hu
  have e1 : (w.alloc (.cells #[.slice a xs.length p] ShelfT)).heap.size = w.heap.size + 1 := by simp
  have h2 := VarA.new (w.alloc (.cells #[.slice a xs.length p] ShelfT)) ShelfT #[.slice b xs.length q]
  rw [e1] at h2
  have A0 := Lib.hid ((VarA.new w ShelfT #[.slice a xs.length p]).alloc (.cells #[.slice b xs.length q] ShelfT))
  have A1 := Lib.hid h2
  have BY := Lib.hid (((Below.refl w.heap.size w).alloc (Nat.le_refl _) (.cells #[.slice a xs.length p] ShelfT)).alloc (by simp) (.cells #[.slice b xs.length q] ShelfT))
  have HV := Lib.hid hv
  have HU := Lib.hid hu
  clear hv hu h2 e1
  go_enter Try.func10, Try.ntmps10
  go_upto_region 1 with fail
  generalize ((w.alloc (.cells #[.slice a xs.length p] ShelfT)).alloc (.cells #[.slice b xs.length q] ShelfT)) = Y at *
  have c0 : Y.cell? ⟨w.heap.size, 0, none⟩ = some (.slice a xs.length p) := A0.out.cell 0
  have d0 : Y.cell? ⟨w.heap.size + 1, 0, none⟩ = some (.slice b xs.length q) := A1.out.cell 0
  have K := Lib.hid (eqHeldS_same _ _ xs hl hf Y (layHeldS.below HV.out BY.out) (layHeldS.below HU.out BY.out))
  go_wp2_with fail
  refine K.out.mono ?_
  rintro e Y1 ⟨rfl, hb⟩
  replace BY := Lib.hid (BY.out.trans (hb.mono BY.out.size))
  clear hb K c0 d0
  go_wp2_with fail
  go_ret
  exact ⟨rfl, BY.out⟩

end Go.Proofs.Ytfhlpgngeiploab
namespace Go.Proofs.Ytfhlpgngeiploab
open Go.RowKit

theorem VarA.next' {r : Nat} {t : TypeId} {cs : Array Value} {X Y : World} {b : Nat} (h : VarA r t cs X) (hb : Below b X Y) (hr : r < b) : VarA r t cs Y := ⟨(hb.block r hr).trans h.row⟩

end Go.Proofs.Ytfhlpgngeiploab
