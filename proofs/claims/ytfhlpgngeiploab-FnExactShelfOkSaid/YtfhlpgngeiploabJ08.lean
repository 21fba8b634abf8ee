/-
  Rows of what is held, held against each other.
  The given ShelfOk.
-/
import Derived.Test.YtfhlpgngeiploabJ05
import Derived.Test.YtfhlpgngeiploabJ07
import Derived.Test.YtfhlpgngeiploabJ06
namespace Go.Proofs.Ytfhlpgngeiploab
open Go.RowKit

theorem infoHeld : (Try.prog.info? HeldT).map (fun i => (i.zero, i.size, i.bytes)) = some (some (.agg #[.int .i64 0, .int .i64 0, .int .i64 0, .slice none 0 0, .slice none 0 0, .int .i64 0]), 6, 80) := by kernel_rfl

set_option maxRecDepth 100000 in
set_option maxHeartbeats 3200000 in
theorem eqHeldS_same (v u : Value) (xs : List HeldD) (hl : xs.length ≤ 100000000) (hf : ∀ x ∈ xs, x.2.2.2.1.length ≤ 100000000 ∧ x.2.2.2.2.1.length ≤ 100000000) (w : World) (hv : layHeldS.rd w [v] xs) (hu : layHeldS.rd w [u] xs) :
    Calls Try.prog 22 #[v, u] w fun e w' => e = .returned (.bool true) ∧ Below w.heap.size w w' := by
  obtain ⟨ao, cp, rfl⟩ := rows_form hv
  obtain ⟨bo, dp, rfl⟩ := rows_form hu
  have HV := Lib.hid hv
  have HU := Lib.hid hu
  have HF := Lib.hid hf
  clear hv hu hf
  have K1 := eqHeld_same
  go_enter Try.func22, Try.ntmps22
  go_wp2_with fail
  go_loopw [5] (fun c wr => ∃ j : Nat, j ≤ xs.length ∧ c = .int .i64 j ∧ Below w.heap.size w wr) (fun c _ => xs.length - (intOf c).toNat)
  case atStart => exact ⟨0, Nat.zero_le _, rfl, Below.refl _ _⟩
  case round =>
    obtain ⟨j, hj, rfl, hb2⟩ := hrel
    by_cases hlt : j < xs.length
    · have hlt' : (j : Int) < (xs.length : Int) := by omega
      have hx := List.getElem?_eq_getElem hlt
      have hfx := HF.out _ (List.getElem_mem hlt)
      obtain ⟨g, og, cs, rfl, hg, hr, hc⟩ := rows_elem (layHeldS.below HV.out hb2.drew) j _ hx
      obtain ⟨h, oh, ds, rfl, hh, hs, hd⟩ := rows_elem (layHeldS.below HU.out hb2.drew) j _ hx
      generalize xs[j] = x at hr hs hfx
      obtain ⟨v3, v4, rfl, h3, h4⟩ := layHeld_rd.1 hr
      obtain ⟨u3, u4, rfl, k3, k4⟩ := layHeld_rd.1 hs
      obtain ⟨x0, x1, x2, r3, r4, x5⟩ := x
      simp only at h3 h4 k3 k4 hfx
      obtain ⟨pa, pc, rfl⟩ := rows_form h3
      obtain ⟨pb, pd, rfl⟩ := rows_form h4
      obtain ⟨qa, qc, rfl⟩ := rows_form k3
      obtain ⟨qb, qd, rfl⟩ := rows_form k4
      have E0 : Hid (wr.drew.cell? ⟨g, og + j * 6, none⟩ = some (.int .i64 x0) ∧ wr.drew.cell? ⟨g, og + j * 6 + 1, none⟩ = some (.int .i64 x1) ∧ wr.drew.cell? ⟨g, og + j * 6 + 2, none⟩ = some (.int .i64 x2) ∧ wr.drew.cell? ⟨g, og + j * 6 + 3, none⟩ = some (.slice pa r3.length pc) ∧ wr.drew.cell? ⟨g, og + j * 6 + 4, none⟩ = some (.slice pb r4.length pd) ∧ wr.drew.cell? ⟨g, og + j * 6 + 5, none⟩ = some (.int .i64 x5) ∧ wr.drew.cell? ⟨h, oh + j * 6, none⟩ = some (.int .i64 x0) ∧ wr.drew.cell? ⟨h, oh + j * 6 + 1, none⟩ = some (.int .i64 x1) ∧ wr.drew.cell? ⟨h, oh + j * 6 + 2, none⟩ = some (.int .i64 x2) ∧ wr.drew.cell? ⟨h, oh + j * 6 + 3, none⟩ = some (.slice qa r3.length qc) ∧ wr.drew.cell? ⟨h, oh + j * 6 + 4, none⟩ = some (.slice qb r4.length qd) ∧ wr.drew.cell? ⟨h, oh + j * 6 + 5, none⟩ = some (.int .i64 x5) ∧ Below w.heap.size w wr.drew) := ⟨hc 0 _ rfl, hc 1 _ rfl, hc 2 _ rfl, hc 3 _ rfl, hc 4 _ rfl, hc 5 _ rfl, hd 0 _ rfl, hd 1 _ rfl, hd 2 _ rfl, hd 3 _ rfl, hd 4 _ rfl, hd 5 _ rfl, hb2.drew⟩
      have H3 := Lib.hid h3
      have H4 := Lib.hid h4
      have K3 := Lib.hid k3
      have K4 := Lib.hid k4
      have HFX := Lib.hid hfx
      have hbd := hb2.drew
      have K2 : Hid (∀ X : World, Below wr.drew.heap.size wr.drew X → (X.cell? ⟨g, og + j * 6, none⟩ = some (.int .i64 x0) ∧ X.cell? ⟨g, og + j * 6 + 1, none⟩ = some (.int .i64 x1) ∧ X.cell? ⟨g, og + j * 6 + 2, none⟩ = some (.int .i64 x2) ∧ X.cell? ⟨g, og + j * 6 + 3, none⟩ = some (.slice pa r3.length pc) ∧ X.cell? ⟨g, og + j * 6 + 4, none⟩ = some (.slice pb r4.length pd) ∧ X.cell? ⟨g, og + j * 6 + 5, none⟩ = some (.int .i64 x5) ∧ X.cell? ⟨h, oh + j * 6, none⟩ = some (.int .i64 x0) ∧ X.cell? ⟨h, oh + j * 6 + 1, none⟩ = some (.int .i64 x1) ∧ X.cell? ⟨h, oh + j * 6 + 2, none⟩ = some (.int .i64 x2) ∧ X.cell? ⟨h, oh + j * 6 + 3, none⟩ = some (.slice qa r3.length qc) ∧ X.cell? ⟨h, oh + j * 6 + 4, none⟩ = some (.slice qb r4.length qd) ∧ X.cell? ⟨h, oh + j * 6 + 5, none⟩ = some (.int .i64 x5) ∧ Below w.heap.size w X) → Calls Try.prog 46 #[.agg #[.int .i64 x0, .int .i64 x1, .int .i64 x2, .slice pa r3.length pc, .slice pb r4.length pd, .int .i64 x5], .agg #[.int .i64 x0, .int .i64 x1, .int .i64 x2, .slice qa r3.length qc, .slice qb r4.length qd, .int .i64 x5]] X fun e Y => e = .returned (.bool true) ∧ (Y.cell? ⟨g, og + j * 6, none⟩ = some (.int .i64 x0) ∧ Y.cell? ⟨g, og + j * 6 + 1, none⟩ = some (.int .i64 x1) ∧ Y.cell? ⟨g, og + j * 6 + 2, none⟩ = some (.int .i64 x2) ∧ Y.cell? ⟨g, og + j * 6 + 3, none⟩ = some (.slice pa r3.length pc) ∧ Y.cell? ⟨g, og + j * 6 + 4, none⟩ = some (.slice pb r4.length pd) ∧ Y.cell? ⟨g, og + j * 6 + 5, none⟩ = some (.int .i64 x5) ∧ Y.cell? ⟨h, oh + j * 6, none⟩ = some (.int .i64 x0) ∧ Y.cell? ⟨h, oh + j * 6 + 1, none⟩ = some (.int .i64 x1) ∧ Y.cell? ⟨h, oh + j * 6 + 2, none⟩ = some (.int .i64 x2) ∧ Y.cell? ⟨h, oh + j * 6 + 3, none⟩ = some (.slice qa r3.length qc) ∧ Y.cell? ⟨h, oh + j * 6 + 4, none⟩ = some (.slice qb r4.length qd) ∧ Y.cell? ⟨h, oh + j * 6 + 5, none⟩ = some (.int .i64 x5) ∧ Below w.heap.size w Y)) := fun X hXw hX => by
        refine (K1 x0 x1 x2 _ _ r3 _ _ r4 x5 X (layStringS.below H3.out hXw) (layStringS.below K3.out hXw) HFX.out.1 (layBoolS.below H4.out hXw) (layBoolS.below K4.out hXw) HFX.out.2).mono ?_
        rintro e Y ⟨rfl, hb⟩
        obtain ⟨a0, a1, a2, a3, a4, a5, a6, a7, a8, a9, a10, a11, hbX⟩ := hX
        exact ⟨rfl, by rw [hb.cell (p := ⟨g, og + j * 6, none⟩) (World.block_lt_of_cell? _ _ a0)]; exact a0, by rw [hb.cell (p := ⟨g, og + j * 6 + 1, none⟩) (World.block_lt_of_cell? _ _ a1)]; exact a1, by rw [hb.cell (p := ⟨g, og + j * 6 + 2, none⟩) (World.block_lt_of_cell? _ _ a2)]; exact a2, by rw [hb.cell (p := ⟨g, og + j * 6 + 3, none⟩) (World.block_lt_of_cell? _ _ a3)]; exact a3, by rw [hb.cell (p := ⟨g, og + j * 6 + 4, none⟩) (World.block_lt_of_cell? _ _ a4)]; exact a4, by rw [hb.cell (p := ⟨g, og + j * 6 + 5, none⟩) (World.block_lt_of_cell? _ _ a5)]; exact a5, by rw [hb.cell (p := ⟨h, oh + j * 6, none⟩) (World.block_lt_of_cell? _ _ a6)]; exact a6, by rw [hb.cell (p := ⟨h, oh + j * 6 + 1, none⟩) (World.block_lt_of_cell? _ _ a7)]; exact a7, by rw [hb.cell (p := ⟨h, oh + j * 6 + 2, none⟩) (World.block_lt_of_cell? _ _ a8)]; exact a8, by rw [hb.cell (p := ⟨h, oh + j * 6 + 3, none⟩) (World.block_lt_of_cell? _ _ a9)]; exact a9, by rw [hb.cell (p := ⟨h, oh + j * 6 + 4, none⟩) (World.block_lt_of_cell? _ _ a10)]; exact a10, by rw [hb.cell (p := ⟨h, oh + j * 6 + 5, none⟩) (World.block_lt_of_cell? _ _ a11)]; exact a11, hbX.trans (hb.mono hbX.size)⟩
      clear hc hd hx K1 hb2 hr hs h3 h4 k3 k4 hbd hfx HFX
      go_wp2_with fail
      go_region_held3 (fun X => X.cell? ⟨g, og + j * 6, none⟩ = some (.int .i64 x0) ∧ X.cell? ⟨g, og + j * 6 + 1, none⟩ = some (.int .i64 x1) ∧ X.cell? ⟨g, og + j * 6 + 2, none⟩ = some (.int .i64 x2) ∧ X.cell? ⟨g, og + j * 6 + 3, none⟩ = some (.slice pa r3.length pc) ∧ X.cell? ⟨g, og + j * 6 + 4, none⟩ = some (.slice pb r4.length pd) ∧ X.cell? ⟨g, og + j * 6 + 5, none⟩ = some (.int .i64 x5) ∧ X.cell? ⟨h, oh + j * 6, none⟩ = some (.int .i64 x0) ∧ X.cell? ⟨h, oh + j * 6 + 1, none⟩ = some (.int .i64 x1) ∧ X.cell? ⟨h, oh + j * 6 + 2, none⟩ = some (.int .i64 x2) ∧ X.cell? ⟨h, oh + j * 6 + 3, none⟩ = some (.slice qa r3.length qc) ∧ X.cell? ⟨h, oh + j * 6 + 4, none⟩ = some (.slice qb r4.length qd) ∧ X.cell? ⟨h, oh + j * 6 + 5, none⟩ = some (.int .i64 x5) ∧ Below w.heap.size w X) (first | (with_reducible assumption) | (with_reducible exact E0.out)) (first | (go_at_call 46; refine (K2.out _ (Below.refl _ _) (by assumption)).mono ?_; rintro e v1 ⟨rfl, hS⟩))
      all_goals
        have HS := Lib.hid hS.2.2.2.2.2.2.2.2.2.2.2.2
        clear hS
        go_wp2_with fail
        go_roundw
        case rel => exact ⟨j + 1, by omega, by go_num, HS.out⟩
        case measure => simp [intOf]; omega
    · have hlt' : ¬ ((j : Int) < (xs.length : Int)) := by omega
      go_wp2_with fail
      go_ret
      exact ⟨rfl, hb2⟩

end Go.Proofs.Ytfhlpgngeiploab
namespace Go.Proofs.Ytfhlpgngeiploab
open Go.RowKit

abbrev ShelfT : TypeId := 29
/-- Of one From and Id. -/
def OneV (x y : HeldV) : Prop := x.1 = y.1 ∧ x.2.1 = y.2.1
theorem take_next {α : Type} {l : List α} {j : Nat} (h : j < l.length) : l.take (j + 1) = l.take j ++ [l[j]] := by rw [List.take_add_one, List.getElem?_eq_getElem h]; rfl
set_option maxRecDepth 100000 in
set_option maxHeartbeats 3200000 in
theorem specShelfOk_bool (v : Value) (l : List HeldV) (c : Bool) (hc : c = true ↔ ShelfP l) (hl : l.length ≤ 100000000) (w : World) (h : layHeldS.rd w [v] l) :
    Calls Try.prog 7 #[.agg #[v]] w fun e w' => e = .returned (.bool c) ∧ Below w.heap.size w w' := by
  obtain ⟨a, p, rfl⟩ := rows_form h
  have A0 := Lib.hid (VarA.new w ShelfT #[.slice a l.length p])
  have B0 := Lib.hid ((Below.refl w.heap.size w).alloc (Nat.le_refl _) (.cells #[.slice a l.length p] ShelfT))
  have HR := Lib.hid h
  have HF : Hid (¬ ShelfP l → c = false) := Lib.hid (fun h => Bool.eq_false_iff.2 fun e => h (hc.1 e))
  have HC := Lib.hid hc
  have KH := Lib.hid specHeld_bool
  clear h hc
  go_enter Try.func7, Try.ntmps7
  go_upto_region 1 with fail
  generalize w.alloc (.cells #[.slice a l.length p] ShelfT) = Y at *
  go_wp2_with fail
  go_loopw [3] (fun i wr => ∃ j : Nat, j ≤ l.length ∧ i = .int .i64 j ∧ Hid (∀ x ∈ l.take j, HeldP x) ∧ Hid ((l.take j).Pairwise (fun x y => ¬ OneV x y)) ∧ Hid (VarA w.heap.size ShelfT #[.slice a l.length p] wr) ∧ Hid (Below w.heap.size w wr)) (fun i _ => l.length - (intOf i).toNat)
  case atStart => exact ⟨0, Nat.zero_le _, rfl, Lib.hid (by simp), Lib.hid (by simp), A0, B0⟩
  case round =>
    obtain ⟨j, hj, rfl, T1, T2, A1, B1⟩ := hrel
    have c0 : wr.cell? ⟨w.heap.size, 0, none⟩ = some (.slice a l.length p) := A1.out.cell 0
    by_cases hlt : j < l.length
    rotate_left
    · have hlt' : ¬ ((j : Int) < (l.length : Int)) := by omega
      obtain rfl : j = l.length := by omega
      rw [List.take_length] at T1 T2
      by_cases h3 : l.length ≤ 3
      · have k3 : decide ((l.length : Int) ≤ 3) = true := decide_eq_true (by omega)
        have k3' : (l.length : Int) ≤ 3 := by omega
        obtain rfl : c = true := HC.out.2 ⟨h3, T1.out, T2.out⟩
        go_wp2_with fail
        go_ret
        exact ⟨rfl, B1.out⟩
      · have k3 : decide ((l.length : Int) ≤ 3) = false := decide_eq_false (by omega)
        have k3' : ¬ ((l.length : Int) ≤ 3) := by omega
        obtain rfl := HF.out (fun h => h3 h.1)
        go_wp2_with fail
        go_ret
        exact ⟨rfl, B1.out⟩
    have hlt' : (j : Int) < (l.length : Int) := by omega
    obtain ⟨g, og, cs, rfl, hg, hr, hcl⟩ := rows_elem (layHeldS.below HR.out B1.out) j _ (List.getElem?_eq_getElem hlt)
    have HTN := Lib.hid (take_next hlt)
    have HLJ := Lib.hid (List.getElem_mem hlt)
    have HXJ := Lib.hid (List.getElem?_eq_getElem hlt)
    obtain ⟨y, hy⟩ : ∃ y, l[j] = y := ⟨_, rfl⟩
    rw [hy] at hr HTN HLJ HXJ
    clear hy
    obtain ⟨v3, v4, rfl, h3, h4⟩ := layHeld_rd.1 hr
    obtain ⟨y0, y1, y2, r3, r4, y5⟩ := y
    simp only at h3 h4
    have d0 : wr.cell? ⟨g, og + j * 6, none⟩ = some (.int .i64 y0) := hcl 0 _ rfl
    have d1 : wr.cell? ⟨g, og + j * 6 + 1, none⟩ = some (.int .i64 y1) := hcl 1 _ rfl
    have d2 : wr.cell? ⟨g, og + j * 6 + 2, none⟩ = some (.int .i64 y2) := hcl 2 _ rfl
    have d3 : wr.cell? ⟨g, og + j * 6 + 3, none⟩ = some v3 := hcl 3 _ rfl
    have d4 : wr.cell? ⟨g, og + j * 6 + 4, none⟩ = some v4 := hcl 4 _ rfl
    have d5 : wr.cell? ⟨g, og + j * 6 + 5, none⟩ = some (.int .i64 y5) := hcl 5 _ rfl
    obtain ⟨b, hb⟩ : ∃ b : Bool, b = true ↔ HeldP (y0, y1, y2, r3, r4, y5) := by
      by_cases h : HeldP (y0, y1, y2, r3, r4, y5)
      · exact ⟨true, ⟨fun _ => h, fun _ => rfl⟩⟩
      · exact ⟨false, ⟨fun e => (by cases e), fun e => absurd e h⟩⟩
    obtain ⟨pa, pc, rfl⟩ := rows_form h3
    obtain ⟨pb, pd, rfl⟩ := rows_form h4
    have K := Lib.hid (KH.out y0 y1 y2 _ r3 _ r4 y5 b hb wr h3 h4)
    have HB := Lib.hid hb
    clear hb h3 h4 hr hcl
    go_wp2_with fail
    refine K.out.mono ?_
    rintro e w1 ⟨rfl, hbw⟩
    have A2 := Lib.hid (A1.out.next hbw)
    have B2 := Lib.hid (B1.out.trans (hbw.mono B1.out.size))
    clear hbw K d0 d1 d2 d3 d4 d5 c0 A1 B1
    cases b with
    | false =>
      obtain rfl := HF.out (fun h => absurd (HB.out.2 (h.2.1 _ HLJ.out)) (by decide))
      go_wp2_with fail
      go_ret
      exact ⟨rfl, B2.out⟩
    | true =>
      have HY := Lib.hid (HB.out.1 rfl)
      clear HB
      go_wp2_with fail
      generalize wr = wo at *
      go_loopw [4] (fun i wr => ∃ k : Nat, k ≤ j ∧ i = .int .i64 k ∧ Hid (∀ x ∈ l.take k, ¬ OneV x (y0, y1, y2, r3, r4, y5)) ∧ Hid (VarA w.heap.size ShelfT #[.slice (some ⟨g, og, none⟩) l.length p] wr) ∧ Hid (Below w.heap.size w wr)) (fun i _ => j - (intOf i).toNat)
      case atStart => exact ⟨0, Nat.zero_le _, rfl, Lib.hid (by simp), A2, B2⟩
      case round =>
        obtain ⟨k, hk, rfl, T3, A3, B3⟩ := hrel
        have c0 : wr.cell? ⟨w.heap.size, 0, none⟩ = some (.slice (some ⟨g, og, none⟩) l.length p) := A3.out.cell 0
        by_cases hkj : k < j
        rotate_left
        · have hkj' : ¬ ((k : Int) < (j : Int)) := by omega
          obtain rfl : k = j := by omega
          go_wp2_with fail
          go_roundw
          case rel => exact ⟨k + 1, by omega, by go_num, Lib.hid (by
            rw [HTN.out]
            intro x hx
            rcases List.mem_append.1 hx with hx | hx
            · exact T1.out x hx
            · rw [List.mem_singleton.1 hx]; exact HY.out), Lib.hid (by
            rw [HTN.out]
            exact List.pairwise_append.2 ⟨T2.out, List.pairwise_singleton _ _, fun x hx z hz => by rw [List.mem_singleton.1 hz]; exact T3.out x hx⟩), A3, B3⟩
          case measure => simp [intOf]; omega
        have hkj' : (k : Int) < (j : Int) := by omega
        have hkl : k < l.length := by omega
        have hkl' : (k : Int) < (l.length : Int) := by omega
        obtain ⟨g', og', cs', hga, hg', hr', hcl'⟩ := rows_elem (layHeldS.below HR.out B3.out) k _ (List.getElem?_eq_getElem hkl)
        obtain ⟨g2', og2', cs2', hga2, hg2', hr2', hcl2'⟩ := rows_elem (layHeldS.below HR.out B3.out) j _ HXJ.out
        simp only [Option.some.injEq, Addr.mk.injEq, and_true] at hga hga2
        obtain ⟨rfl, rfl⟩ := hga
        obtain ⟨rfl, rfl⟩ := hga2
        have HTK := Lib.hid (take_next hkl)
        have HLK := Lib.hid (List.getElem_mem hkl)
        have HXK := Lib.hid (List.getElem?_eq_getElem hkl)
        obtain ⟨x, hx⟩ : ∃ x, l[k] = x := ⟨_, rfl⟩
        rw [hx] at hr' HTK HLK HXK
        clear hx
        obtain ⟨v3', v4', rfl, h3', h4'⟩ := layHeld_rd.1 hr'
        obtain ⟨v3'', v4'', rfl, h3'', h4''⟩ := layHeld_rd.1 hr2'
        obtain ⟨x0, x1, x2, q3, q4, x5⟩ := x
        have d0 : wr.cell? ⟨g, og + k * 6, none⟩ = some (.int .i64 x0) := hcl' 0 _ rfl
        have d1 : wr.cell? ⟨g, og + k * 6 + 1, none⟩ = some (.int .i64 x1) := hcl' 1 _ rfl
        have e0 : wr.cell? ⟨g, og + j * 6, none⟩ = some (.int .i64 y0) := hcl2' 0 _ rfl
        have e1 : wr.cell? ⟨g, og + j * 6 + 1, none⟩ = some (.int .i64 y1) := hcl2' 1 _ rfl
        clear h3' h4' h3'' h4'' hr' hr2' hcl' hcl2' hg' hg2'
        have HNO : Hid (¬ OneV (x0, x1, x2, q3, q4, x5) (y0, y1, y2, r3, r4, y5) → ∀ x ∈ l.take (k + 1), ¬ OneV x (y0, y1, y2, r3, r4, y5)) := Lib.hid (fun hn x hx => by
          rw [HTK.out] at hx
          rcases List.mem_append.1 hx with hx | hx
          · exact T3.out x hx
          · rw [List.mem_singleton.1 hx]; exact hn)
        by_cases h0 : x0 = y0
        rotate_left
        · have q0 : (x0 == y0) = false := by rw [beq_eq_false_iff_ne]; exact h0
          have HN2 := Lib.hid (HNO.out (fun h => h0 h.1))
          clear h0
          go_wp2_with fail
          go_quiet (fail)
          go_wp2_with fail
          go_roundw
          case rel => exact ⟨k + 1, by omega, by go_num, HN2, Lib.hid (A3.out.next (below_drewN (Below.refl _ _) _)), Lib.hid (below_drewN B3.out _)⟩
          case measure => simp [intOf]; omega
        have q0 : (x0 == y0) = true := by rw [beq_iff_eq]; exact h0
        by_cases h1 : x1 = y1
        rotate_left
        · have q1 : (x1 == y1) = false := by rw [beq_eq_false_iff_ne]; exact h1
          have HN2 := Lib.hid (HNO.out (fun h => h1 h.2))
          clear h0 h1
          go_wp2_with fail
          go_quiet (fail)
          go_wp2_with fail
          go_roundw
          case rel => exact ⟨k + 1, by omega, by go_num, HN2, Lib.hid (A3.out.next (below_drewN (Below.refl _ _) _)), Lib.hid (below_drewN B3.out _)⟩
          case measure => simp [intOf]; omega
        have q1 : (x1 == y1) = true := by rw [beq_iff_eq]; exact h1
        obtain rfl := HF.out (fun h => (List.pairwise_iff_getElem.1 h.2.2) k j hkl hlt hkj (by
          have a1 := HXK.out
          have a2 := HXJ.out
          rw [List.getElem?_eq_getElem hkl] at a1
          rw [List.getElem?_eq_getElem hlt] at a2
          rw [Option.some.inj a1, Option.some.inj a2]
          exact ⟨h0, h1⟩))
        clear h0 h1
        go_wp2_with fail
        go_quiet (fail)
        go_wp2_with fail
        go_ret
        exact ⟨rfl, below_drewN B3.out _⟩

end Go.Proofs.Ytfhlpgngeiploab
