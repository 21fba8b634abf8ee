/-
  The exact law on OptionsOk, out of one answer that both give.
  The given OptionsOk.
-/
import Derived.Test.YtmgdhlodifkemasJ12
import Derived.Test.YtmgdhlodifkemasJ11
import Derived.Deep.CutBlock
namespace Go.Proofs.Ytmgdhlodifkemas
open Go.RowKit

set_option maxRecDepth 100000 in
set_option maxHeartbeats 3200000 in
/-- The exact law on OptionsOk, out of one answer that both give. -/
theorem lawOptionsOkF (n0 : Int) (v1 : Value) (p1 : List ByteArray) (n2 : Bool) (k1 : RoomString p1) (b : Bool)
    (hI : FitsOptions p1 → ∀ (v1 : Value) (X : World), layStringS.rd X [v1] p1 → Calls Try.prog 17 #[.agg #[.int .i64 n0, v1, .bool n2]] X fun e Y => e = .returned (.bool b) ∧ Below X.heap.size X Y)
    (hS : FitsOptions p1 → ∀ (v1 : Value) (X : World), layStringS.rd X [v1] p1 → Calls Try.prog 15 #[.agg #[.int .i64 n0, v1, .bool n2]] X fun e Y => e = .returned (.bool b) ∧ Below X.heap.size X Y)
    (w : World) (ha : layStringS.rd w [v1] p1) :
    Calls Try.prog 5 #[.agg #[.int .i64 n0, v1, .bool n2]] w fun e w' => e = .returned (.bool true) ∧ Below w.heap.size w w' := by
  obtain ⟨b1, bc1, rfl⟩ := rows_form ha
  have HA := Lib.hid ha
  have HI := Lib.hid hI
  have HS := Lib.hid hS
  have A0 := Lib.hid (VarA.new w LOpT #[.int .i64 n0, .slice b1 p1.length bc1, .bool n2])
  have B0 := Lib.hid ((Below.refl w.heap.size w).alloc (Nat.le_refl _) (.cells #[.int .i64 n0, .slice b1 p1.length bc1, .bool n2] LOpT))
  clear hI hS ha
  go_enter Try.func5, Try.ntmps5
  go_upto_region 1 with fail
  generalize w.alloc (.cells #[.int .i64 n0, .slice b1 p1.length bc1, .bool n2] LOpT) = Y0 at *
  have c0 : Y0.cell? ⟨w.heap.size, 0, none⟩ = some (.int .i64 n0) := A0.out.cell 0
  have c1 : Y0.cell? ⟨w.heap.size, 1, none⟩ = some (.slice b1 p1.length bc1) := A0.out.cell 1
  have c2 : Y0.cell? ⟨w.heap.size, 2, none⟩ = some (.bool n2) := A0.out.cell 2
  have KZ := Lib.hid (szOptions_any n0 _ p1 n2 1048576 (by omega) (by omega) k1 Y0 (layStringS.below HA.out B0.out))
  go_wp2_with fail
  refine (KZ.out).mono ?_
  rintro e Y1 ⟨⟨z, rfl, hz⟩, hb1⟩
  have A1 := Lib.hid (A0.out.next hb1)
  have B1 := Lib.hid (B0.out.trans (hb1.mono B0.out.size))
  clear hb1 A0 B0 KZ c0 c1 c2
  rcases hz with rfl | ⟨hz0, hz1, hfit⟩
  · go_wp2_with fail
    go_ret
    exact ⟨rfl, B1.out⟩
  have hz2 : ¬ (z < 0) := by omega
  have HF := Lib.hid hfit
  have TT : Hid (∀ X, Below w.heap.size w X → Calls Try.prog 16 #[.agg #[.int .i64 n0, .slice b1 p1.length bc1, .bool n2]] X fun e Y => ∃ v, e = .returned v ∧ OptVal n0 p1 n2 X v Y) := Lib.hid (fun X hX => opt_to (layStringS.below HA.out hX) HF.out.1)
  have hbb : (b != b) = false := by cases b <;> rfl
  clear hfit hz0 hz1
  have c0 : Y1.cell? ⟨w.heap.size, 0, none⟩ = some (.int .i64 n0) := A1.out.cell 0
  have c1 : Y1.cell? ⟨w.heap.size, 1, none⟩ = some (.slice b1 p1.length bc1) := A1.out.cell 1
  have c2 : Y1.cell? ⟨w.heap.size, 2, none⟩ = some (.bool n2) := A1.out.cell 2
  go_wp2_with fail
  refine (TT.out Y1 B1.out).mono ?_
  rintro e Y2 ⟨v, rfl, hv⟩
  obtain ⟨t1, tc1, f1, rfl, hd2, hco2, hb2⟩ := hv
  have A2 := Lib.hid (A1.out.next hb2)
  have B2 := Lib.hid (B1.out.trans (hb2.mono B1.out.size))
  have KS := Lib.hid (HS.out HF.out _ Y2 (layStringS.read hco2))
  clear hco2 hb2 A1 B1 hd2 c0 c1 c2 f1
  go_wp2_with fail
  refine (KS.out).mono ?_
  rintro e V4 ⟨rfl, hb3⟩
  have A4 := Lib.hid (A2.out.next hb3)
  have B4 := Lib.hid (B2.out.trans (hb3.mono B2.out.size))
  clear hb3 A2 B2 KS Y2
  go_upto_region 6 with fail
  have c0 : V4.cell? ⟨w.heap.size, 0, none⟩ = some (.int .i64 n0) := A4.out.cell 0
  have c1 : V4.cell? ⟨w.heap.size, 1, none⟩ = some (.slice b1 p1.length bc1) := A4.out.cell 1
  have c2 : V4.cell? ⟨w.heap.size, 2, none⟩ = some (.bool n2) := A4.out.cell 2
  go_wp2_with fail
  refine (TT.out V4 B4.out).mono ?_
  rintro e Y5 ⟨v, rfl, hv⟩
  obtain ⟨x1, xc1, f1, rfl, hd5, hco5, hb5⟩ := hv
  have hal : Below Y5.heap.size Y5 (Y5.alloc (.cells #[.int .i64 n0, .slice x1 p1.length xc1, .bool n2] OptionsT)) := (Below.refl _ _).alloc (Nat.le_refl _) _
  have X6 := Lib.hid (OV.new (z := n0) (p := n2) hd5 hco5)
  have A6 := Lib.hid ((A4.out.next hb5).next hal)
  have B6 := Lib.hid ((B4.out.trans (hb5.mono B4.out.size)).trans (hal.mono (B4.out.trans (hb5.mono B4.out.size)).size))
  clear hco5 hb5 hal hd5 A4 B4 c0 c1 c2 f1
  go_upto_region 7 with fail
  generalize Y5.alloc (.cells #[.int .i64 n0, .slice x1 p1.length xc1, .bool n2] OptionsT) = V6 at *
  generalize V4.heap.size = lx at *
  generalize Y5.heap.size = gx at *
  clear V4 Y5
  have c0 : V6.cell? ⟨gx, 0, none⟩ = some (.int .i64 n0) := X6.out.var.cell 0
  have c1 : V6.cell? ⟨gx, 1, none⟩ = some (.slice x1 p1.length xc1) := X6.out.var.cell 1
  have c2 : V6.cell? ⟨gx, 2, none⟩ = some (.bool n2) := X6.out.var.cell 2
  have KI := Lib.hid (HI.out HF.out _ V6 X6.out.rd)
  go_wp2_with fail
  refine (KI.out).mono ?_
  rintro e V9 ⟨rfl, hb7⟩
  have qnext : ∀ X Y, (VarA w.heap.size LOpT #[.int .i64 n0, .slice b1 p1.length bc1, .bool n2] X ∧ OV lx gx gx n0 (.slice x1 p1.length xc1) p1 n2 X ∧ Below w.heap.size w X) → Below X.heap.size X Y → (VarA w.heap.size LOpT #[.int .i64 n0, .slice b1 p1.length bc1, .bool n2] Y ∧ OV lx gx gx n0 (.slice x1 p1.length xc1) p1 n2 Y ∧ Below w.heap.size w Y) := fun X Y h hb => ⟨h.1.next hb, h.2.1.next hb, h.2.2.trans (hb.mono h.2.2.size)⟩
  have Q9 := Lib.hid (qnext _ _ ⟨A6.out, X6.out, B6.out⟩ hb7)
  clear hb7 A6 B6 X6 KI V6 c0 c1 c2
  have S0 : Hid (∀ X, (VarA w.heap.size LOpT #[.int .i64 n0, .slice b1 p1.length bc1, .bool n2] X ∧ OV lx gx gx n0 (.slice x1 p1.length xc1) p1 n2 X ∧ Below w.heap.size w X) → (X.cell? ⟨gx, 0, none⟩ = some (.int .i64 n0) ∧ X.cell? ⟨gx, 1, none⟩ = some (.slice x1 p1.length xc1) ∧ X.cell? ⟨gx, 2, none⟩ = some (.bool n2) ∧ X.cell? ⟨w.heap.size, 0, none⟩ = some (.int .i64 n0) ∧ X.cell? ⟨w.heap.size, 1, none⟩ = some (.slice b1 p1.length bc1) ∧ X.cell? ⟨w.heap.size, 2, none⟩ = some (.bool n2) ∧ VarA w.heap.size LOpT #[.int .i64 n0, .slice b1 p1.length bc1, .bool n2] X ∧ OV lx gx gx n0 (.slice x1 p1.length xc1) p1 n2 X ∧ Below w.heap.size w X)) := Lib.hid (fun X h => ⟨h.2.1.var.cell 0, h.2.1.var.cell 1, h.2.1.var.cell 2, h.1.cell 0, h.1.cell 1, h.1.cell 2, h⟩)
  have S1 : Hid (V9.drew.cell? ⟨gx, 0, none⟩ = some (.int .i64 n0) ∧ V9.drew.cell? ⟨gx, 1, none⟩ = some (.slice x1 p1.length xc1) ∧ V9.drew.cell? ⟨gx, 2, none⟩ = some (.bool n2) ∧ V9.drew.cell? ⟨w.heap.size, 0, none⟩ = some (.int .i64 n0) ∧ V9.drew.cell? ⟨w.heap.size, 1, none⟩ = some (.slice b1 p1.length bc1) ∧ V9.drew.cell? ⟨w.heap.size, 2, none⟩ = some (.bool n2) ∧ VarA w.heap.size LOpT #[.int .i64 n0, .slice b1 p1.length bc1, .bool n2] V9.drew ∧ OV lx gx gx n0 (.slice x1 p1.length xc1) p1 n2 V9.drew ∧ Below w.heap.size w V9.drew) := Lib.hid (S0.out _ (qnext _ _ Q9.out ((Below.refl _ _).drew)))
  have KT : Hid (∀ X, (X.cell? ⟨gx, 0, none⟩ = some (.int .i64 n0) ∧ X.cell? ⟨gx, 1, none⟩ = some (.slice x1 p1.length xc1) ∧ X.cell? ⟨gx, 2, none⟩ = some (.bool n2) ∧ X.cell? ⟨w.heap.size, 0, none⟩ = some (.int .i64 n0) ∧ X.cell? ⟨w.heap.size, 1, none⟩ = some (.slice b1 p1.length bc1) ∧ X.cell? ⟨w.heap.size, 2, none⟩ = some (.bool n2) ∧ VarA w.heap.size LOpT #[.int .i64 n0, .slice b1 p1.length bc1, .bool n2] X ∧ OV lx gx gx n0 (.slice x1 p1.length xc1) p1 n2 X ∧ Below w.heap.size w X) → Calls Try.prog 16 #[.agg #[.int .i64 n0, .slice b1 p1.length bc1, .bool n2]] X fun e Y => ∃ (t1 : Option Addr) (tc1 : Nat), e = .returned (.agg #[.int .i64 n0, .slice t1 p1.length tc1, .bool n2]) ∧ layStringS.rd Y [.slice t1 p1.length tc1] p1 ∧ (Y.cell? ⟨gx, 0, none⟩ = some (.int .i64 n0) ∧ Y.cell? ⟨gx, 1, none⟩ = some (.slice x1 p1.length xc1) ∧ Y.cell? ⟨gx, 2, none⟩ = some (.bool n2) ∧ Y.cell? ⟨w.heap.size, 0, none⟩ = some (.int .i64 n0) ∧ Y.cell? ⟨w.heap.size, 1, none⟩ = some (.slice b1 p1.length bc1) ∧ Y.cell? ⟨w.heap.size, 2, none⟩ = some (.bool n2) ∧ VarA w.heap.size LOpT #[.int .i64 n0, .slice b1 p1.length bc1, .bool n2] Y ∧ OV lx gx gx n0 (.slice x1 p1.length xc1) p1 n2 Y ∧ Below w.heap.size w Y)) := Lib.hid (fun X hX => by
    have hq := hX.2.2.2.2.2.2
    refine (TT.out X hq.2.2).mono ?_
    rintro e Y ⟨v, rfl, hv⟩
    obtain ⟨t1, tc1, f1, rfl, hd, hco, hb⟩ := hv
    exact ⟨t1, tc1, rfl, layStringS.read hco, S0.out _ (qnext _ _ hq hb)⟩)
  have KE : Hid (∀ (y1 : Value) (X : World), (X.cell? ⟨gx, 0, none⟩ = some (.int .i64 n0) ∧ X.cell? ⟨gx, 1, none⟩ = some (.slice x1 p1.length xc1) ∧ X.cell? ⟨gx, 2, none⟩ = some (.bool n2) ∧ X.cell? ⟨w.heap.size, 0, none⟩ = some (.int .i64 n0) ∧ X.cell? ⟨w.heap.size, 1, none⟩ = some (.slice b1 p1.length bc1) ∧ X.cell? ⟨w.heap.size, 2, none⟩ = some (.bool n2) ∧ VarA w.heap.size LOpT #[.int .i64 n0, .slice b1 p1.length bc1, .bool n2] X ∧ OV lx gx gx n0 (.slice x1 p1.length xc1) p1 n2 X ∧ Below w.heap.size w X) → layStringS.rd X [y1] p1 → Calls Try.prog 18 #[.agg #[.int .i64 n0, .slice x1 p1.length xc1, .bool n2], .agg #[.int .i64 n0, y1, .bool n2]] X fun e Y => e = .returned (.bool true) ∧ (Y.cell? ⟨gx, 0, none⟩ = some (.int .i64 n0) ∧ Y.cell? ⟨gx, 1, none⟩ = some (.slice x1 p1.length xc1) ∧ Y.cell? ⟨gx, 2, none⟩ = some (.bool n2) ∧ Y.cell? ⟨w.heap.size, 0, none⟩ = some (.int .i64 n0) ∧ Y.cell? ⟨w.heap.size, 1, none⟩ = some (.slice b1 p1.length bc1) ∧ Y.cell? ⟨w.heap.size, 2, none⟩ = some (.bool n2) ∧ VarA w.heap.size LOpT #[.int .i64 n0, .slice b1 p1.length bc1, .bool n2] Y ∧ OV lx gx gx n0 (.slice x1 p1.length xc1) p1 n2 Y ∧ Below w.heap.size w Y)) := Lib.hid (fun y1 X hX hrd => by
    have hq := hX.2.2.2.2.2.2
    refine (opt_eq hq.2.1.rd hrd (by have := HF.out.1; omega)).mono ?_
    rintro e Y ⟨rfl, hb⟩
    exact ⟨rfl, S0.out _ (qnext _ _ hq hb)⟩)
  go_wp2_with fail
  go_region_held3 (fun X => X.cell? ⟨gx, 0, none⟩ = some (.int .i64 n0) ∧ X.cell? ⟨gx, 1, none⟩ = some (.slice x1 p1.length xc1) ∧ X.cell? ⟨gx, 2, none⟩ = some (.bool n2) ∧ X.cell? ⟨w.heap.size, 0, none⟩ = some (.int .i64 n0) ∧ X.cell? ⟨w.heap.size, 1, none⟩ = some (.slice b1 p1.length bc1) ∧ X.cell? ⟨w.heap.size, 2, none⟩ = some (.bool n2) ∧ VarA w.heap.size LOpT #[.int .i64 n0, .slice b1 p1.length bc1, .bool n2] X ∧ OV lx gx gx n0 (.slice x1 p1.length xc1) p1 n2 X ∧ Below w.heap.size w X) (first | (with_reducible assumption) | (with_reducible exact S1.out)) (first | (go_at_call 16; refine (KT.out _ (by assumption)).mono ?_; rintro e v1 ⟨t1, tc1, rfl, hrd, hS⟩) | (go_at_call 18; refine (KE.out _ _ (by assumption) hrd).mono ?_; rintro e v1 ⟨rfl, hS⟩))
  all_goals
    go_wp2_with fail
    go_ret
    exact ⟨rfl, (hS.2.2.2.2.2.2).2.2⟩

end Go.Proofs.Ytmgdhlodifkemas
namespace Go.Proofs.Ytmgdhlodifkemas
open Go.RowKit

set_option maxRecDepth 100000 in
set_option maxHeartbeats 3200000 in
theorem specOptionsOk_bool (z : Int) (v1 : Value) (ws : List ByteArray) (p : Bool) (b : Bool) (hb : b = true ↔ OptP z ws) (hl : ws.length ≤ 100000000) (hx : ∀ x ∈ ws, x.size ≤ 100000000) (w : World) (h : layStringS.rd w [v1] ws) :
    Calls Try.prog 15 #[.agg #[.int .i64 z, v1, .bool p]] w fun e w' => e = .returned (.bool b) ∧ Below w.heap.size w w' := by
  obtain ⟨ao, cp, rfl⟩ := rows_form h
  have hcap := rows_room h
  have HB := Lib.hid (hb.trans optP_iff)
  have HXS := Lib.hid hx
  have A0 := Lib.hid (VarA.new w OptionsT #[.int .i64 z, .slice ao ws.length cp, .bool p])
  have B0 := Lib.hid ((Below.refl w.heap.size w).alloc (Nat.le_refl _) (.cells #[.int .i64 z, .slice ao ws.length cp, .bool p] OptionsT))
  have HR := Lib.hid (layStringS.below h B0.out)
  clear hb h hx
  go_enter Try.func15, Try.ntmps15
  go_upto_region 1 with fail
  generalize w.alloc (.cells #[.int .i64 z, .slice ao ws.length cp, .bool p] OptionsT) = Y at *
  go_wp2_with fail
  go_loopw [3] (fun c wr => ∃ j : Nat, j ≤ ws.length ∧ c = .int .i64 j ∧ Hid (WaysTo ws j) ∧ VarA w.heap.size OptionsT #[.int .i64 z, .slice ao ws.length cp, .bool p] wr ∧ layStringS.rd wr [.slice ao ws.length cp] ws ∧ Below w.heap.size w wr) (fun c _ => ws.length - (intOf c).toNat)
  case atStart => exact ⟨0, Nat.zero_le _, rfl, fun i _ h => absurd h (by omega), A0.out, HR.out, B0.out⟩
  case round =>
    clear HR A0 B0
    obtain ⟨j, hj, rfl, HA, ha, hr0, hb0⟩ := hrel
    have A0 := Lib.hid ha
    have HR := Lib.hid hr0
    have B0 := Lib.hid hb0
    have c0 : wr.cell? ⟨w.heap.size, 0, none⟩ = some (.int .i64 z) := A0.out.cell 0
    have c1 : wr.cell? ⟨w.heap.size, 1, none⟩ = some (.slice ao ws.length cp) := A0.out.cell 1
    clear ha hr0 hb0
    by_cases hlt : j < ws.length
    · have hlt' : (j : Int) < (ws.length : Int) := by omega
      have hjc : (j : Int) ≤ (cp : Int) := by omega
      have HT := Lib.hid (rows_take HR.out j hj)
      have hs := HXS.out _ (List.getElem_mem hlt)
      have HX : Hid (¬ (WayP ws[j] ∧ ws[j] ∉ ws.take j) → b = false) := fun h => by
        cases b with
        | false => rfl
        | true => exact absurd ((HB.out.1 rfl).1 j hlt hlt) h
      have HNX : Hid (WayP ws[j] → ws[j] ∉ ws.take j → WaysTo ws (j + 1)) := fun h1 h2 => ways_next hlt HA.out h1 h2
      obtain ⟨g, off, cs, rfl, hg, hr, hc⟩ := rows_elem HR.out j _ (List.getElem?_eq_getElem hlt)
      have htl : (ws.take j).length = j := by rw [List.length_take]; omega
      generalize ws[j] = x at hr HX HNX hs
      rw [layString_rd] at hr
      subst hr
      have c3 : wr.cell? ⟨g, off + j, none⟩ = some (.string x) := (by have h9 := hc 0 _ rfl; rw [str_k] at h9; exact h9)
      clear hc
      by_cases hway : WayP x
      · have K1 := Lib.hid (specWay_any x true ⟨fun _ => hway, fun _ => rfl⟩ hs)
        by_cases hin : x ∈ ws.take j
        · obtain rfl := HX.out (fun h => h.2 hin)
          have K2 : Hid (∀ n : Nat, Calls Try.prog 22 #[.slice (some ⟨g, off, none⟩) j cp, .string x] (wr.drewN n) fun e w' => e = .returned (.bool true) ∧ w' = wr.drewN n) := Lib.hid (fun n => specHas_any (ws.take j) x _ true ⟨fun _ => hin, fun _ => rfl⟩ (by omega) _ (layStringS.below HT.out (below_drewN (Below.refl _ _) n)))
          clear hin hway htl
          go_wp2_with fail
          go_quiet (first | (go_at_call 21; exact Calls.quiet_of_same (K1.out _)) | (go_at_call 22; exact Calls.quiet_of_same (K2.out _)))
          go_wp2_with fail
          go_ret
          exact ⟨rfl, below_drewN B0.out _⟩
        · have HJ := Lib.hid (HNX.out hway hin)
          have K2 : Hid (∀ n : Nat, Calls Try.prog 22 #[.slice (some ⟨g, off, none⟩) j cp, .string x] (wr.drewN n) fun e w' => e = .returned (.bool false) ∧ w' = wr.drewN n) := Lib.hid (fun n => specHas_any (ws.take j) x _ false ⟨fun e => (by cases e), fun e => absurd e hin⟩ (by omega) _ (layStringS.below HT.out (below_drewN (Below.refl _ _) n)))
          clear hin hway htl
          go_wp2_with fail
          go_quiet (first | (go_at_call 21; exact Calls.quiet_of_same (K1.out _)) | (go_at_call 22; exact Calls.quiet_of_same (K2.out _)))
          go_wp2_with fail
          go_roundw
          case rel => exact ⟨j + 1, by omega, by go_num, HJ, A0.out.next (below_drewN (Below.refl _ _) _), layStringS.below HR.out (below_drewN (Below.refl _ _) _), below_drewN B0.out _⟩
          case measure => simp [intOf]; omega
      · obtain rfl := HX.out (fun h => hway h.1)
        have K1 := Lib.hid (specWay_any x false ⟨fun e => (by cases e), fun e => absurd e hway⟩ hs)
        clear hway htl
        go_wp2_with fail
        go_quiet (first | (go_at_call 21; exact Calls.quiet_of_same (K1.out _)))
        go_wp2_with fail
        go_ret
        exact ⟨rfl, below_drewN B0.out _⟩
    · have hlt' : ¬ ((j : Int) < (ws.length : Int)) := by omega
      have hje : j = ws.length := by omega
      have HALL := HA.out
      rw [hje] at HALL
      replace HA := Lib.hid HALL
      clear HALL
      by_cases hz : 20 ≤ z ∧ z ≤ 60
      · have K := Lib.hid (inRange_yes z 20 60 hz.1 hz.2 wr)
        go_wp2_with fail
        refine (K.out).mono ?_
        rintro e Z9 ⟨rfl, hw⟩
        rw [hw]
        clear hw K Z9
        by_cases hn : 1 ≤ (ws.length : Int) ∧ (ws.length : Int) ≤ 4
        · obtain rfl : b = true := HB.out.2 ⟨HA.out, hz, hn⟩
          have K := Lib.hid (inRange_yes (ws.length : Int) 1 4 hn.1 hn.2 wr)
          go_wp2_with fail
          refine (K.out).mono ?_
          rintro e Z9 ⟨rfl, hw⟩
          rw [hw]
          clear hw K Z9
          go_wp2_with fail
          go_ret
          exact ⟨rfl, B0.out⟩
        · obtain rfl : b = false := by
            cases b with
            | false => rfl
            | true => exact absurd (HB.out.1 rfl).2.2 hn
          have K := Lib.hid (inRange_no (ws.length : Int) 1 4 (by omega) wr)
          go_wp2_with fail
          refine (K.out).mono ?_
          rintro e Z9 ⟨rfl, hw⟩
          rw [hw]
          clear hw K Z9
          go_wp2_with fail
          go_ret
          exact ⟨rfl, B0.out⟩
      · obtain rfl : b = false := by
          cases b with
          | false => rfl
          | true => exact absurd (HB.out.1 rfl).2.1 hz
        have K := Lib.hid (inRange_no z 20 60 (by omega) wr)
        go_wp2_with fail
        refine (K.out).mono ?_
        rintro e Z9 ⟨rfl, hw⟩
        rw [hw]
        clear hw K Z9
        go_wp2_with fail
        go_ret
        exact ⟨rfl, B0.out⟩

end Go.Proofs.Ytmgdhlodifkemas
