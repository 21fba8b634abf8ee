/-
  The exact law on ChanOk, out of one answer that both give.
-/
import Derived.Test.YthljmjbmmgligarJ19
namespace Go.Proofs.Ythljmjbmmgligar
open Go.RowKit

set_option maxRecDepth 100000 in
set_option maxHeartbeats 6400000 in
/-- The exact law on ChanOk, out of one answer that both give. -/
theorem lawChanOkF (n0 n1 n2 n5 : Int) (v3 v4 v6 v7 v8 : Value) (p3 : List ByteArray) (p4 : List PendingD) (p6 : List EarlyD) (p7 : List Int) (p8 : List ByteArray) (k3 : RoomString p3) (k4 : RoomPending p4) (k6 : RoomEarly p6) (k7 : RoomInt p7) (k8 : RoomString p8) (b : Bool)
    (hI : FitsChan p3 p4 p6 p7 p8 → ∀ (v3 v4 v6 v7 v8 : Value) (X : World), ChanRd v3 v4 v6 v7 v8 p3 p4 p6 p7 p8 X → Calls Try.prog 16 #[.agg #[.int .i64 n0, .int .i64 n1, .int .i64 n2, v3, v4, .int .i64 n5, v6, v7, v8]] X fun e Y => e = .returned (.bool b) ∧ Below X.heap.size X Y)
    (hS : FitsChan p3 p4 p6 p7 p8 → ∀ (v3 v4 v6 v7 v8 : Value) (X : World), ChanRd v3 v4 v6 v7 v8 p3 p4 p6 p7 p8 X → Calls Try.prog 14 #[.agg #[.int .i64 n0, .int .i64 n1, .int .i64 n2, v3, v4, .int .i64 n5, v6, v7, v8]] X fun e Y => e = .returned (.bool b) ∧ Below X.heap.size X Y)
    (w : World) (ha : ChanRd v3 v4 v6 v7 v8 p3 p4 p6 p7 p8 w) :
    Calls Try.prog 4 #[.agg #[.int .i64 n0, .int .i64 n1, .int .i64 n2, v3, v4, .int .i64 n5, v6, v7, v8]] w fun e w' => e = .returned (.bool true) ∧ Below w.heap.size w w' := by
  obtain ⟨b3, bc3, rfl⟩ := rows_form ha.h3
  obtain ⟨b4, bc4, rfl⟩ := rows_form ha.h4
  obtain ⟨b6, bc6, rfl⟩ := rows_form ha.h6
  obtain ⟨b7, bc7, rfl⟩ := rows_form ha.h7
  obtain ⟨b8, bc8, rfl⟩ := rows_form ha.h8
  have HA := Lib.hid ha
  have HI := Lib.hid hI
  have HS := Lib.hid hS
  have A0 := Lib.hid (VarA.new w 36 #[.int .i64 n0, .int .i64 n1, .int .i64 n2, .slice b3 p3.length bc3, .slice b4 p4.length bc4, .int .i64 n5, .slice b6 p6.length bc6, .slice b7 p7.length bc7, .slice b8 p8.length bc8])
  have B0 := Lib.hid ((Below.refl w.heap.size w).alloc (Nat.le_refl _) (.cells #[.int .i64 n0, .int .i64 n1, .int .i64 n2, .slice b3 p3.length bc3, .slice b4 p4.length bc4, .int .i64 n5, .slice b6 p6.length bc6, .slice b7 p7.length bc7, .slice b8 p8.length bc8] 36))
  clear hI hS ha
  go_enter Try.func4, Try.ntmps4
  go_upto_region 1 with fail
  generalize w.alloc (.cells #[.int .i64 n0, .int .i64 n1, .int .i64 n2, .slice b3 p3.length bc3, .slice b4 p4.length bc4, .int .i64 n5, .slice b6 p6.length bc6, .slice b7 p7.length bc7, .slice b8 p8.length bc8] 36) = Y0 at *
  have c0 : Y0.cell? ⟨w.heap.size, 0, none⟩ = some (.int .i64 n0) := A0.out.cell 0
  have c1 : Y0.cell? ⟨w.heap.size, 1, none⟩ = some (.int .i64 n1) := A0.out.cell 1
  have c2 : Y0.cell? ⟨w.heap.size, 2, none⟩ = some (.int .i64 n2) := A0.out.cell 2
  have c3 : Y0.cell? ⟨w.heap.size, 3, none⟩ = some (.slice b3 p3.length bc3) := A0.out.cell 3
  have c4 : Y0.cell? ⟨w.heap.size, 4, none⟩ = some (.slice b4 p4.length bc4) := A0.out.cell 4
  have c5 : Y0.cell? ⟨w.heap.size, 5, none⟩ = some (.int .i64 n5) := A0.out.cell 5
  have c6 : Y0.cell? ⟨w.heap.size, 6, none⟩ = some (.slice b6 p6.length bc6) := A0.out.cell 6
  have c7 : Y0.cell? ⟨w.heap.size, 7, none⟩ = some (.slice b7 p7.length bc7) := A0.out.cell 7
  have c8 : Y0.cell? ⟨w.heap.size, 8, none⟩ = some (.slice b8 p8.length bc8) := A0.out.cell 8
  have HA0 := Lib.hid (HA.out.next B0.out)
  have KZ := Lib.hid (szChan_any n0 n1 n2 _ p3 _ p4 n5 _ p6 _ p7 _ p8 1048576 (by omega) (by omega) k3 k4 k6 k7 k8 Y0 HA0.out.h3 HA0.out.h4 HA0.out.h6 HA0.out.h7 HA0.out.h8)
  go_wp2_with fail
  refine (KZ.out).mono ?_
  rintro e Y1 ⟨⟨z, rfl, hz⟩, hb1⟩
  have A1 := Lib.hid (A0.out.next hb1)
  have B1 := Lib.hid (B0.out.trans (hb1.mono B0.out.size))
  clear hb1 A0 B0 KZ HA0 c0 c1 c2 c3 c4 c5 c6 c7 c8
  rcases hz with rfl | ⟨hz0, hz1, hfit⟩
  · go_wp2_with fail
    go_ret
    exact ⟨rfl, B1.out⟩
  have hz2 : ¬ (z < 0) := by omega
  have HF := Lib.hid hfit
  have HFP := Lib.hid ((fits_few hfit).mono (show 1048576 ≤ 10000000 by omega))
  have TT : Hid (∀ X, Below w.heap.size w X → Calls Try.prog 15 #[.agg #[.int .i64 n0, .int .i64 n1, .int .i64 n2, .slice b3 p3.length bc3, .slice b4 p4.length bc4, .int .i64 n5, .slice b6 p6.length bc6, .slice b7 p7.length bc7, .slice b8 p8.length bc8]] X fun e Y => ∃ v, e = .returned v ∧ ChanVal X n0 n1 n2 n5 p3 p4 p6 p7 p8 v Y) := Lib.hid (fun X hX => chan_to (HA.out.next hX) (fits_few HF.out))
  have hbb : (b != b) = false := by cases b <;> rfl
  clear hfit hz0 hz1
  have c0 : Y1.cell? ⟨w.heap.size, 0, none⟩ = some (.int .i64 n0) := A1.out.cell 0
  have c1 : Y1.cell? ⟨w.heap.size, 1, none⟩ = some (.int .i64 n1) := A1.out.cell 1
  have c2 : Y1.cell? ⟨w.heap.size, 2, none⟩ = some (.int .i64 n2) := A1.out.cell 2
  have c3 : Y1.cell? ⟨w.heap.size, 3, none⟩ = some (.slice b3 p3.length bc3) := A1.out.cell 3
  have c4 : Y1.cell? ⟨w.heap.size, 4, none⟩ = some (.slice b4 p4.length bc4) := A1.out.cell 4
  have c5 : Y1.cell? ⟨w.heap.size, 5, none⟩ = some (.int .i64 n5) := A1.out.cell 5
  have c6 : Y1.cell? ⟨w.heap.size, 6, none⟩ = some (.slice b6 p6.length bc6) := A1.out.cell 6
  have c7 : Y1.cell? ⟨w.heap.size, 7, none⟩ = some (.slice b7 p7.length bc7) := A1.out.cell 7
  have c8 : Y1.cell? ⟨w.heap.size, 8, none⟩ = some (.slice b8 p8.length bc8) := A1.out.cell 8
  go_wp2_with fail
  refine (TT.out Y1 B1.out).mono ?_
  rintro e Y2 ⟨v, rfl, hv⟩
  obtain ⟨t3, tc3, t4, tc4, t6, tc6, t7, tc7, t8, tc8, f3, f4, f6, f7, f8, rfl, hco2, hb2⟩ := hv
  have A2 := Lib.hid (A1.out.next hb2)
  have B2 := Lib.hid (B1.out.trans (hb2.mono B1.out.size))
  have KS := Lib.hid (HS.out HF.out _ _ _ _ _ Y2 hco2.rd)
  clear hco2 hb2 A1 B1 c0 c1 c2 c3 c4 c5 c6 c7 c8 f3 f4 f6 f7 f8
  go_wp2_with fail
  refine (KS.out).mono ?_
  rintro e V4 ⟨rfl, hb3⟩
  have A4 := Lib.hid (A2.out.next hb3)
  have B4 := Lib.hid (B2.out.trans (hb3.mono B2.out.size))
  clear hb3 A2 B2 KS Y2
  go_upto_region 6 with fail
  have c0 : V4.cell? ⟨w.heap.size, 0, none⟩ = some (.int .i64 n0) := A4.out.cell 0
  have c1 : V4.cell? ⟨w.heap.size, 1, none⟩ = some (.int .i64 n1) := A4.out.cell 1
  have c2 : V4.cell? ⟨w.heap.size, 2, none⟩ = some (.int .i64 n2) := A4.out.cell 2
  have c3 : V4.cell? ⟨w.heap.size, 3, none⟩ = some (.slice b3 p3.length bc3) := A4.out.cell 3
  have c4 : V4.cell? ⟨w.heap.size, 4, none⟩ = some (.slice b4 p4.length bc4) := A4.out.cell 4
  have c5 : V4.cell? ⟨w.heap.size, 5, none⟩ = some (.int .i64 n5) := A4.out.cell 5
  have c6 : V4.cell? ⟨w.heap.size, 6, none⟩ = some (.slice b6 p6.length bc6) := A4.out.cell 6
  have c7 : V4.cell? ⟨w.heap.size, 7, none⟩ = some (.slice b7 p7.length bc7) := A4.out.cell 7
  have c8 : V4.cell? ⟨w.heap.size, 8, none⟩ = some (.slice b8 p8.length bc8) := A4.out.cell 8
  go_wp2_with fail
  refine (TT.out V4 B4.out).mono ?_
  rintro e Y5 ⟨v, rfl, hv⟩
  obtain ⟨x3, xc3, x4, xc4, x6, xc6, x7, xc7, x8, xc8, f3, f4, f6, f7, f8, rfl, hco5, hb5⟩ := hv
  have hal : Below Y5.heap.size Y5 (Y5.alloc (.cells #[.int .i64 n0, .int .i64 n1, .int .i64 n2, .slice x3 p3.length xc3, .slice x4 p4.length xc4, .int .i64 n5, .slice x6 p6.length xc6, .slice x7 p7.length xc7, .slice x8 p8.length xc8] ChanT)) := (Below.refl _ _).alloc (Nat.le_refl _) _
  have X6 := Lib.hid (CV.new (m0 := n0) (m1 := n1) (m2 := n2) (m5 := n5) hco5)
  have A6 := Lib.hid ((A4.out.next hb5).next hal)
  have B6 := Lib.hid ((B4.out.trans (hb5.mono B4.out.size)).trans (hal.mono (B4.out.trans (hb5.mono B4.out.size)).size))
  clear hco5 hb5 hal A4 B4 c0 c1 c2 c3 c4 c5 c6 c7 c8 f3 f4 f6 f7 f8
  go_upto_region 7 with fail
  generalize Y5.alloc (.cells #[.int .i64 n0, .int .i64 n1, .int .i64 n2, .slice x3 p3.length xc3, .slice x4 p4.length xc4, .int .i64 n5, .slice x6 p6.length xc6, .slice x7 p7.length xc7, .slice x8 p8.length xc8] ChanT) = V6 at *
  generalize V4.heap.size = lx at *
  generalize Y5.heap.size = gx at *
  clear V4 Y5
  have c0 : V6.cell? ⟨gx, 0, none⟩ = some (.int .i64 n0) := X6.out.var.cell 0
  have c1 : V6.cell? ⟨gx, 1, none⟩ = some (.int .i64 n1) := X6.out.var.cell 1
  have c2 : V6.cell? ⟨gx, 2, none⟩ = some (.int .i64 n2) := X6.out.var.cell 2
  have c3 : V6.cell? ⟨gx, 3, none⟩ = some (.slice x3 p3.length xc3) := X6.out.var.cell 3
  have c4 : V6.cell? ⟨gx, 4, none⟩ = some (.slice x4 p4.length xc4) := X6.out.var.cell 4
  have c5 : V6.cell? ⟨gx, 5, none⟩ = some (.int .i64 n5) := X6.out.var.cell 5
  have c6 : V6.cell? ⟨gx, 6, none⟩ = some (.slice x6 p6.length xc6) := X6.out.var.cell 6
  have c7 : V6.cell? ⟨gx, 7, none⟩ = some (.slice x7 p7.length xc7) := X6.out.var.cell 7
  have c8 : V6.cell? ⟨gx, 8, none⟩ = some (.slice x8 p8.length xc8) := X6.out.var.cell 8
  have KI := Lib.hid (HI.out HF.out _ _ _ _ _ V6 X6.out.rd)
  go_wp2_with fail
  refine (KI.out).mono ?_
  rintro e V9 ⟨rfl, hb7⟩
  have qnext : ∀ X Y, (VarA w.heap.size 36 #[.int .i64 n0, .int .i64 n1, .int .i64 n2, .slice b3 p3.length bc3, .slice b4 p4.length bc4, .int .i64 n5, .slice b6 p6.length bc6, .slice b7 p7.length bc7, .slice b8 p8.length bc8] X ∧ CV lx gx gx n0 n1 n2 n5 (.slice x3 p3.length xc3) (.slice x4 p4.length xc4) (.slice x6 p6.length xc6) (.slice x7 p7.length xc7) (.slice x8 p8.length xc8) p3 p4 p6 p7 p8 X ∧ Below w.heap.size w X) → Below X.heap.size X Y → (VarA w.heap.size 36 #[.int .i64 n0, .int .i64 n1, .int .i64 n2, .slice b3 p3.length bc3, .slice b4 p4.length bc4, .int .i64 n5, .slice b6 p6.length bc6, .slice b7 p7.length bc7, .slice b8 p8.length bc8] Y ∧ CV lx gx gx n0 n1 n2 n5 (.slice x3 p3.length xc3) (.slice x4 p4.length xc4) (.slice x6 p6.length xc6) (.slice x7 p7.length xc7) (.slice x8 p8.length xc8) p3 p4 p6 p7 p8 Y ∧ Below w.heap.size w Y) := fun X Y h hb => ⟨h.1.next hb, h.2.1.next hb, h.2.2.trans (hb.mono h.2.2.size)⟩
  have Q9 := Lib.hid (qnext _ _ ⟨A6.out, X6.out, B6.out⟩ hb7)
  clear hb7 A6 B6 X6 KI V6 c0 c1 c2 c3 c4 c5 c6 c7 c8
  have S0 : Hid (∀ X, (VarA w.heap.size 36 #[.int .i64 n0, .int .i64 n1, .int .i64 n2, .slice b3 p3.length bc3, .slice b4 p4.length bc4, .int .i64 n5, .slice b6 p6.length bc6, .slice b7 p7.length bc7, .slice b8 p8.length bc8] X ∧ CV lx gx gx n0 n1 n2 n5 (.slice x3 p3.length xc3) (.slice x4 p4.length xc4) (.slice x6 p6.length xc6) (.slice x7 p7.length xc7) (.slice x8 p8.length xc8) p3 p4 p6 p7 p8 X ∧ Below w.heap.size w X) → (X.cell? ⟨gx, 0, none⟩ = some (.int .i64 n0) ∧ X.cell? ⟨gx, 1, none⟩ = some (.int .i64 n1) ∧ X.cell? ⟨gx, 2, none⟩ = some (.int .i64 n2) ∧ X.cell? ⟨gx, 3, none⟩ = some (.slice x3 p3.length xc3) ∧ X.cell? ⟨gx, 4, none⟩ = some (.slice x4 p4.length xc4) ∧ X.cell? ⟨gx, 5, none⟩ = some (.int .i64 n5) ∧ X.cell? ⟨gx, 6, none⟩ = some (.slice x6 p6.length xc6) ∧ X.cell? ⟨gx, 7, none⟩ = some (.slice x7 p7.length xc7) ∧ X.cell? ⟨gx, 8, none⟩ = some (.slice x8 p8.length xc8) ∧ X.cell? ⟨w.heap.size, 0, none⟩ = some (.int .i64 n0) ∧ X.cell? ⟨w.heap.size, 1, none⟩ = some (.int .i64 n1) ∧ X.cell? ⟨w.heap.size, 2, none⟩ = some (.int .i64 n2) ∧ X.cell? ⟨w.heap.size, 3, none⟩ = some (.slice b3 p3.length bc3) ∧ X.cell? ⟨w.heap.size, 4, none⟩ = some (.slice b4 p4.length bc4) ∧ X.cell? ⟨w.heap.size, 5, none⟩ = some (.int .i64 n5) ∧ X.cell? ⟨w.heap.size, 6, none⟩ = some (.slice b6 p6.length bc6) ∧ X.cell? ⟨w.heap.size, 7, none⟩ = some (.slice b7 p7.length bc7) ∧ X.cell? ⟨w.heap.size, 8, none⟩ = some (.slice b8 p8.length bc8) ∧ VarA w.heap.size 36 #[.int .i64 n0, .int .i64 n1, .int .i64 n2, .slice b3 p3.length bc3, .slice b4 p4.length bc4, .int .i64 n5, .slice b6 p6.length bc6, .slice b7 p7.length bc7, .slice b8 p8.length bc8] X ∧ CV lx gx gx n0 n1 n2 n5 (.slice x3 p3.length xc3) (.slice x4 p4.length xc4) (.slice x6 p6.length xc6) (.slice x7 p7.length xc7) (.slice x8 p8.length xc8) p3 p4 p6 p7 p8 X ∧ Below w.heap.size w X)) := Lib.hid (fun X h => ⟨h.2.1.var.cell 0, h.2.1.var.cell 1, h.2.1.var.cell 2, h.2.1.var.cell 3, h.2.1.var.cell 4, h.2.1.var.cell 5, h.2.1.var.cell 6, h.2.1.var.cell 7, h.2.1.var.cell 8, h.1.cell 0, h.1.cell 1, h.1.cell 2, h.1.cell 3, h.1.cell 4, h.1.cell 5, h.1.cell 6, h.1.cell 7, h.1.cell 8, h⟩)
  have S1 : Hid (V9.drew.cell? ⟨gx, 0, none⟩ = some (.int .i64 n0) ∧ V9.drew.cell? ⟨gx, 1, none⟩ = some (.int .i64 n1) ∧ V9.drew.cell? ⟨gx, 2, none⟩ = some (.int .i64 n2) ∧ V9.drew.cell? ⟨gx, 3, none⟩ = some (.slice x3 p3.length xc3) ∧ V9.drew.cell? ⟨gx, 4, none⟩ = some (.slice x4 p4.length xc4) ∧ V9.drew.cell? ⟨gx, 5, none⟩ = some (.int .i64 n5) ∧ V9.drew.cell? ⟨gx, 6, none⟩ = some (.slice x6 p6.length xc6) ∧ V9.drew.cell? ⟨gx, 7, none⟩ = some (.slice x7 p7.length xc7) ∧ V9.drew.cell? ⟨gx, 8, none⟩ = some (.slice x8 p8.length xc8) ∧ V9.drew.cell? ⟨w.heap.size, 0, none⟩ = some (.int .i64 n0) ∧ V9.drew.cell? ⟨w.heap.size, 1, none⟩ = some (.int .i64 n1) ∧ V9.drew.cell? ⟨w.heap.size, 2, none⟩ = some (.int .i64 n2) ∧ V9.drew.cell? ⟨w.heap.size, 3, none⟩ = some (.slice b3 p3.length bc3) ∧ V9.drew.cell? ⟨w.heap.size, 4, none⟩ = some (.slice b4 p4.length bc4) ∧ V9.drew.cell? ⟨w.heap.size, 5, none⟩ = some (.int .i64 n5) ∧ V9.drew.cell? ⟨w.heap.size, 6, none⟩ = some (.slice b6 p6.length bc6) ∧ V9.drew.cell? ⟨w.heap.size, 7, none⟩ = some (.slice b7 p7.length bc7) ∧ V9.drew.cell? ⟨w.heap.size, 8, none⟩ = some (.slice b8 p8.length bc8) ∧ VarA w.heap.size 36 #[.int .i64 n0, .int .i64 n1, .int .i64 n2, .slice b3 p3.length bc3, .slice b4 p4.length bc4, .int .i64 n5, .slice b6 p6.length bc6, .slice b7 p7.length bc7, .slice b8 p8.length bc8] V9.drew ∧ CV lx gx gx n0 n1 n2 n5 (.slice x3 p3.length xc3) (.slice x4 p4.length xc4) (.slice x6 p6.length xc6) (.slice x7 p7.length xc7) (.slice x8 p8.length xc8) p3 p4 p6 p7 p8 V9.drew ∧ Below w.heap.size w V9.drew) := Lib.hid (S0.out _ (qnext _ _ Q9.out ((Below.refl _ _).drew)))
  have KT : Hid (∀ X, (X.cell? ⟨gx, 0, none⟩ = some (.int .i64 n0) ∧ X.cell? ⟨gx, 1, none⟩ = some (.int .i64 n1) ∧ X.cell? ⟨gx, 2, none⟩ = some (.int .i64 n2) ∧ X.cell? ⟨gx, 3, none⟩ = some (.slice x3 p3.length xc3) ∧ X.cell? ⟨gx, 4, none⟩ = some (.slice x4 p4.length xc4) ∧ X.cell? ⟨gx, 5, none⟩ = some (.int .i64 n5) ∧ X.cell? ⟨gx, 6, none⟩ = some (.slice x6 p6.length xc6) ∧ X.cell? ⟨gx, 7, none⟩ = some (.slice x7 p7.length xc7) ∧ X.cell? ⟨gx, 8, none⟩ = some (.slice x8 p8.length xc8) ∧ X.cell? ⟨w.heap.size, 0, none⟩ = some (.int .i64 n0) ∧ X.cell? ⟨w.heap.size, 1, none⟩ = some (.int .i64 n1) ∧ X.cell? ⟨w.heap.size, 2, none⟩ = some (.int .i64 n2) ∧ X.cell? ⟨w.heap.size, 3, none⟩ = some (.slice b3 p3.length bc3) ∧ X.cell? ⟨w.heap.size, 4, none⟩ = some (.slice b4 p4.length bc4) ∧ X.cell? ⟨w.heap.size, 5, none⟩ = some (.int .i64 n5) ∧ X.cell? ⟨w.heap.size, 6, none⟩ = some (.slice b6 p6.length bc6) ∧ X.cell? ⟨w.heap.size, 7, none⟩ = some (.slice b7 p7.length bc7) ∧ X.cell? ⟨w.heap.size, 8, none⟩ = some (.slice b8 p8.length bc8) ∧ VarA w.heap.size 36 #[.int .i64 n0, .int .i64 n1, .int .i64 n2, .slice b3 p3.length bc3, .slice b4 p4.length bc4, .int .i64 n5, .slice b6 p6.length bc6, .slice b7 p7.length bc7, .slice b8 p8.length bc8] X ∧ CV lx gx gx n0 n1 n2 n5 (.slice x3 p3.length xc3) (.slice x4 p4.length xc4) (.slice x6 p6.length xc6) (.slice x7 p7.length xc7) (.slice x8 p8.length xc8) p3 p4 p6 p7 p8 X ∧ Below w.heap.size w X) → Calls Try.prog 15 #[.agg #[.int .i64 n0, .int .i64 n1, .int .i64 n2, .slice b3 p3.length bc3, .slice b4 p4.length bc4, .int .i64 n5, .slice b6 p6.length bc6, .slice b7 p7.length bc7, .slice b8 p8.length bc8]] X fun e Y => ∃ (t3 : Option Addr) (tc3 : Nat) (t4 : Option Addr) (tc4 : Nat) (t6 : Option Addr) (tc6 : Nat) (t7 : Option Addr) (tc7 : Nat) (t8 : Option Addr) (tc8 : Nat), e = .returned (.agg #[.int .i64 n0, .int .i64 n1, .int .i64 n2, .slice t3 p3.length tc3, .slice t4 p4.length tc4, .int .i64 n5, .slice t6 p6.length tc6, .slice t7 p7.length tc7, .slice t8 p8.length tc8]) ∧ ChanRd (.slice t3 p3.length tc3) (.slice t4 p4.length tc4) (.slice t6 p6.length tc6) (.slice t7 p7.length tc7) (.slice t8 p8.length tc8) p3 p4 p6 p7 p8 Y ∧ (Y.cell? ⟨gx, 0, none⟩ = some (.int .i64 n0) ∧ Y.cell? ⟨gx, 1, none⟩ = some (.int .i64 n1) ∧ Y.cell? ⟨gx, 2, none⟩ = some (.int .i64 n2) ∧ Y.cell? ⟨gx, 3, none⟩ = some (.slice x3 p3.length xc3) ∧ Y.cell? ⟨gx, 4, none⟩ = some (.slice x4 p4.length xc4) ∧ Y.cell? ⟨gx, 5, none⟩ = some (.int .i64 n5) ∧ Y.cell? ⟨gx, 6, none⟩ = some (.slice x6 p6.length xc6) ∧ Y.cell? ⟨gx, 7, none⟩ = some (.slice x7 p7.length xc7) ∧ Y.cell? ⟨gx, 8, none⟩ = some (.slice x8 p8.length xc8) ∧ Y.cell? ⟨w.heap.size, 0, none⟩ = some (.int .i64 n0) ∧ Y.cell? ⟨w.heap.size, 1, none⟩ = some (.int .i64 n1) ∧ Y.cell? ⟨w.heap.size, 2, none⟩ = some (.int .i64 n2) ∧ Y.cell? ⟨w.heap.size, 3, none⟩ = some (.slice b3 p3.length bc3) ∧ Y.cell? ⟨w.heap.size, 4, none⟩ = some (.slice b4 p4.length bc4) ∧ Y.cell? ⟨w.heap.size, 5, none⟩ = some (.int .i64 n5) ∧ Y.cell? ⟨w.heap.size, 6, none⟩ = some (.slice b6 p6.length bc6) ∧ Y.cell? ⟨w.heap.size, 7, none⟩ = some (.slice b7 p7.length bc7) ∧ Y.cell? ⟨w.heap.size, 8, none⟩ = some (.slice b8 p8.length bc8) ∧ VarA w.heap.size 36 #[.int .i64 n0, .int .i64 n1, .int .i64 n2, .slice b3 p3.length bc3, .slice b4 p4.length bc4, .int .i64 n5, .slice b6 p6.length bc6, .slice b7 p7.length bc7, .slice b8 p8.length bc8] Y ∧ CV lx gx gx n0 n1 n2 n5 (.slice x3 p3.length xc3) (.slice x4 p4.length xc4) (.slice x6 p6.length xc6) (.slice x7 p7.length xc7) (.slice x8 p8.length xc8) p3 p4 p6 p7 p8 Y ∧ Below w.heap.size w Y)) := Lib.hid (fun X hX => by
    have hq := hX.2.2.2.2.2.2.2.2.2.2.2.2.2.2.2.2.2.2
    refine (TT.out X hq.2.2).mono ?_
    rintro e Y ⟨v, rfl, hv⟩
    obtain ⟨t3, tc3, t4, tc4, t6, tc6, t7, tc7, t8, tc8, f3, f4, f6, f7, f8, rfl, hco, hb⟩ := hv
    exact ⟨t3, tc3, t4, tc4, t6, tc6, t7, tc7, t8, tc8, rfl, hco.rd, S0.out _ (qnext _ _ hq hb)⟩)
  have KE : Hid (∀ (y3 y4 y6 y7 y8 : Value) (X : World), (X.cell? ⟨gx, 0, none⟩ = some (.int .i64 n0) ∧ X.cell? ⟨gx, 1, none⟩ = some (.int .i64 n1) ∧ X.cell? ⟨gx, 2, none⟩ = some (.int .i64 n2) ∧ X.cell? ⟨gx, 3, none⟩ = some (.slice x3 p3.length xc3) ∧ X.cell? ⟨gx, 4, none⟩ = some (.slice x4 p4.length xc4) ∧ X.cell? ⟨gx, 5, none⟩ = some (.int .i64 n5) ∧ X.cell? ⟨gx, 6, none⟩ = some (.slice x6 p6.length xc6) ∧ X.cell? ⟨gx, 7, none⟩ = some (.slice x7 p7.length xc7) ∧ X.cell? ⟨gx, 8, none⟩ = some (.slice x8 p8.length xc8) ∧ X.cell? ⟨w.heap.size, 0, none⟩ = some (.int .i64 n0) ∧ X.cell? ⟨w.heap.size, 1, none⟩ = some (.int .i64 n1) ∧ X.cell? ⟨w.heap.size, 2, none⟩ = some (.int .i64 n2) ∧ X.cell? ⟨w.heap.size, 3, none⟩ = some (.slice b3 p3.length bc3) ∧ X.cell? ⟨w.heap.size, 4, none⟩ = some (.slice b4 p4.length bc4) ∧ X.cell? ⟨w.heap.size, 5, none⟩ = some (.int .i64 n5) ∧ X.cell? ⟨w.heap.size, 6, none⟩ = some (.slice b6 p6.length bc6) ∧ X.cell? ⟨w.heap.size, 7, none⟩ = some (.slice b7 p7.length bc7) ∧ X.cell? ⟨w.heap.size, 8, none⟩ = some (.slice b8 p8.length bc8) ∧ VarA w.heap.size 36 #[.int .i64 n0, .int .i64 n1, .int .i64 n2, .slice b3 p3.length bc3, .slice b4 p4.length bc4, .int .i64 n5, .slice b6 p6.length bc6, .slice b7 p7.length bc7, .slice b8 p8.length bc8] X ∧ CV lx gx gx n0 n1 n2 n5 (.slice x3 p3.length xc3) (.slice x4 p4.length xc4) (.slice x6 p6.length xc6) (.slice x7 p7.length xc7) (.slice x8 p8.length xc8) p3 p4 p6 p7 p8 X ∧ Below w.heap.size w X) → ChanRd y3 y4 y6 y7 y8 p3 p4 p6 p7 p8 X → Calls Try.prog 10 #[.agg #[.int .i64 n0, .int .i64 n1, .int .i64 n2, .slice x3 p3.length xc3, .slice x4 p4.length xc4, .int .i64 n5, .slice x6 p6.length xc6, .slice x7 p7.length xc7, .slice x8 p8.length xc8], .agg #[.int .i64 n0, .int .i64 n1, .int .i64 n2, y3, y4, .int .i64 n5, y6, y7, y8]] X fun e Y => e = .returned (.bool true) ∧ (Y.cell? ⟨gx, 0, none⟩ = some (.int .i64 n0) ∧ Y.cell? ⟨gx, 1, none⟩ = some (.int .i64 n1) ∧ Y.cell? ⟨gx, 2, none⟩ = some (.int .i64 n2) ∧ Y.cell? ⟨gx, 3, none⟩ = some (.slice x3 p3.length xc3) ∧ Y.cell? ⟨gx, 4, none⟩ = some (.slice x4 p4.length xc4) ∧ Y.cell? ⟨gx, 5, none⟩ = some (.int .i64 n5) ∧ Y.cell? ⟨gx, 6, none⟩ = some (.slice x6 p6.length xc6) ∧ Y.cell? ⟨gx, 7, none⟩ = some (.slice x7 p7.length xc7) ∧ Y.cell? ⟨gx, 8, none⟩ = some (.slice x8 p8.length xc8) ∧ Y.cell? ⟨w.heap.size, 0, none⟩ = some (.int .i64 n0) ∧ Y.cell? ⟨w.heap.size, 1, none⟩ = some (.int .i64 n1) ∧ Y.cell? ⟨w.heap.size, 2, none⟩ = some (.int .i64 n2) ∧ Y.cell? ⟨w.heap.size, 3, none⟩ = some (.slice b3 p3.length bc3) ∧ Y.cell? ⟨w.heap.size, 4, none⟩ = some (.slice b4 p4.length bc4) ∧ Y.cell? ⟨w.heap.size, 5, none⟩ = some (.int .i64 n5) ∧ Y.cell? ⟨w.heap.size, 6, none⟩ = some (.slice b6 p6.length bc6) ∧ Y.cell? ⟨w.heap.size, 7, none⟩ = some (.slice b7 p7.length bc7) ∧ Y.cell? ⟨w.heap.size, 8, none⟩ = some (.slice b8 p8.length bc8) ∧ VarA w.heap.size 36 #[.int .i64 n0, .int .i64 n1, .int .i64 n2, .slice b3 p3.length bc3, .slice b4 p4.length bc4, .int .i64 n5, .slice b6 p6.length bc6, .slice b7 p7.length bc7, .slice b8 p8.length bc8] Y ∧ CV lx gx gx n0 n1 n2 n5 (.slice x3 p3.length xc3) (.slice x4 p4.length xc4) (.slice x6 p6.length xc6) (.slice x7 p7.length xc7) (.slice x8 p8.length xc8) p3 p4 p6 p7 p8 Y ∧ Below w.heap.size w Y)) := Lib.hid (fun y3 y4 y6 y7 y8 X hX hrd => by
    have hq := hX.2.2.2.2.2.2.2.2.2.2.2.2.2.2.2.2.2.2
    refine (chan_eq hq.2.1.rd hrd HFP.out).mono ?_
    rintro e Y ⟨rfl, hb⟩
    exact ⟨rfl, S0.out _ (qnext _ _ hq hb)⟩)
  go_wp2_with fail
  go_region_held3 (fun X => X.cell? ⟨gx, 0, none⟩ = some (.int .i64 n0) ∧ X.cell? ⟨gx, 1, none⟩ = some (.int .i64 n1) ∧ X.cell? ⟨gx, 2, none⟩ = some (.int .i64 n2) ∧ X.cell? ⟨gx, 3, none⟩ = some (.slice x3 p3.length xc3) ∧ X.cell? ⟨gx, 4, none⟩ = some (.slice x4 p4.length xc4) ∧ X.cell? ⟨gx, 5, none⟩ = some (.int .i64 n5) ∧ X.cell? ⟨gx, 6, none⟩ = some (.slice x6 p6.length xc6) ∧ X.cell? ⟨gx, 7, none⟩ = some (.slice x7 p7.length xc7) ∧ X.cell? ⟨gx, 8, none⟩ = some (.slice x8 p8.length xc8) ∧ X.cell? ⟨w.heap.size, 0, none⟩ = some (.int .i64 n0) ∧ X.cell? ⟨w.heap.size, 1, none⟩ = some (.int .i64 n1) ∧ X.cell? ⟨w.heap.size, 2, none⟩ = some (.int .i64 n2) ∧ X.cell? ⟨w.heap.size, 3, none⟩ = some (.slice b3 p3.length bc3) ∧ X.cell? ⟨w.heap.size, 4, none⟩ = some (.slice b4 p4.length bc4) ∧ X.cell? ⟨w.heap.size, 5, none⟩ = some (.int .i64 n5) ∧ X.cell? ⟨w.heap.size, 6, none⟩ = some (.slice b6 p6.length bc6) ∧ X.cell? ⟨w.heap.size, 7, none⟩ = some (.slice b7 p7.length bc7) ∧ X.cell? ⟨w.heap.size, 8, none⟩ = some (.slice b8 p8.length bc8) ∧ VarA w.heap.size 36 #[.int .i64 n0, .int .i64 n1, .int .i64 n2, .slice b3 p3.length bc3, .slice b4 p4.length bc4, .int .i64 n5, .slice b6 p6.length bc6, .slice b7 p7.length bc7, .slice b8 p8.length bc8] X ∧ CV lx gx gx n0 n1 n2 n5 (.slice x3 p3.length xc3) (.slice x4 p4.length xc4) (.slice x6 p6.length xc6) (.slice x7 p7.length xc7) (.slice x8 p8.length xc8) p3 p4 p6 p7 p8 X ∧ Below w.heap.size w X) (first | (with_reducible assumption) | (with_reducible exact S1.out)) (first | (go_at_call 15; refine (KT.out _ (by assumption)).mono ?_; rintro e v1 ⟨t3, tc3, t4, tc4, t6, tc6, t7, tc7, t8, tc8, rfl, hrd, hS⟩) | (go_at_call 10; refine (KE.out _ _ _ _ _ _ (by assumption) hrd).mono ?_; rintro e v1 ⟨rfl, hS⟩))
  all_goals
    go_wp2_with fail
    go_ret
    exact ⟨rfl, (hS.2.2.2.2.2.2.2.2.2.2.2.2.2.2.2.2.2.2).2.2⟩

end Go.Proofs.Ythljmjbmmgligar
