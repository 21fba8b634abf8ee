/-
  The exact law on Push, out of one answer that both give.
-/
import Derived.Test.YthljmjbmmgligarJ19
namespace Go.Proofs.Ythljmjbmmgligar
open Go.RowKit

set_option maxRecDepth 100000 in
set_option maxHeartbeats 12800000 in
/-- The exact law on Push, out of one answer that both give. -/
theorem lawPushF (n0 n1 n2 n5 : Int) (v3 v4 v6 v7 v8 : Value) (p3 : List ByteArray) (p4 : List PendingD) (p6 : List EarlyD) (p7 : List Int) (p8 : List ByteArray) (t : ByteArray) (ht : t.size ≤ 9223372036854775807) (k3 : RoomString p3) (k4 : RoomPending p4) (k6 : RoomEarly p6) (k7 : RoomInt p7) (k8 : RoomString p8) (m0 m1 m2 m5 : Int) (r3 : List ByteArray) (r4 : List PendingD) (r6 : List EarlyD) (r7 : List Int) (r8 : List ByteArray) (b : Bool) (hr : FitsChan p3 p4 p6 p7 p8 → Few5 10000000 r3 r4 r6 r7 r8)
    (hI : FitsChan p3 p4 p6 p7 p8 → t.size ≤ 1048576 → ∀ (v3 v4 v6 v7 v8 : Value) (X : World), ChanRd v3 v4 v6 v7 v8 p3 p4 p6 p7 p8 X → Calls Try.prog 18 #[.agg #[.int .i64 n0, .int .i64 n1, .int .i64 n2, v3, v4, .int .i64 n5, v6, v7, v8], .string t] X fun e Y => ∃ v, e = .returned (.tuple #[v, .bool b]) ∧ ChanVal X m0 m1 m2 m5 r3 r4 r6 r7 r8 v Y)
    (hS : FitsChan p3 p4 p6 p7 p8 → t.size ≤ 1048576 → ∀ (v3 v4 v6 v7 v8 : Value) (X : World), ChanRd v3 v4 v6 v7 v8 p3 p4 p6 p7 p8 X → Calls Try.prog 17 #[.agg #[.int .i64 n0, .int .i64 n1, .int .i64 n2, v3, v4, .int .i64 n5, v6, v7, v8], .string t] X fun e Y => ∃ v, e = .returned (.tuple #[v, .bool b]) ∧ ChanVal X m0 m1 m2 m5 r3 r4 r6 r7 r8 v Y)
    (w : World) (ha : ChanRd v3 v4 v6 v7 v8 p3 p4 p6 p7 p8 w) :
    Calls Try.prog 5 #[.agg #[.int .i64 n0, .int .i64 n1, .int .i64 n2, v3, v4, .int .i64 n5, v6, v7, v8], .string t] w fun e w' => e = .returned (.bool true) ∧ Below w.heap.size w w' := by
  obtain ⟨b3, bc3, rfl⟩ := rows_form ha.h3
  obtain ⟨b4, bc4, rfl⟩ := rows_form ha.h4
  obtain ⟨b6, bc6, rfl⟩ := rows_form ha.h6
  obtain ⟨b7, bc7, rfl⟩ := rows_form ha.h7
  obtain ⟨b8, bc8, rfl⟩ := rows_form ha.h8
  have HA := Lib.hid ha
  have HI := Lib.hid hI
  have HS := Lib.hid hS
  have A0 := Lib.hid (VarA.new w 36 #[.int .i64 n0, .int .i64 n1, .int .i64 n2, .slice b3 p3.length bc3, .slice b4 p4.length bc4, .int .i64 n5, .slice b6 p6.length bc6, .slice b7 p7.length bc7, .slice b8 p8.length bc8])
  have B0 := Lib.hid ((Below.refl w.heap.size w).alloc (Nat.le_refl _) (.cells #[.int .i64 n0, .int .i64 n1, .int .i64 n2, .slice b3 p3.length bc3, .slice b4 p4.length bc4, .int .i64 n5, .slice b6 p6.length bc6, .slice b7 p7.length bc7, .slice b8 p8.length bc8] 36))
  have hw0 : w.heap.size < (w.alloc (.cells #[.int .i64 n0, .int .i64 n1, .int .i64 n2, .slice b3 p3.length bc3, .slice b4 p4.length bc4, .int .i64 n5, .slice b6 p6.length bc6, .slice b7 p7.length bc7, .slice b8 p8.length bc8] 36)).heap.size := by simp
  clear hI hS ha
  go_enter Try.func5, Try.ntmps5
  go_upto_region 1 with fail
  generalize w.alloc (.cells #[.int .i64 n0, .int .i64 n1, .int .i64 n2, .slice b3 p3.length bc3, .slice b4 p4.length bc4, .int .i64 n5, .slice b6 p6.length bc6, .slice b7 p7.length bc7, .slice b8 p8.length bc8] 36) = Y0 at *
  have c0 : Y0.cell? ⟨w.heap.size, 0, none⟩ = some (.int .i64 n0) := A0.out.cell 0
  have c1 : Y0.cell? ⟨w.heap.size, 1, none⟩ = some (.int .i64 n1) := A0.out.cell 1
  have c2 : Y0.cell? ⟨w.heap.size, 2, none⟩ = some (.int .i64 n2) := A0.out.cell 2
  have c3 : Y0.cell? ⟨w.heap.size, 3, none⟩ = some (.slice b3 p3.length bc3) := A0.out.cell 3
  have c4 : Y0.cell? ⟨w.heap.size, 4, none⟩ = some (.slice b4 p4.length bc4) := A0.out.cell 4
  have c5 : Y0.cell? ⟨w.heap.size, 5, none⟩ = some (.int .i64 n5) := A0.out.cell 5
  have c6 : Y0.cell? ⟨w.heap.size, 6, none⟩ = some (.slice b6 p6.length bc6) := A0.out.cell 6
  have c7 : Y0.cell? ⟨w.heap.size, 7, none⟩ = some (.slice b7 p7.length bc7) := A0.out.cell 7
  have c8 : Y0.cell? ⟨w.heap.size, 8, none⟩ = some (.slice b8 p8.length bc8) := A0.out.cell 8
  by_cases hbig : t.size ≤ 1048576
  case neg =>
    have hbi : (1048576 : Int) < (t.size : Int) := by omega
    go_wp2_with fail
    go_ret
    exact ⟨rfl, B0.out⟩
  have hbi : ¬ ((1048576 : Int) < (t.size : Int)) := by omega
  have HA0 := Lib.hid (HA.out.next B0.out)
  have KZ := Lib.hid (szChan_any n0 n1 n2 _ p3 _ p4 n5 _ p6 _ p7 _ p8 1048576 (by omega) (by omega) k3 k4 k6 k7 k8 Y0 HA0.out.h3 HA0.out.h4 HA0.out.h6 HA0.out.h7 HA0.out.h8)
  go_wp2_with fail
  refine (KZ.out).mono ?_
  rintro e Y1 ⟨⟨z, rfl, hz⟩, hb1⟩
  have A1 := Lib.hid (A0.out.next hb1)
  have B1 := Lib.hid (B0.out.trans (hb1.mono B0.out.size))
  have hw1 : w.heap.size < Y1.heap.size := Nat.lt_of_lt_of_le hw0 hb1.size
  clear hb1 A0 B0 KZ HA0 hw0 c0 c1 c2 c3 c4 c5 c6 c7 c8
  rcases hz with rfl | ⟨hz0, hz1, hfit⟩
  · go_wp2_with fail
    go_ret
    exact ⟨rfl, B1.out⟩
  have hz2 : ¬ (z < 0) := by omega
  have HF := Lib.hid hfit
  have HFP := Lib.hid ((fits_few hfit).mono (show 1048576 ≤ 10000000 by omega))
  have HFR := Lib.hid (hr hfit)
  have TT : Hid (∀ X, Below w.heap.size w X → Calls Try.prog 15 #[.agg #[.int .i64 n0, .int .i64 n1, .int .i64 n2, .slice b3 p3.length bc3, .slice b4 p4.length bc4, .int .i64 n5, .slice b6 p6.length bc6, .slice b7 p7.length bc7, .slice b8 p8.length bc8]] X fun e Y => ∃ v, e = .returned v ∧ ChanVal X n0 n1 n2 n5 p3 p4 p6 p7 p8 v Y) := Lib.hid (fun X hX => chan_to (HA.out.next hX) (fits_few HF.out))
  have hbb : (b != b) = false := by cases b <;> rfl
  clear hfit hr hz0 hz1
  have c0 : Y1.cell? ⟨w.heap.size, 0, none⟩ = some (.int .i64 n0) := A1.out.cell 0
  have c1 : Y1.cell? ⟨w.heap.size, 1, none⟩ = some (.int .i64 n1) := A1.out.cell 1
  have c2 : Y1.cell? ⟨w.heap.size, 2, none⟩ = some (.int .i64 n2) := A1.out.cell 2
  have c3 : Y1.cell? ⟨w.heap.size, 3, none⟩ = some (.slice b3 p3.length bc3) := A1.out.cell 3
  have c4 : Y1.cell? ⟨w.heap.size, 4, none⟩ = some (.slice b4 p4.length bc4) := A1.out.cell 4
  have c5 : Y1.cell? ⟨w.heap.size, 5, none⟩ = some (.int .i64 n5) := A1.out.cell 5
  have c6 : Y1.cell? ⟨w.heap.size, 6, none⟩ = some (.slice b6 p6.length bc6) := A1.out.cell 6
  have c7 : Y1.cell? ⟨w.heap.size, 7, none⟩ = some (.slice b7 p7.length bc7) := A1.out.cell 7
  have c8 : Y1.cell? ⟨w.heap.size, 8, none⟩ = some (.slice b8 p8.length bc8) := A1.out.cell 8
  go_wp2_with fail
  refine (TT.out Y1 B1.out).mono ?_
  rintro e Y2 ⟨v, rfl, hv⟩
  obtain ⟨t3, tc3, t4, tc4, t6, tc6, t7, tc7, t8, tc8, f3, f4, f6, f7, f8, rfl, hco2, hb2⟩ := hv
  have A2 := Lib.hid (A1.out.next hb2)
  have B2 := Lib.hid (B1.out.trans (hb2.mono B1.out.size))
  have hw2 : w.heap.size < Y2.heap.size := Nat.lt_of_lt_of_le hw1 hb2.size
  have KS := Lib.hid (HS.out HF.out hbig _ _ _ _ _ Y2 hco2.rd)
  clear hco2 hb2 A1 B1 hw1 c0 c1 c2 c3 c4 c5 c6 c7 c8 f3 f4 f6 f7 f8
  go_wp2_with fail
  refine (KS.out).mono ?_
  rintro e Y3 ⟨v, rfl, hv⟩
  obtain ⟨u3, uc3, u4, uc4, u6, uc6, u7, uc7, u8, uc8, f3, f4, f6, f7, f8, rfl, hco3, hb3⟩ := hv
  have hal : Below Y3.heap.size Y3 (Y3.alloc (.cells #[.int .i64 m0, .int .i64 m1, .int .i64 m2, .slice u3 r3.length uc3, .slice u4 r4.length uc4, .int .i64 m5, .slice u6 r6.length uc6, .slice u7 r7.length uc7, .slice u8 r8.length uc8] ChanT)) := (Below.refl _ _).alloc (Nat.le_refl _) _
  have U4 := Lib.hid (CV.new (m0 := m0) (m1 := m1) (m2 := m2) (m5 := m5) hco3)
  have A4 := Lib.hid ((A2.out.next hb3).next hal)
  have B4 := Lib.hid ((B2.out.trans (hb3.mono B2.out.size)).trans (hal.mono (B2.out.trans (hb3.mono B2.out.size)).size))
  have o2 := hb3.size
  have hs4 : (Y3.alloc (.cells #[.int .i64 m0, .int .i64 m1, .int .i64 m2, .slice u3 r3.length uc3, .slice u4 r4.length uc4, .int .i64 m5, .slice u6 r6.length uc6, .slice u7 r7.length uc7, .slice u8 r8.length uc8] ChanT)).heap.size = Y3.heap.size + 1 := by simp
  clear hco3 hb3 hal A2 B2 KS f3 f4 f6 f7 f8
  go_upto_region 8 with fail
  generalize Y3.alloc (.cells #[.int .i64 m0, .int .i64 m1, .int .i64 m2, .slice u3 r3.length uc3, .slice u4 r4.length uc4, .int .i64 m5, .slice u6 r6.length uc6, .slice u7 r7.length uc7, .slice u8 r8.length uc8] ChanT) = V4 at *
  generalize Y2.heap.size = lu at *
  generalize Y3.heap.size = gu at *
  clear Y2 Y3
  have c0 : V4.cell? ⟨w.heap.size, 0, none⟩ = some (.int .i64 n0) := A4.out.cell 0
  have c1 : V4.cell? ⟨w.heap.size, 1, none⟩ = some (.int .i64 n1) := A4.out.cell 1
  have c2 : V4.cell? ⟨w.heap.size, 2, none⟩ = some (.int .i64 n2) := A4.out.cell 2
  have c3 : V4.cell? ⟨w.heap.size, 3, none⟩ = some (.slice b3 p3.length bc3) := A4.out.cell 3
  have c4 : V4.cell? ⟨w.heap.size, 4, none⟩ = some (.slice b4 p4.length bc4) := A4.out.cell 4
  have c5 : V4.cell? ⟨w.heap.size, 5, none⟩ = some (.int .i64 n5) := A4.out.cell 5
  have c6 : V4.cell? ⟨w.heap.size, 6, none⟩ = some (.slice b6 p6.length bc6) := A4.out.cell 6
  have c7 : V4.cell? ⟨w.heap.size, 7, none⟩ = some (.slice b7 p7.length bc7) := A4.out.cell 7
  have c8 : V4.cell? ⟨w.heap.size, 8, none⟩ = some (.slice b8 p8.length bc8) := A4.out.cell 8
  go_wp2_with fail
  refine (TT.out V4 B4.out).mono ?_
  rintro e Y5 ⟨v, rfl, hv⟩
  obtain ⟨x3, xc3, x4, xc4, x6, xc6, x7, xc7, x8, xc8, f3, f4, f6, f7, f8, rfl, hco5, hb5⟩ := hv
  have hal : Below Y5.heap.size Y5 (Y5.alloc (.cells #[.int .i64 n0, .int .i64 n1, .int .i64 n2, .slice x3 p3.length xc3, .slice x4 p4.length xc4, .int .i64 n5, .slice x6 p6.length xc6, .slice x7 p7.length xc7, .slice x8 p8.length xc8] ChanT)) := (Below.refl _ _).alloc (Nat.le_refl _) _
  have X6 := Lib.hid (CV.new (m0 := n0) (m1 := n1) (m2 := n2) (m5 := n5) hco5)
  have U6 := Lib.hid ((U4.out.next hb5).next hal)
  have A6 := Lib.hid ((A4.out.next hb5).next hal)
  have B6 := Lib.hid ((B4.out.trans (hb5.mono B4.out.size)).trans (hal.mono (B4.out.trans (hb5.mono B4.out.size)).size))
  have o4 := hb5.size
  have hs6 : (Y5.alloc (.cells #[.int .i64 n0, .int .i64 n1, .int .i64 n2, .slice x3 p3.length xc3, .slice x4 p4.length xc4, .int .i64 n5, .slice x6 p6.length xc6, .slice x7 p7.length xc7, .slice x8 p8.length xc8] ChanT)).heap.size = Y5.heap.size + 1 := by simp
  have o3 : gu < V4.heap.size := by omega
  clear hco5 hb5 hal U4 A4 B4 hs4 c0 c1 c2 c3 c4 c5 c6 c7 c8 f3 f4 f6 f7 f8
  go_upto_region 9 with fail
  generalize Y5.alloc (.cells #[.int .i64 n0, .int .i64 n1, .int .i64 n2, .slice x3 p3.length xc3, .slice x4 p4.length xc4, .int .i64 n5, .slice x6 p6.length xc6, .slice x7 p7.length xc7, .slice x8 p8.length xc8] ChanT) = V6 at *
  generalize V4.heap.size = lx at *
  generalize Y5.heap.size = gx at *
  clear V4 Y5
  have c0 : V6.cell? ⟨gx, 0, none⟩ = some (.int .i64 n0) := X6.out.var.cell 0
  have c1 : V6.cell? ⟨gx, 1, none⟩ = some (.int .i64 n1) := X6.out.var.cell 1
  have c2 : V6.cell? ⟨gx, 2, none⟩ = some (.int .i64 n2) := X6.out.var.cell 2
  have c3 : V6.cell? ⟨gx, 3, none⟩ = some (.slice x3 p3.length xc3) := X6.out.var.cell 3
  have c4 : V6.cell? ⟨gx, 4, none⟩ = some (.slice x4 p4.length xc4) := X6.out.var.cell 4
  have c5 : V6.cell? ⟨gx, 5, none⟩ = some (.int .i64 n5) := X6.out.var.cell 5
  have c6 : V6.cell? ⟨gx, 6, none⟩ = some (.slice x6 p6.length xc6) := X6.out.var.cell 6
  have c7 : V6.cell? ⟨gx, 7, none⟩ = some (.slice x7 p7.length xc7) := X6.out.var.cell 7
  have c8 : V6.cell? ⟨gx, 8, none⟩ = some (.slice x8 p8.length xc8) := X6.out.var.cell 8
  have KI := Lib.hid (HI.out HF.out hbig _ _ _ _ _ V6 X6.out.rd)
  go_wp2_with fail
  refine (KI.out).mono ?_
  rintro e Y7 ⟨v, rfl, hv⟩
  obtain ⟨g3, gc3, g4, gc4, g6, gc6, g7, gc7, g8, gc8, f3, f4, f6, f7, f8, rfl, hco7, hb7⟩ := hv
  have hal : Below Y7.heap.size Y7 (Y7.alloc (.cells #[.int .i64 m0, .int .i64 m1, .int .i64 m2, .slice g3 r3.length gc3, .slice g4 r4.length gc4, .int .i64 m5, .slice g6 r6.length gc6, .slice g7 r7.length gc7, .slice g8 r8.length gc8] ChanT)) := (Below.refl _ _).alloc (Nat.le_refl _) _
  have o5 : gx < V6.heap.size := by omega
  have o6 := hb7.size
  have Q8 : Hid (VarA w.heap.size 36 #[.int .i64 n0, .int .i64 n1, .int .i64 n2, .slice b3 p3.length bc3, .slice b4 p4.length bc4, .int .i64 n5, .slice b6 p6.length bc6, .slice b7 p7.length bc7, .slice b8 p8.length bc8] (Y7.alloc (.cells #[.int .i64 m0, .int .i64 m1, .int .i64 m2, .slice g3 r3.length gc3, .slice g4 r4.length gc4, .int .i64 m5, .slice g6 r6.length gc6, .slice g7 r7.length gc7, .slice g8 r8.length gc8] ChanT)) ∧ CV lu gu gu m0 m1 m2 m5 (.slice u3 r3.length uc3) (.slice u4 r4.length uc4) (.slice u6 r6.length uc6) (.slice u7 r7.length uc7) (.slice u8 r8.length uc8) r3 r4 r6 r7 r8 (Y7.alloc (.cells #[.int .i64 m0, .int .i64 m1, .int .i64 m2, .slice g3 r3.length gc3, .slice g4 r4.length gc4, .int .i64 m5, .slice g6 r6.length gc6, .slice g7 r7.length gc7, .slice g8 r8.length gc8] ChanT)) ∧ CV lx gx gx n0 n1 n2 n5 (.slice x3 p3.length xc3) (.slice x4 p4.length xc4) (.slice x6 p6.length xc6) (.slice x7 p7.length xc7) (.slice x8 p8.length xc8) p3 p4 p6 p7 p8 (Y7.alloc (.cells #[.int .i64 m0, .int .i64 m1, .int .i64 m2, .slice g3 r3.length gc3, .slice g4 r4.length gc4, .int .i64 m5, .slice g6 r6.length gc6, .slice g7 r7.length gc7, .slice g8 r8.length gc8] ChanT)) ∧ CV V6.heap.size Y7.heap.size Y7.heap.size m0 m1 m2 m5 (.slice g3 r3.length gc3) (.slice g4 r4.length gc4) (.slice g6 r6.length gc6) (.slice g7 r7.length gc7) (.slice g8 r8.length gc8) r3 r4 r6 r7 r8 (Y7.alloc (.cells #[.int .i64 m0, .int .i64 m1, .int .i64 m2, .slice g3 r3.length gc3, .slice g4 r4.length gc4, .int .i64 m5, .slice g6 r6.length gc6, .slice g7 r7.length gc7, .slice g8 r8.length gc8] ChanT)) ∧ Below w.heap.size w (Y7.alloc (.cells #[.int .i64 m0, .int .i64 m1, .int .i64 m2, .slice g3 r3.length gc3, .slice g4 r4.length gc4, .int .i64 m5, .slice g6 r6.length gc6, .slice g7 r7.length gc7, .slice g8 r8.length gc8] ChanT))) :=
    Lib.hid ⟨(A6.out.next hb7).next hal, (U6.out.next hb7).next hal, (X6.out.next hb7).next hal, CV.new hco7, (B6.out.trans (hb7.mono B6.out.size)).trans (hal.mono (B6.out.trans (hb7.mono B6.out.size)).size)⟩
  clear hco7 hb7 hal U6 A6 B6 X6 KI hs6 c0 c1 c2 c3 c4 c5 c6 c7 c8 f3 f4 f6 f7 f8
  go_upto_region 10 with fail
  generalize Y7.alloc (.cells #[.int .i64 m0, .int .i64 m1, .int .i64 m2, .slice g3 r3.length gc3, .slice g4 r4.length gc4, .int .i64 m5, .slice g6 r6.length gc6, .slice g7 r7.length gc7, .slice g8 r8.length gc8] ChanT) = V8 at *
  generalize V6.heap.size = lg at *
  generalize Y7.heap.size = gg at *
  clear V6 Y7
  have qnext : ∀ X Y, (VarA w.heap.size 36 #[.int .i64 n0, .int .i64 n1, .int .i64 n2, .slice b3 p3.length bc3, .slice b4 p4.length bc4, .int .i64 n5, .slice b6 p6.length bc6, .slice b7 p7.length bc7, .slice b8 p8.length bc8] X ∧ CV lu gu gu m0 m1 m2 m5 (.slice u3 r3.length uc3) (.slice u4 r4.length uc4) (.slice u6 r6.length uc6) (.slice u7 r7.length uc7) (.slice u8 r8.length uc8) r3 r4 r6 r7 r8 X ∧ CV lx gx gx n0 n1 n2 n5 (.slice x3 p3.length xc3) (.slice x4 p4.length xc4) (.slice x6 p6.length xc6) (.slice x7 p7.length xc7) (.slice x8 p8.length xc8) p3 p4 p6 p7 p8 X ∧ CV lg gg gg m0 m1 m2 m5 (.slice g3 r3.length gc3) (.slice g4 r4.length gc4) (.slice g6 r6.length gc6) (.slice g7 r7.length gc7) (.slice g8 r8.length gc8) r3 r4 r6 r7 r8 X ∧ Below w.heap.size w X) → Below X.heap.size X Y → (VarA w.heap.size 36 #[.int .i64 n0, .int .i64 n1, .int .i64 n2, .slice b3 p3.length bc3, .slice b4 p4.length bc4, .int .i64 n5, .slice b6 p6.length bc6, .slice b7 p7.length bc7, .slice b8 p8.length bc8] Y ∧ CV lu gu gu m0 m1 m2 m5 (.slice u3 r3.length uc3) (.slice u4 r4.length uc4) (.slice u6 r6.length uc6) (.slice u7 r7.length uc7) (.slice u8 r8.length uc8) r3 r4 r6 r7 r8 Y ∧ CV lx gx gx n0 n1 n2 n5 (.slice x3 p3.length xc3) (.slice x4 p4.length xc4) (.slice x6 p6.length xc6) (.slice x7 p7.length xc7) (.slice x8 p8.length xc8) p3 p4 p6 p7 p8 Y ∧ CV lg gg gg m0 m1 m2 m5 (.slice g3 r3.length gc3) (.slice g4 r4.length gc4) (.slice g6 r6.length gc6) (.slice g7 r7.length gc7) (.slice g8 r8.length gc8) r3 r4 r6 r7 r8 Y ∧ Below w.heap.size w Y) := fun X Y h hb => ⟨h.1.next hb, h.2.1.next hb, h.2.2.1.next hb, h.2.2.2.1.next hb, h.2.2.2.2.trans (hb.mono h.2.2.2.2.size)⟩
  have d0 : V8.cell? ⟨gg, 0, none⟩ = some (.int .i64 m0) := Q8.out.2.2.2.1.var.cell 0
  have d1 : V8.cell? ⟨gg, 1, none⟩ = some (.int .i64 m1) := Q8.out.2.2.2.1.var.cell 1
  have d2 : V8.cell? ⟨gg, 2, none⟩ = some (.int .i64 m2) := Q8.out.2.2.2.1.var.cell 2
  have d3 : V8.cell? ⟨gg, 3, none⟩ = some (.slice g3 r3.length gc3) := Q8.out.2.2.2.1.var.cell 3
  have d4 : V8.cell? ⟨gg, 4, none⟩ = some (.slice g4 r4.length gc4) := Q8.out.2.2.2.1.var.cell 4
  have d5 : V8.cell? ⟨gg, 5, none⟩ = some (.int .i64 m5) := Q8.out.2.2.2.1.var.cell 5
  have d6 : V8.cell? ⟨gg, 6, none⟩ = some (.slice g6 r6.length gc6) := Q8.out.2.2.2.1.var.cell 6
  have d7 : V8.cell? ⟨gg, 7, none⟩ = some (.slice g7 r7.length gc7) := Q8.out.2.2.2.1.var.cell 7
  have d8 : V8.cell? ⟨gg, 8, none⟩ = some (.slice g8 r8.length gc8) := Q8.out.2.2.2.1.var.cell 8
  have e0 : V8.cell? ⟨gu, 0, none⟩ = some (.int .i64 m0) := Q8.out.2.1.var.cell 0
  have e1 : V8.cell? ⟨gu, 1, none⟩ = some (.int .i64 m1) := Q8.out.2.1.var.cell 1
  have e2 : V8.cell? ⟨gu, 2, none⟩ = some (.int .i64 m2) := Q8.out.2.1.var.cell 2
  have e3 : V8.cell? ⟨gu, 3, none⟩ = some (.slice u3 r3.length uc3) := Q8.out.2.1.var.cell 3
  have e4 : V8.cell? ⟨gu, 4, none⟩ = some (.slice u4 r4.length uc4) := Q8.out.2.1.var.cell 4
  have e5 : V8.cell? ⟨gu, 5, none⟩ = some (.int .i64 m5) := Q8.out.2.1.var.cell 5
  have e6 : V8.cell? ⟨gu, 6, none⟩ = some (.slice u6 r6.length uc6) := Q8.out.2.1.var.cell 6
  have e7 : V8.cell? ⟨gu, 7, none⟩ = some (.slice u7 r7.length uc7) := Q8.out.2.1.var.cell 7
  have e8 : V8.cell? ⟨gu, 8, none⟩ = some (.slice u8 r8.length uc8) := Q8.out.2.1.var.cell 8
  have K8 := Lib.hid (chan_eq (m0 := m0) (m1 := m1) (m2 := m2) (m5 := m5) Q8.out.2.2.2.1.rd Q8.out.2.1.rd HFR.out)
  go_wp2_with fail
  refine (K8.out).mono ?_
  rintro e V9 ⟨rfl, hb9⟩
  have Q9 := Lib.hid (qnext _ _ Q8.out hb9)
  clear hb9 K8 Q8 d0 d1 d2 d3 d4 d5 d6 d7 d8 e0 e1 e2 e3 e4 e5 e6 e7 e8
  have S0 : Hid (∀ X, (VarA w.heap.size 36 #[.int .i64 n0, .int .i64 n1, .int .i64 n2, .slice b3 p3.length bc3, .slice b4 p4.length bc4, .int .i64 n5, .slice b6 p6.length bc6, .slice b7 p7.length bc7, .slice b8 p8.length bc8] X ∧ CV lu gu gu m0 m1 m2 m5 (.slice u3 r3.length uc3) (.slice u4 r4.length uc4) (.slice u6 r6.length uc6) (.slice u7 r7.length uc7) (.slice u8 r8.length uc8) r3 r4 r6 r7 r8 X ∧ CV lx gx gx n0 n1 n2 n5 (.slice x3 p3.length xc3) (.slice x4 p4.length xc4) (.slice x6 p6.length xc6) (.slice x7 p7.length xc7) (.slice x8 p8.length xc8) p3 p4 p6 p7 p8 X ∧ CV lg gg gg m0 m1 m2 m5 (.slice g3 r3.length gc3) (.slice g4 r4.length gc4) (.slice g6 r6.length gc6) (.slice g7 r7.length gc7) (.slice g8 r8.length gc8) r3 r4 r6 r7 r8 X ∧ Below w.heap.size w X) → (X.cell? ⟨gx, 0, none⟩ = some (.int .i64 n0) ∧ X.cell? ⟨gx, 1, none⟩ = some (.int .i64 n1) ∧ X.cell? ⟨gx, 2, none⟩ = some (.int .i64 n2) ∧ X.cell? ⟨gx, 3, none⟩ = some (.slice x3 p3.length xc3) ∧ X.cell? ⟨gx, 4, none⟩ = some (.slice x4 p4.length xc4) ∧ X.cell? ⟨gx, 5, none⟩ = some (.int .i64 n5) ∧ X.cell? ⟨gx, 6, none⟩ = some (.slice x6 p6.length xc6) ∧ X.cell? ⟨gx, 7, none⟩ = some (.slice x7 p7.length xc7) ∧ X.cell? ⟨gx, 8, none⟩ = some (.slice x8 p8.length xc8) ∧ X.cell? ⟨w.heap.size, 0, none⟩ = some (.int .i64 n0) ∧ X.cell? ⟨w.heap.size, 1, none⟩ = some (.int .i64 n1) ∧ X.cell? ⟨w.heap.size, 2, none⟩ = some (.int .i64 n2) ∧ X.cell? ⟨w.heap.size, 3, none⟩ = some (.slice b3 p3.length bc3) ∧ X.cell? ⟨w.heap.size, 4, none⟩ = some (.slice b4 p4.length bc4) ∧ X.cell? ⟨w.heap.size, 5, none⟩ = some (.int .i64 n5) ∧ X.cell? ⟨w.heap.size, 6, none⟩ = some (.slice b6 p6.length bc6) ∧ X.cell? ⟨w.heap.size, 7, none⟩ = some (.slice b7 p7.length bc7) ∧ X.cell? ⟨w.heap.size, 8, none⟩ = some (.slice b8 p8.length bc8) ∧ VarA w.heap.size 36 #[.int .i64 n0, .int .i64 n1, .int .i64 n2, .slice b3 p3.length bc3, .slice b4 p4.length bc4, .int .i64 n5, .slice b6 p6.length bc6, .slice b7 p7.length bc7, .slice b8 p8.length bc8] X ∧ CV lu gu gu m0 m1 m2 m5 (.slice u3 r3.length uc3) (.slice u4 r4.length uc4) (.slice u6 r6.length uc6) (.slice u7 r7.length uc7) (.slice u8 r8.length uc8) r3 r4 r6 r7 r8 X ∧ CV lx gx gx n0 n1 n2 n5 (.slice x3 p3.length xc3) (.slice x4 p4.length xc4) (.slice x6 p6.length xc6) (.slice x7 p7.length xc7) (.slice x8 p8.length xc8) p3 p4 p6 p7 p8 X ∧ CV lg gg gg m0 m1 m2 m5 (.slice g3 r3.length gc3) (.slice g4 r4.length gc4) (.slice g6 r6.length gc6) (.slice g7 r7.length gc7) (.slice g8 r8.length gc8) r3 r4 r6 r7 r8 X ∧ Below w.heap.size w X)) := Lib.hid (fun X h => ⟨h.2.2.1.var.cell 0, h.2.2.1.var.cell 1, h.2.2.1.var.cell 2, h.2.2.1.var.cell 3, h.2.2.1.var.cell 4, h.2.2.1.var.cell 5, h.2.2.1.var.cell 6, h.2.2.1.var.cell 7, h.2.2.1.var.cell 8, h.1.cell 0, h.1.cell 1, h.1.cell 2, h.1.cell 3, h.1.cell 4, h.1.cell 5, h.1.cell 6, h.1.cell 7, h.1.cell 8, h⟩)
  have S1 : Hid (V9.drew.cell? ⟨gx, 0, none⟩ = some (.int .i64 n0) ∧ V9.drew.cell? ⟨gx, 1, none⟩ = some (.int .i64 n1) ∧ V9.drew.cell? ⟨gx, 2, none⟩ = some (.int .i64 n2) ∧ V9.drew.cell? ⟨gx, 3, none⟩ = some (.slice x3 p3.length xc3) ∧ V9.drew.cell? ⟨gx, 4, none⟩ = some (.slice x4 p4.length xc4) ∧ V9.drew.cell? ⟨gx, 5, none⟩ = some (.int .i64 n5) ∧ V9.drew.cell? ⟨gx, 6, none⟩ = some (.slice x6 p6.length xc6) ∧ V9.drew.cell? ⟨gx, 7, none⟩ = some (.slice x7 p7.length xc7) ∧ V9.drew.cell? ⟨gx, 8, none⟩ = some (.slice x8 p8.length xc8) ∧ V9.drew.cell? ⟨w.heap.size, 0, none⟩ = some (.int .i64 n0) ∧ V9.drew.cell? ⟨w.heap.size, 1, none⟩ = some (.int .i64 n1) ∧ V9.drew.cell? ⟨w.heap.size, 2, none⟩ = some (.int .i64 n2) ∧ V9.drew.cell? ⟨w.heap.size, 3, none⟩ = some (.slice b3 p3.length bc3) ∧ V9.drew.cell? ⟨w.heap.size, 4, none⟩ = some (.slice b4 p4.length bc4) ∧ V9.drew.cell? ⟨w.heap.size, 5, none⟩ = some (.int .i64 n5) ∧ V9.drew.cell? ⟨w.heap.size, 6, none⟩ = some (.slice b6 p6.length bc6) ∧ V9.drew.cell? ⟨w.heap.size, 7, none⟩ = some (.slice b7 p7.length bc7) ∧ V9.drew.cell? ⟨w.heap.size, 8, none⟩ = some (.slice b8 p8.length bc8) ∧ VarA w.heap.size 36 #[.int .i64 n0, .int .i64 n1, .int .i64 n2, .slice b3 p3.length bc3, .slice b4 p4.length bc4, .int .i64 n5, .slice b6 p6.length bc6, .slice b7 p7.length bc7, .slice b8 p8.length bc8] V9.drew ∧ CV lu gu gu m0 m1 m2 m5 (.slice u3 r3.length uc3) (.slice u4 r4.length uc4) (.slice u6 r6.length uc6) (.slice u7 r7.length uc7) (.slice u8 r8.length uc8) r3 r4 r6 r7 r8 V9.drew ∧ CV lx gx gx n0 n1 n2 n5 (.slice x3 p3.length xc3) (.slice x4 p4.length xc4) (.slice x6 p6.length xc6) (.slice x7 p7.length xc7) (.slice x8 p8.length xc8) p3 p4 p6 p7 p8 V9.drew ∧ CV lg gg gg m0 m1 m2 m5 (.slice g3 r3.length gc3) (.slice g4 r4.length gc4) (.slice g6 r6.length gc6) (.slice g7 r7.length gc7) (.slice g8 r8.length gc8) r3 r4 r6 r7 r8 V9.drew ∧ Below w.heap.size w V9.drew) := Lib.hid (S0.out _ (qnext _ _ Q9.out ((Below.refl _ _).drew)))
  have KT : Hid (∀ X, (X.cell? ⟨gx, 0, none⟩ = some (.int .i64 n0) ∧ X.cell? ⟨gx, 1, none⟩ = some (.int .i64 n1) ∧ X.cell? ⟨gx, 2, none⟩ = some (.int .i64 n2) ∧ X.cell? ⟨gx, 3, none⟩ = some (.slice x3 p3.length xc3) ∧ X.cell? ⟨gx, 4, none⟩ = some (.slice x4 p4.length xc4) ∧ X.cell? ⟨gx, 5, none⟩ = some (.int .i64 n5) ∧ X.cell? ⟨gx, 6, none⟩ = some (.slice x6 p6.length xc6) ∧ X.cell? ⟨gx, 7, none⟩ = some (.slice x7 p7.length xc7) ∧ X.cell? ⟨gx, 8, none⟩ = some (.slice x8 p8.length xc8) ∧ X.cell? ⟨w.heap.size, 0, none⟩ = some (.int .i64 n0) ∧ X.cell? ⟨w.heap.size, 1, none⟩ = some (.int .i64 n1) ∧ X.cell? ⟨w.heap.size, 2, none⟩ = some (.int .i64 n2) ∧ X.cell? ⟨w.heap.size, 3, none⟩ = some (.slice b3 p3.length bc3) ∧ X.cell? ⟨w.heap.size, 4, none⟩ = some (.slice b4 p4.length bc4) ∧ X.cell? ⟨w.heap.size, 5, none⟩ = some (.int .i64 n5) ∧ X.cell? ⟨w.heap.size, 6, none⟩ = some (.slice b6 p6.length bc6) ∧ X.cell? ⟨w.heap.size, 7, none⟩ = some (.slice b7 p7.length bc7) ∧ X.cell? ⟨w.heap.size, 8, none⟩ = some (.slice b8 p8.length bc8) ∧ VarA w.heap.size 36 #[.int .i64 n0, .int .i64 n1, .int .i64 n2, .slice b3 p3.length bc3, .slice b4 p4.length bc4, .int .i64 n5, .slice b6 p6.length bc6, .slice b7 p7.length bc7, .slice b8 p8.length bc8] X ∧ CV lu gu gu m0 m1 m2 m5 (.slice u3 r3.length uc3) (.slice u4 r4.length uc4) (.slice u6 r6.length uc6) (.slice u7 r7.length uc7) (.slice u8 r8.length uc8) r3 r4 r6 r7 r8 X ∧ CV lx gx gx n0 n1 n2 n5 (.slice x3 p3.length xc3) (.slice x4 p4.length xc4) (.slice x6 p6.length xc6) (.slice x7 p7.length xc7) (.slice x8 p8.length xc8) p3 p4 p6 p7 p8 X ∧ CV lg gg gg m0 m1 m2 m5 (.slice g3 r3.length gc3) (.slice g4 r4.length gc4) (.slice g6 r6.length gc6) (.slice g7 r7.length gc7) (.slice g8 r8.length gc8) r3 r4 r6 r7 r8 X ∧ Below w.heap.size w X) → Calls Try.prog 15 #[.agg #[.int .i64 n0, .int .i64 n1, .int .i64 n2, .slice b3 p3.length bc3, .slice b4 p4.length bc4, .int .i64 n5, .slice b6 p6.length bc6, .slice b7 p7.length bc7, .slice b8 p8.length bc8]] X fun e Y => ∃ (t3 : Option Addr) (tc3 : Nat) (t4 : Option Addr) (tc4 : Nat) (t6 : Option Addr) (tc6 : Nat) (t7 : Option Addr) (tc7 : Nat) (t8 : Option Addr) (tc8 : Nat), e = .returned (.agg #[.int .i64 n0, .int .i64 n1, .int .i64 n2, .slice t3 p3.length tc3, .slice t4 p4.length tc4, .int .i64 n5, .slice t6 p6.length tc6, .slice t7 p7.length tc7, .slice t8 p8.length tc8]) ∧ ChanRd (.slice t3 p3.length tc3) (.slice t4 p4.length tc4) (.slice t6 p6.length tc6) (.slice t7 p7.length tc7) (.slice t8 p8.length tc8) p3 p4 p6 p7 p8 Y ∧ (Y.cell? ⟨gx, 0, none⟩ = some (.int .i64 n0) ∧ Y.cell? ⟨gx, 1, none⟩ = some (.int .i64 n1) ∧ Y.cell? ⟨gx, 2, none⟩ = some (.int .i64 n2) ∧ Y.cell? ⟨gx, 3, none⟩ = some (.slice x3 p3.length xc3) ∧ Y.cell? ⟨gx, 4, none⟩ = some (.slice x4 p4.length xc4) ∧ Y.cell? ⟨gx, 5, none⟩ = some (.int .i64 n5) ∧ Y.cell? ⟨gx, 6, none⟩ = some (.slice x6 p6.length xc6) ∧ Y.cell? ⟨gx, 7, none⟩ = some (.slice x7 p7.length xc7) ∧ Y.cell? ⟨gx, 8, none⟩ = some (.slice x8 p8.length xc8) ∧ Y.cell? ⟨w.heap.size, 0, none⟩ = some (.int .i64 n0) ∧ Y.cell? ⟨w.heap.size, 1, none⟩ = some (.int .i64 n1) ∧ Y.cell? ⟨w.heap.size, 2, none⟩ = some (.int .i64 n2) ∧ Y.cell? ⟨w.heap.size, 3, none⟩ = some (.slice b3 p3.length bc3) ∧ Y.cell? ⟨w.heap.size, 4, none⟩ = some (.slice b4 p4.length bc4) ∧ Y.cell? ⟨w.heap.size, 5, none⟩ = some (.int .i64 n5) ∧ Y.cell? ⟨w.heap.size, 6, none⟩ = some (.slice b6 p6.length bc6) ∧ Y.cell? ⟨w.heap.size, 7, none⟩ = some (.slice b7 p7.length bc7) ∧ Y.cell? ⟨w.heap.size, 8, none⟩ = some (.slice b8 p8.length bc8) ∧ VarA w.heap.size 36 #[.int .i64 n0, .int .i64 n1, .int .i64 n2, .slice b3 p3.length bc3, .slice b4 p4.length bc4, .int .i64 n5, .slice b6 p6.length bc6, .slice b7 p7.length bc7, .slice b8 p8.length bc8] Y ∧ CV lu gu gu m0 m1 m2 m5 (.slice u3 r3.length uc3) (.slice u4 r4.length uc4) (.slice u6 r6.length uc6) (.slice u7 r7.length uc7) (.slice u8 r8.length uc8) r3 r4 r6 r7 r8 Y ∧ CV lx gx gx n0 n1 n2 n5 (.slice x3 p3.length xc3) (.slice x4 p4.length xc4) (.slice x6 p6.length xc6) (.slice x7 p7.length xc7) (.slice x8 p8.length xc8) p3 p4 p6 p7 p8 Y ∧ CV lg gg gg m0 m1 m2 m5 (.slice g3 r3.length gc3) (.slice g4 r4.length gc4) (.slice g6 r6.length gc6) (.slice g7 r7.length gc7) (.slice g8 r8.length gc8) r3 r4 r6 r7 r8 Y ∧ Below w.heap.size w Y)) := Lib.hid (fun X hX => by
    have hq := hX.2.2.2.2.2.2.2.2.2.2.2.2.2.2.2.2.2.2
    refine (TT.out X hq.2.2.2.2).mono ?_
    rintro e Y ⟨v, rfl, hv⟩
    obtain ⟨t3, tc3, t4, tc4, t6, tc6, t7, tc7, t8, tc8, f3, f4, f6, f7, f8, rfl, hco, hb⟩ := hv
    exact ⟨t3, tc3, t4, tc4, t6, tc6, t7, tc7, t8, tc8, rfl, hco.rd, S0.out _ (qnext _ _ hq hb)⟩)
  have KE : Hid (∀ (y3 y4 y6 y7 y8 : Value) (X : World), (X.cell? ⟨gx, 0, none⟩ = some (.int .i64 n0) ∧ X.cell? ⟨gx, 1, none⟩ = some (.int .i64 n1) ∧ X.cell? ⟨gx, 2, none⟩ = some (.int .i64 n2) ∧ X.cell? ⟨gx, 3, none⟩ = some (.slice x3 p3.length xc3) ∧ X.cell? ⟨gx, 4, none⟩ = some (.slice x4 p4.length xc4) ∧ X.cell? ⟨gx, 5, none⟩ = some (.int .i64 n5) ∧ X.cell? ⟨gx, 6, none⟩ = some (.slice x6 p6.length xc6) ∧ X.cell? ⟨gx, 7, none⟩ = some (.slice x7 p7.length xc7) ∧ X.cell? ⟨gx, 8, none⟩ = some (.slice x8 p8.length xc8) ∧ X.cell? ⟨w.heap.size, 0, none⟩ = some (.int .i64 n0) ∧ X.cell? ⟨w.heap.size, 1, none⟩ = some (.int .i64 n1) ∧ X.cell? ⟨w.heap.size, 2, none⟩ = some (.int .i64 n2) ∧ X.cell? ⟨w.heap.size, 3, none⟩ = some (.slice b3 p3.length bc3) ∧ X.cell? ⟨w.heap.size, 4, none⟩ = some (.slice b4 p4.length bc4) ∧ X.cell? ⟨w.heap.size, 5, none⟩ = some (.int .i64 n5) ∧ X.cell? ⟨w.heap.size, 6, none⟩ = some (.slice b6 p6.length bc6) ∧ X.cell? ⟨w.heap.size, 7, none⟩ = some (.slice b7 p7.length bc7) ∧ X.cell? ⟨w.heap.size, 8, none⟩ = some (.slice b8 p8.length bc8) ∧ VarA w.heap.size 36 #[.int .i64 n0, .int .i64 n1, .int .i64 n2, .slice b3 p3.length bc3, .slice b4 p4.length bc4, .int .i64 n5, .slice b6 p6.length bc6, .slice b7 p7.length bc7, .slice b8 p8.length bc8] X ∧ CV lu gu gu m0 m1 m2 m5 (.slice u3 r3.length uc3) (.slice u4 r4.length uc4) (.slice u6 r6.length uc6) (.slice u7 r7.length uc7) (.slice u8 r8.length uc8) r3 r4 r6 r7 r8 X ∧ CV lx gx gx n0 n1 n2 n5 (.slice x3 p3.length xc3) (.slice x4 p4.length xc4) (.slice x6 p6.length xc6) (.slice x7 p7.length xc7) (.slice x8 p8.length xc8) p3 p4 p6 p7 p8 X ∧ CV lg gg gg m0 m1 m2 m5 (.slice g3 r3.length gc3) (.slice g4 r4.length gc4) (.slice g6 r6.length gc6) (.slice g7 r7.length gc7) (.slice g8 r8.length gc8) r3 r4 r6 r7 r8 X ∧ Below w.heap.size w X) → ChanRd y3 y4 y6 y7 y8 p3 p4 p6 p7 p8 X → Calls Try.prog 10 #[.agg #[.int .i64 n0, .int .i64 n1, .int .i64 n2, .slice x3 p3.length xc3, .slice x4 p4.length xc4, .int .i64 n5, .slice x6 p6.length xc6, .slice x7 p7.length xc7, .slice x8 p8.length xc8], .agg #[.int .i64 n0, .int .i64 n1, .int .i64 n2, y3, y4, .int .i64 n5, y6, y7, y8]] X fun e Y => e = .returned (.bool true) ∧ (Y.cell? ⟨gx, 0, none⟩ = some (.int .i64 n0) ∧ Y.cell? ⟨gx, 1, none⟩ = some (.int .i64 n1) ∧ Y.cell? ⟨gx, 2, none⟩ = some (.int .i64 n2) ∧ Y.cell? ⟨gx, 3, none⟩ = some (.slice x3 p3.length xc3) ∧ Y.cell? ⟨gx, 4, none⟩ = some (.slice x4 p4.length xc4) ∧ Y.cell? ⟨gx, 5, none⟩ = some (.int .i64 n5) ∧ Y.cell? ⟨gx, 6, none⟩ = some (.slice x6 p6.length xc6) ∧ Y.cell? ⟨gx, 7, none⟩ = some (.slice x7 p7.length xc7) ∧ Y.cell? ⟨gx, 8, none⟩ = some (.slice x8 p8.length xc8) ∧ Y.cell? ⟨w.heap.size, 0, none⟩ = some (.int .i64 n0) ∧ Y.cell? ⟨w.heap.size, 1, none⟩ = some (.int .i64 n1) ∧ Y.cell? ⟨w.heap.size, 2, none⟩ = some (.int .i64 n2) ∧ Y.cell? ⟨w.heap.size, 3, none⟩ = some (.slice b3 p3.length bc3) ∧ Y.cell? ⟨w.heap.size, 4, none⟩ = some (.slice b4 p4.length bc4) ∧ Y.cell? ⟨w.heap.size, 5, none⟩ = some (.int .i64 n5) ∧ Y.cell? ⟨w.heap.size, 6, none⟩ = some (.slice b6 p6.length bc6) ∧ Y.cell? ⟨w.heap.size, 7, none⟩ = some (.slice b7 p7.length bc7) ∧ Y.cell? ⟨w.heap.size, 8, none⟩ = some (.slice b8 p8.length bc8) ∧ VarA w.heap.size 36 #[.int .i64 n0, .int .i64 n1, .int .i64 n2, .slice b3 p3.length bc3, .slice b4 p4.length bc4, .int .i64 n5, .slice b6 p6.length bc6, .slice b7 p7.length bc7, .slice b8 p8.length bc8] Y ∧ CV lu gu gu m0 m1 m2 m5 (.slice u3 r3.length uc3) (.slice u4 r4.length uc4) (.slice u6 r6.length uc6) (.slice u7 r7.length uc7) (.slice u8 r8.length uc8) r3 r4 r6 r7 r8 Y ∧ CV lx gx gx n0 n1 n2 n5 (.slice x3 p3.length xc3) (.slice x4 p4.length xc4) (.slice x6 p6.length xc6) (.slice x7 p7.length xc7) (.slice x8 p8.length xc8) p3 p4 p6 p7 p8 Y ∧ CV lg gg gg m0 m1 m2 m5 (.slice g3 r3.length gc3) (.slice g4 r4.length gc4) (.slice g6 r6.length gc6) (.slice g7 r7.length gc7) (.slice g8 r8.length gc8) r3 r4 r6 r7 r8 Y ∧ Below w.heap.size w Y)) := Lib.hid (fun y3 y4 y6 y7 y8 X hX hrd => by
    have hq := hX.2.2.2.2.2.2.2.2.2.2.2.2.2.2.2.2.2.2
    refine (chan_eq hq.2.2.1.rd hrd HFP.out).mono ?_
    rintro e Y ⟨rfl, hb⟩
    exact ⟨rfl, S0.out _ (qnext _ _ hq hb)⟩)
  go_wp2_with fail
  go_cut [52] (fun v wx => v = .bool false ∧ Hid (VarA w.heap.size 36 #[.int .i64 n0, .int .i64 n1, .int .i64 n2, .slice b3 p3.length bc3, .slice b4 p4.length bc4, .int .i64 n5, .slice b6 p6.length bc6, .slice b7 p7.length bc7, .slice b8 p8.length bc8] wx ∧ CV lu gu gu m0 m1 m2 m5 (.slice u3 r3.length uc3) (.slice u4 r4.length uc4) (.slice u6 r6.length uc6) (.slice u7 r7.length uc7) (.slice u8 r8.length uc8) r3 r4 r6 r7 r8 wx ∧ CV lx gx gx n0 n1 n2 n5 (.slice x3 p3.length xc3) (.slice x4 p4.length xc4) (.slice x6 p6.length xc6) (.slice x7 p7.length xc7) (.slice x8 p8.length xc8) p3 p4 p6 p7 p8 wx ∧ CV lg gg gg m0 m1 m2 m5 (.slice g3 r3.length gc3) (.slice g4 r4.length gc4) (.slice g6 r6.length gc6) (.slice g7 r7.length gc7) (.slice g8 r8.length gc8) r3 r4 r6 r7 r8 wx ∧ Below w.heap.size w wx))
  case first =>
    go_region_held3 (fun X => X.cell? ⟨gx, 0, none⟩ = some (.int .i64 n0) ∧ X.cell? ⟨gx, 1, none⟩ = some (.int .i64 n1) ∧ X.cell? ⟨gx, 2, none⟩ = some (.int .i64 n2) ∧ X.cell? ⟨gx, 3, none⟩ = some (.slice x3 p3.length xc3) ∧ X.cell? ⟨gx, 4, none⟩ = some (.slice x4 p4.length xc4) ∧ X.cell? ⟨gx, 5, none⟩ = some (.int .i64 n5) ∧ X.cell? ⟨gx, 6, none⟩ = some (.slice x6 p6.length xc6) ∧ X.cell? ⟨gx, 7, none⟩ = some (.slice x7 p7.length xc7) ∧ X.cell? ⟨gx, 8, none⟩ = some (.slice x8 p8.length xc8) ∧ X.cell? ⟨w.heap.size, 0, none⟩ = some (.int .i64 n0) ∧ X.cell? ⟨w.heap.size, 1, none⟩ = some (.int .i64 n1) ∧ X.cell? ⟨w.heap.size, 2, none⟩ = some (.int .i64 n2) ∧ X.cell? ⟨w.heap.size, 3, none⟩ = some (.slice b3 p3.length bc3) ∧ X.cell? ⟨w.heap.size, 4, none⟩ = some (.slice b4 p4.length bc4) ∧ X.cell? ⟨w.heap.size, 5, none⟩ = some (.int .i64 n5) ∧ X.cell? ⟨w.heap.size, 6, none⟩ = some (.slice b6 p6.length bc6) ∧ X.cell? ⟨w.heap.size, 7, none⟩ = some (.slice b7 p7.length bc7) ∧ X.cell? ⟨w.heap.size, 8, none⟩ = some (.slice b8 p8.length bc8) ∧ VarA w.heap.size 36 #[.int .i64 n0, .int .i64 n1, .int .i64 n2, .slice b3 p3.length bc3, .slice b4 p4.length bc4, .int .i64 n5, .slice b6 p6.length bc6, .slice b7 p7.length bc7, .slice b8 p8.length bc8] X ∧ CV lu gu gu m0 m1 m2 m5 (.slice u3 r3.length uc3) (.slice u4 r4.length uc4) (.slice u6 r6.length uc6) (.slice u7 r7.length uc7) (.slice u8 r8.length uc8) r3 r4 r6 r7 r8 X ∧ CV lx gx gx n0 n1 n2 n5 (.slice x3 p3.length xc3) (.slice x4 p4.length xc4) (.slice x6 p6.length xc6) (.slice x7 p7.length xc7) (.slice x8 p8.length xc8) p3 p4 p6 p7 p8 X ∧ CV lg gg gg m0 m1 m2 m5 (.slice g3 r3.length gc3) (.slice g4 r4.length gc4) (.slice g6 r6.length gc6) (.slice g7 r7.length gc7) (.slice g8 r8.length gc8) r3 r4 r6 r7 r8 X ∧ Below w.heap.size w X) (first | (with_reducible assumption) | (with_reducible exact S1.out)) (first | (go_at_call 15; refine (KT.out _ (by assumption)).mono ?_; rintro e v1 ⟨t3, tc3, t4, tc4, t6, tc6, t7, tc7, t8, tc8, rfl, hrd, hS⟩) | (go_at_call 10; refine (KE.out _ _ _ _ _ _ (by assumption) hrd).mono ?_; rintro e v1 ⟨rfl, hS⟩))
    all_goals
      go_wp2_with fail
      go_meet
      exact ⟨rfl, Lib.hid hS.2.2.2.2.2.2.2.2.2.2.2.2.2.2.2.2.2.2⟩
  case rest =>
    obtain ⟨rfl, QA⟩ := hcut
    generalize wc = VA at *
    clear S0 S1 KT KE Q9
    have c0 : VA.cell? ⟨gx, 0, none⟩ = some (.int .i64 n0) := QA.out.2.2.1.var.cell 0
    have c1 : VA.cell? ⟨gx, 1, none⟩ = some (.int .i64 n1) := QA.out.2.2.1.var.cell 1
    have c2 : VA.cell? ⟨gx, 2, none⟩ = some (.int .i64 n2) := QA.out.2.2.1.var.cell 2
    have c3 : VA.cell? ⟨gx, 3, none⟩ = some (.slice x3 p3.length xc3) := QA.out.2.2.1.var.cell 3
    have c4 : VA.cell? ⟨gx, 4, none⟩ = some (.slice x4 p4.length xc4) := QA.out.2.2.1.var.cell 4
    have c5 : VA.cell? ⟨gx, 5, none⟩ = some (.int .i64 n5) := QA.out.2.2.1.var.cell 5
    have c6 : VA.cell? ⟨gx, 6, none⟩ = some (.slice x6 p6.length xc6) := QA.out.2.2.1.var.cell 6
    have c7 : VA.cell? ⟨gx, 7, none⟩ = some (.slice x7 p7.length xc7) := QA.out.2.2.1.var.cell 7
    have c8 : VA.cell? ⟨gx, 8, none⟩ = some (.slice x8 p8.length xc8) := QA.out.2.2.1.var.cell 8
    have KM := Lib.hid (QA.out.2.2.1.mark HFP.out)
    have hm0 := cnt_not (r3 := p3) (r4 := p4) (r6 := p6) (r7 := p7) (r8 := p8)
    go_wp2_with fail
    refine (KM.out).mono ?_
    rintro e VB ⟨rfl, -, hcB⟩
    have QB : Hid (VarA w.heap.size 36 #[.int .i64 n0, .int .i64 n1, .int .i64 n2, .slice b3 p3.length bc3, .slice b4 p4.length bc4, .int .i64 n5, .slice b6 p6.length bc6, .slice b7 p7.length bc7, .slice b8 p8.length bc8] VB ∧ CV lu gu gu m0 m1 m2 m5 (.slice u3 r3.length uc3) (.slice u4 r4.length uc4) (.slice u6 r6.length uc6) (.slice u7 r7.length uc7) (.slice u8 r8.length uc8) r3 r4 r6 r7 r8 VB ∧ CV lg gg gg m0 m1 m2 m5 (.slice g3 r3.length gc3) (.slice g4 r4.length gc4) (.slice g6 r6.length gc6) (.slice g7 r7.length gc7) (.slice g8 r8.length gc8) r3 r4 r6 r7 r8 VB ∧ Below w.heap.size w VB) := Lib.hid ⟨QA.out.1.rng hcB (.inl (by omega)), QA.out.2.1.apart hcB (.inl (by omega)) (.inl (by omega)), QA.out.2.2.2.1.apart hcB (.inr (by omega)) (.inr (by omega)), QA.out.2.2.2.2.trans (hcB.below (by omega) QA.out.2.2.2.2.size)⟩
    clear hcB KM QA c0 c1 c2 c3 c4 c5 c6 c7 c8 qnext
    generalize cntC p3 p4 p6 p7 p8 = zp at *
    have qn : ∀ X Y, (VarA w.heap.size 36 #[.int .i64 n0, .int .i64 n1, .int .i64 n2, .slice b3 p3.length bc3, .slice b4 p4.length bc4, .int .i64 n5, .slice b6 p6.length bc6, .slice b7 p7.length bc7, .slice b8 p8.length bc8] X ∧ CV lu gu gu m0 m1 m2 m5 (.slice u3 r3.length uc3) (.slice u4 r4.length uc4) (.slice u6 r6.length uc6) (.slice u7 r7.length uc7) (.slice u8 r8.length uc8) r3 r4 r6 r7 r8 X ∧ CV lg gg gg m0 m1 m2 m5 (.slice g3 r3.length gc3) (.slice g4 r4.length gc4) (.slice g6 r6.length gc6) (.slice g7 r7.length gc7) (.slice g8 r8.length gc8) r3 r4 r6 r7 r8 X ∧ Below w.heap.size w X) → Below X.heap.size X Y → (VarA w.heap.size 36 #[.int .i64 n0, .int .i64 n1, .int .i64 n2, .slice b3 p3.length bc3, .slice b4 p4.length bc4, .int .i64 n5, .slice b6 p6.length bc6, .slice b7 p7.length bc7, .slice b8 p8.length bc8] Y ∧ CV lu gu gu m0 m1 m2 m5 (.slice u3 r3.length uc3) (.slice u4 r4.length uc4) (.slice u6 r6.length uc6) (.slice u7 r7.length uc7) (.slice u8 r8.length uc8) r3 r4 r6 r7 r8 Y ∧ CV lg gg gg m0 m1 m2 m5 (.slice g3 r3.length gc3) (.slice g4 r4.length gc4) (.slice g6 r6.length gc6) (.slice g7 r7.length gc7) (.slice g8 r8.length gc8) r3 r4 r6 r7 r8 Y ∧ Below w.heap.size w Y) := fun X Y h hb => ⟨h.1.next hb, h.2.1.next hb, h.2.2.1.next hb, h.2.2.2.trans (hb.mono h.2.2.2.size)⟩
    have d0 : VB.cell? ⟨gg, 0, none⟩ = some (.int .i64 m0) := QB.out.2.2.1.var.cell 0
    have d1 : VB.cell? ⟨gg, 1, none⟩ = some (.int .i64 m1) := QB.out.2.2.1.var.cell 1
    have d2 : VB.cell? ⟨gg, 2, none⟩ = some (.int .i64 m2) := QB.out.2.2.1.var.cell 2
    have d3 : VB.cell? ⟨gg, 3, none⟩ = some (.slice g3 r3.length gc3) := QB.out.2.2.1.var.cell 3
    have d4 : VB.cell? ⟨gg, 4, none⟩ = some (.slice g4 r4.length gc4) := QB.out.2.2.1.var.cell 4
    have d5 : VB.cell? ⟨gg, 5, none⟩ = some (.int .i64 m5) := QB.out.2.2.1.var.cell 5
    have d6 : VB.cell? ⟨gg, 6, none⟩ = some (.slice g6 r6.length gc6) := QB.out.2.2.1.var.cell 6
    have d7 : VB.cell? ⟨gg, 7, none⟩ = some (.slice g7 r7.length gc7) := QB.out.2.2.1.var.cell 7
    have d8 : VB.cell? ⟨gg, 8, none⟩ = some (.slice g8 r8.length gc8) := QB.out.2.2.1.var.cell 8
    have e0 : VB.cell? ⟨gu, 0, none⟩ = some (.int .i64 m0) := QB.out.2.1.var.cell 0
    have e1 : VB.cell? ⟨gu, 1, none⟩ = some (.int .i64 m1) := QB.out.2.1.var.cell 1
    have e2 : VB.cell? ⟨gu, 2, none⟩ = some (.int .i64 m2) := QB.out.2.1.var.cell 2
    have e3 : VB.cell? ⟨gu, 3, none⟩ = some (.slice u3 r3.length uc3) := QB.out.2.1.var.cell 3
    have e4 : VB.cell? ⟨gu, 4, none⟩ = some (.slice u4 r4.length uc4) := QB.out.2.1.var.cell 4
    have e5 : VB.cell? ⟨gu, 5, none⟩ = some (.int .i64 m5) := QB.out.2.1.var.cell 5
    have e6 : VB.cell? ⟨gu, 6, none⟩ = some (.slice u6 r6.length uc6) := QB.out.2.1.var.cell 6
    have e7 : VB.cell? ⟨gu, 7, none⟩ = some (.slice u7 r7.length uc7) := QB.out.2.1.var.cell 7
    have e8 : VB.cell? ⟨gu, 8, none⟩ = some (.slice u8 r8.length uc8) := QB.out.2.1.var.cell 8
    have KB := Lib.hid (chan_eq (m0 := m0) (m1 := m1) (m2 := m2) (m5 := m5) QB.out.2.2.1.rd QB.out.2.1.rd HFR.out)
    go_wp2_with fail
    refine (KB.out).mono ?_
    rintro e VC ⟨rfl, hbC⟩
    have QC := Lib.hid (qn _ _ QB.out hbC)
    clear hbC KB QB d0 d1 d2 d3 d4 d5 d6 d7 d8 e0 e1 e2 e3 e4 e5 e6 e7 e8 qn
    have d0 : VC.cell? ⟨gg, 0, none⟩ = some (.int .i64 m0) := QC.out.2.2.1.var.cell 0
    have d1 : VC.cell? ⟨gg, 1, none⟩ = some (.int .i64 m1) := QC.out.2.2.1.var.cell 1
    have d2 : VC.cell? ⟨gg, 2, none⟩ = some (.int .i64 m2) := QC.out.2.2.1.var.cell 2
    have d3 : VC.cell? ⟨gg, 3, none⟩ = some (.slice g3 r3.length gc3) := QC.out.2.2.1.var.cell 3
    have d4 : VC.cell? ⟨gg, 4, none⟩ = some (.slice g4 r4.length gc4) := QC.out.2.2.1.var.cell 4
    have d5 : VC.cell? ⟨gg, 5, none⟩ = some (.int .i64 m5) := QC.out.2.2.1.var.cell 5
    have d6 : VC.cell? ⟨gg, 6, none⟩ = some (.slice g6 r6.length gc6) := QC.out.2.2.1.var.cell 6
    have d7 : VC.cell? ⟨gg, 7, none⟩ = some (.slice g7 r7.length gc7) := QC.out.2.2.1.var.cell 7
    have d8 : VC.cell? ⟨gg, 8, none⟩ = some (.slice g8 r8.length gc8) := QC.out.2.2.1.var.cell 8
    have KC := Lib.hid (QC.out.2.2.1.mark HFR.out)
    go_wp2_with fail
    refine (KC.out).mono ?_
    rintro e VD ⟨rfl, hmD, hcD⟩
    have QD : Hid (VarA w.heap.size 36 #[.int .i64 n0, .int .i64 n1, .int .i64 n2, .slice b3 p3.length bc3, .slice b4 p4.length bc4, .int .i64 n5, .slice b6 p6.length bc6, .slice b7 p7.length bc7, .slice b8 p8.length bc8] VD ∧ CV lu gu gu m0 m1 m2 m5 (.slice u3 r3.length uc3) (.slice u4 r4.length uc4) (.slice u6 r6.length uc6) (.slice u7 r7.length uc7) (.slice u8 r8.length uc8) r3 r4 r6 r7 r8 VD ∧ CV lg gg gg m0 m1 m2 m5 (.slice g3 r3.length gc3) (.slice g4 r4.length gc4) (.slice g6 r6.length gc6) (.slice g7 r7.length gc7) (.slice g8 r8.length gc8) (layStringS.mark (1) r3).1 (layPendingS.mark (1 + 1 * (r3.length : Int)) r4).1 (layEarlyS.mark (1 + 1 * (r3.length : Int) + 4 * (r4.length : Int)) r6).1 (layIntS.mark (1 + 1 * (r3.length : Int) + 4 * (r4.length : Int) + 2 * (r6.length : Int)) r7).1 (layStringS.mark (1 + 1 * (r3.length : Int) + 4 * (r4.length : Int) + 2 * (r6.length : Int) + 1 * (r7.length : Int)) r8).1 VD ∧ Below w.heap.size w VD) := Lib.hid ⟨QC.out.1.rng hcD (.inl (by omega)), QC.out.2.1.apart hcD (.inl (by omega)) (.inl (by omega)), hmD, QC.out.2.2.2.trans (hcD.below (by omega) QC.out.2.2.2.size)⟩
    clear hmD hcD KC QC d0 d1 d2 d3 d4 d5 d6 d7 d8
    have qm : ∀ X Y, (VarA w.heap.size 36 #[.int .i64 n0, .int .i64 n1, .int .i64 n2, .slice b3 p3.length bc3, .slice b4 p4.length bc4, .int .i64 n5, .slice b6 p6.length bc6, .slice b7 p7.length bc7, .slice b8 p8.length bc8] X ∧ CV lu gu gu m0 m1 m2 m5 (.slice u3 r3.length uc3) (.slice u4 r4.length uc4) (.slice u6 r6.length uc6) (.slice u7 r7.length uc7) (.slice u8 r8.length uc8) r3 r4 r6 r7 r8 X ∧ CV lg gg gg m0 m1 m2 m5 (.slice g3 r3.length gc3) (.slice g4 r4.length gc4) (.slice g6 r6.length gc6) (.slice g7 r7.length gc7) (.slice g8 r8.length gc8) (layStringS.mark (1) r3).1 (layPendingS.mark (1 + 1 * (r3.length : Int)) r4).1 (layEarlyS.mark (1 + 1 * (r3.length : Int) + 4 * (r4.length : Int)) r6).1 (layIntS.mark (1 + 1 * (r3.length : Int) + 4 * (r4.length : Int) + 2 * (r6.length : Int)) r7).1 (layStringS.mark (1 + 1 * (r3.length : Int) + 4 * (r4.length : Int) + 2 * (r6.length : Int) + 1 * (r7.length : Int)) r8).1 X ∧ Below w.heap.size w X) → Below X.heap.size X Y → (VarA w.heap.size 36 #[.int .i64 n0, .int .i64 n1, .int .i64 n2, .slice b3 p3.length bc3, .slice b4 p4.length bc4, .int .i64 n5, .slice b6 p6.length bc6, .slice b7 p7.length bc7, .slice b8 p8.length bc8] Y ∧ CV lu gu gu m0 m1 m2 m5 (.slice u3 r3.length uc3) (.slice u4 r4.length uc4) (.slice u6 r6.length uc6) (.slice u7 r7.length uc7) (.slice u8 r8.length uc8) r3 r4 r6 r7 r8 Y ∧ CV lg gg gg m0 m1 m2 m5 (.slice g3 r3.length gc3) (.slice g4 r4.length gc4) (.slice g6 r6.length gc6) (.slice g7 r7.length gc7) (.slice g8 r8.length gc8) (layStringS.mark (1) r3).1 (layPendingS.mark (1 + 1 * (r3.length : Int)) r4).1 (layEarlyS.mark (1 + 1 * (r3.length : Int) + 4 * (r4.length : Int)) r6).1 (layIntS.mark (1 + 1 * (r3.length : Int) + 4 * (r4.length : Int) + 2 * (r6.length : Int)) r7).1 (layStringS.mark (1 + 1 * (r3.length : Int) + 4 * (r4.length : Int) + 2 * (r6.length : Int) + 1 * (r7.length : Int)) r8).1 Y ∧ Below w.heap.size w Y) := fun X Y h hb => ⟨h.1.next hb, h.2.1.next hb, h.2.2.1.next hb, h.2.2.2.trans (hb.mono h.2.2.2.size)⟩
    have KH : Hid (∀ X, (VarA w.heap.size 36 #[.int .i64 n0, .int .i64 n1, .int .i64 n2, .slice b3 p3.length bc3, .slice b4 p4.length bc4, .int .i64 n5, .slice b6 p6.length bc6, .slice b7 p7.length bc7, .slice b8 p8.length bc8] X ∧ CV lu gu gu m0 m1 m2 m5 (.slice u3 r3.length uc3) (.slice u4 r4.length uc4) (.slice u6 r6.length uc6) (.slice u7 r7.length uc7) (.slice u8 r8.length uc8) r3 r4 r6 r7 r8 X ∧ CV lg gg gg m0 m1 m2 m5 (.slice g3 r3.length gc3) (.slice g4 r4.length gc4) (.slice g6 r6.length gc6) (.slice g7 r7.length gc7) (.slice g8 r8.length gc8) (layStringS.mark (1) r3).1 (layPendingS.mark (1 + 1 * (r3.length : Int)) r4).1 (layEarlyS.mark (1 + 1 * (r3.length : Int) + 4 * (r4.length : Int)) r6).1 (layIntS.mark (1 + 1 * (r3.length : Int) + 4 * (r4.length : Int) + 2 * (r6.length : Int)) r7).1 (layStringS.mark (1 + 1 * (r3.length : Int) + 4 * (r4.length : Int) + 2 * (r6.length : Int) + 1 * (r7.length : Int)) r8).1 X ∧ Below w.heap.size w X) → Calls Try.prog 12 #[.agg #[.int .i64 m0, .int .i64 m1, .int .i64 m2, .slice g3 r3.length gc3, .slice g4 r4.length gc4, .int .i64 m5, .slice g6 r6.length gc6, .slice g7 r7.length gc7, .slice g8 r8.length gc8], .int .i64 1] X fun e Y => e = .returned (.int .i64 (cntC r3 r4 r6 r7 r8)) ∧ Below X.heap.size X Y) := Lib.hid (fun X h => h.2.2.1.held HFR.out)
    have hm1 := cnt_not (r3 := r3) (r4 := r4) (r6 := r6) (r7 := r7) (r8 := r8)
    generalize cntC r3 r4 r6 r7 r8 = zr at *
    have d0 : VD.cell? ⟨gg, 0, none⟩ = some (.int .i64 m0) := QD.out.2.2.1.var.cell 0
    have d1 : VD.cell? ⟨gg, 1, none⟩ = some (.int .i64 m1) := QD.out.2.2.1.var.cell 1
    have d2 : VD.cell? ⟨gg, 2, none⟩ = some (.int .i64 m2) := QD.out.2.2.1.var.cell 2
    have d3 : VD.cell? ⟨gg, 3, none⟩ = some (.slice g3 r3.length gc3) := QD.out.2.2.1.var.cell 3
    have d4 : VD.cell? ⟨gg, 4, none⟩ = some (.slice g4 r4.length gc4) := QD.out.2.2.1.var.cell 4
    have d5 : VD.cell? ⟨gg, 5, none⟩ = some (.int .i64 m5) := QD.out.2.2.1.var.cell 5
    have d6 : VD.cell? ⟨gg, 6, none⟩ = some (.slice g6 r6.length gc6) := QD.out.2.2.1.var.cell 6
    have d7 : VD.cell? ⟨gg, 7, none⟩ = some (.slice g7 r7.length gc7) := QD.out.2.2.1.var.cell 7
    have d8 : VD.cell? ⟨gg, 8, none⟩ = some (.slice g8 r8.length gc8) := QD.out.2.2.1.var.cell 8
    go_wp2_with fail
    refine (KH.out VD QD.out).mono ?_
    rintro e VE ⟨rfl, hbE⟩
    have QE := Lib.hid (qm _ _ QD.out hbE)
    clear hbE QD d0 d1 d2 d3 d4 d5 d6 d7 d8
    have c0 : VE.cell? ⟨w.heap.size, 0, none⟩ = some (.int .i64 n0) := QE.out.1.cell 0
    have c1 : VE.cell? ⟨w.heap.size, 1, none⟩ = some (.int .i64 n1) := QE.out.1.cell 1
    have c2 : VE.cell? ⟨w.heap.size, 2, none⟩ = some (.int .i64 n2) := QE.out.1.cell 2
    have c3 : VE.cell? ⟨w.heap.size, 3, none⟩ = some (.slice b3 p3.length bc3) := QE.out.1.cell 3
    have c4 : VE.cell? ⟨w.heap.size, 4, none⟩ = some (.slice b4 p4.length bc4) := QE.out.1.cell 4
    have c5 : VE.cell? ⟨w.heap.size, 5, none⟩ = some (.int .i64 n5) := QE.out.1.cell 5
    have c6 : VE.cell? ⟨w.heap.size, 6, none⟩ = some (.slice b6 p6.length bc6) := QE.out.1.cell 6
    have c7 : VE.cell? ⟨w.heap.size, 7, none⟩ = some (.slice b7 p7.length bc7) := QE.out.1.cell 7
    have c8 : VE.cell? ⟨w.heap.size, 8, none⟩ = some (.slice b8 p8.length bc8) := QE.out.1.cell 8
    go_wp2_with fail
    refine (TT.out VE QE.out.2.2.2).mono ?_
    rintro e VF ⟨v, rfl, hv⟩
    obtain ⟨t3, tc3, t4, tc4, t6, tc6, t7, tc7, t8, tc8, f3, f4, f6, f7, f8, rfl, hcoF, hbF⟩ := hv
    have QF := Lib.hid (qm _ _ QE.out hbF)
    have KF := Lib.hid (HI.out HF.out hbig _ _ _ _ _ VF hcoF.rd)
    clear hcoF hbF QE c0 c1 c2 c3 c4 c5 c6 c7 c8 f3 f4 f6 f7 f8
    go_wp2_with fail
    refine (KF.out).mono ?_
    rintro e VG ⟨v, rfl, hv⟩
    obtain ⟨h3, hc3, h4, hc4, h6, hc6, h7, hc7, h8, hc8, f3, f4, f6, f7, f8, rfl, hcoG, hbG⟩ := hv
    have hal : Below VG.heap.size VG (VG.alloc (.cells #[.int .i64 m0, .int .i64 m1, .int .i64 m2, .slice h3 r3.length hc3, .slice h4 r4.length hc4, .int .i64 m5, .slice h6 r6.length hc6, .slice h7 r7.length hc7, .slice h8 r8.length hc8] ChanT)) := (Below.refl _ _).alloc (Nat.le_refl _) _
    have QG := Lib.hid (qm _ _ (qm _ _ QF.out hbG) hal)
    have HG := Lib.hid (CV.new (m0 := m0) (m1 := m1) (m2 := m2) (m5 := m5) hcoG)
    clear hcoG hbG hal KF QF f3 f4 f6 f7 f8
    go_upto_region 27 with fail
    generalize VG.alloc (.cells #[.int .i64 m0, .int .i64 m1, .int .i64 m2, .slice h3 r3.length hc3, .slice h4 r4.length hc4, .int .i64 m5, .slice h6 r6.length hc6, .slice h7 r7.length hc7, .slice h8 r8.length hc8] ChanT) = VH at *
    generalize VG.heap.size = gh at *
    generalize VF.heap.size = lh at *
    clear VG VF
    have d0 : VH.cell? ⟨gh, 0, none⟩ = some (.int .i64 m0) := HG.out.var.cell 0
    have d1 : VH.cell? ⟨gh, 1, none⟩ = some (.int .i64 m1) := HG.out.var.cell 1
    have d2 : VH.cell? ⟨gh, 2, none⟩ = some (.int .i64 m2) := HG.out.var.cell 2
    have d3 : VH.cell? ⟨gh, 3, none⟩ = some (.slice h3 r3.length hc3) := HG.out.var.cell 3
    have d4 : VH.cell? ⟨gh, 4, none⟩ = some (.slice h4 r4.length hc4) := HG.out.var.cell 4
    have d5 : VH.cell? ⟨gh, 5, none⟩ = some (.int .i64 m5) := HG.out.var.cell 5
    have d6 : VH.cell? ⟨gh, 6, none⟩ = some (.slice h6 r6.length hc6) := HG.out.var.cell 6
    have d7 : VH.cell? ⟨gh, 7, none⟩ = some (.slice h7 r7.length hc7) := HG.out.var.cell 7
    have d8 : VH.cell? ⟨gh, 8, none⟩ = some (.slice h8 r8.length hc8) := HG.out.var.cell 8
    have e0 : VH.cell? ⟨gu, 0, none⟩ = some (.int .i64 m0) := QG.out.2.1.var.cell 0
    have e1 : VH.cell? ⟨gu, 1, none⟩ = some (.int .i64 m1) := QG.out.2.1.var.cell 1
    have e2 : VH.cell? ⟨gu, 2, none⟩ = some (.int .i64 m2) := QG.out.2.1.var.cell 2
    have e3 : VH.cell? ⟨gu, 3, none⟩ = some (.slice u3 r3.length uc3) := QG.out.2.1.var.cell 3
    have e4 : VH.cell? ⟨gu, 4, none⟩ = some (.slice u4 r4.length uc4) := QG.out.2.1.var.cell 4
    have e5 : VH.cell? ⟨gu, 5, none⟩ = some (.int .i64 m5) := QG.out.2.1.var.cell 5
    have e6 : VH.cell? ⟨gu, 6, none⟩ = some (.slice u6 r6.length uc6) := QG.out.2.1.var.cell 6
    have e7 : VH.cell? ⟨gu, 7, none⟩ = some (.slice u7 r7.length uc7) := QG.out.2.1.var.cell 7
    have e8 : VH.cell? ⟨gu, 8, none⟩ = some (.slice u8 r8.length uc8) := QG.out.2.1.var.cell 8
    have KJ := Lib.hid (chan_eq (m0 := m0) (m1 := m1) (m2 := m2) (m5 := m5) HG.out.rd QG.out.2.1.rd HFR.out)
    go_wp2_with fail
    refine (KJ.out).mono ?_
    rintro e VI ⟨rfl, hbI⟩
    have QI := Lib.hid (qm _ _ QG.out hbI)
    clear hbI KJ QG HG d0 d1 d2 d3 d4 d5 d6 d7 d8 e0 e1 e2 e3 e4 e5 e6 e7 e8
    have d0 : VI.cell? ⟨gg, 0, none⟩ = some (.int .i64 m0) := QI.out.2.2.1.var.cell 0
    have d1 : VI.cell? ⟨gg, 1, none⟩ = some (.int .i64 m1) := QI.out.2.2.1.var.cell 1
    have d2 : VI.cell? ⟨gg, 2, none⟩ = some (.int .i64 m2) := QI.out.2.2.1.var.cell 2
    have d3 : VI.cell? ⟨gg, 3, none⟩ = some (.slice g3 r3.length gc3) := QI.out.2.2.1.var.cell 3
    have d4 : VI.cell? ⟨gg, 4, none⟩ = some (.slice g4 r4.length gc4) := QI.out.2.2.1.var.cell 4
    have d5 : VI.cell? ⟨gg, 5, none⟩ = some (.int .i64 m5) := QI.out.2.2.1.var.cell 5
    have d6 : VI.cell? ⟨gg, 6, none⟩ = some (.slice g6 r6.length gc6) := QI.out.2.2.1.var.cell 6
    have d7 : VI.cell? ⟨gg, 7, none⟩ = some (.slice g7 r7.length gc7) := QI.out.2.2.1.var.cell 7
    have d8 : VI.cell? ⟨gg, 8, none⟩ = some (.slice g8 r8.length gc8) := QI.out.2.2.1.var.cell 8
    go_wp2_with fail
    refine (KH.out VI QI.out).mono ?_
    rintro e VK ⟨rfl, hbK⟩
    have BZ := Lib.hid (QI.out.2.2.2.trans (hbK.mono QI.out.2.2.2.size))
    clear hbK
    go_wp2_with fail
    go_ret
    exact ⟨rfl, BZ.out⟩

end Go.Proofs.Ythljmjbmmgligar
