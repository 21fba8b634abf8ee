/-
  The exact law on StepBoth, out of one answer that both give.
-/
import Derived.Test.YtoaifgblbfdncabDoorJ36
namespace Go.Proofs.YtoaifgblbfdncabDoor
open Go.RowKit

set_option maxRecDepth 100000 in
set_option maxHeartbeats 12800000 in
theorem lawStepBothF {L : World → Prop} (x0 : Int) (x1 x2 : ByteArray) (x3 : Int) (v4 : Value) (r4 : List Int) (x5 : Int) (y0 : Int) (y1 y2 : ByteArray) (y3 : Int) (u4 : Value) (s4 : List Int) (y5 : Int) (now : Int) (m1 : x1.size ≤ 9223372036854775807) (m2 : x2.size ≤ 9223372036854775807) (m4 : RoomInt r4) (nm1 : y1.size ≤ 9223372036854775807) (nm2 : y2.size ≤ 9223372036854775807) (nm4 : RoomInt s4) (z0 : Int) (z1 z2 : ByteArray) (z3 : Int) (t4 : List Int) (z5 : Int) (n0 : Int) (n1 n2 : ByteArray) (n3 : Int) (o4 : List Int) (n5 : Int) (ok : Bool) (lt4 : t4.length ≤ 10000000) (lo4 : o4.length ≤ 10000000) (hI : FitsSlot x1 x2 r4 → FitsSlot y1 y2 s4 → ∀ (v4 u4 : Value) (X : World), L X → layIntS.rd X [v4] r4 → layIntS.rd X [u4] s4 → Calls Tryd.prog 13 #[.agg #[.int .i64 x0, .string x1, .string x2, .int .i64 x3, v4, .int .i64 x5, .int .i64 y0, .string y1, .string y2, .int .i64 y3, u4, .int .i64 y5], .int .i64 now] X (SlotsMadeB z0 z1 z2 z3 t4 z5 n0 n1 n2 n3 o4 n5 ok X)) (hS : FitsSlot x1 x2 r4 → FitsSlot y1 y2 s4 → ∀ (v4 u4 : Value) (X : World), layIntS.rd X [v4] r4 → layIntS.rd X [u4] s4 → Calls Tryd.prog 11 #[.agg #[.int .i64 x0, .string x1, .string x2, .int .i64 x3, v4, .int .i64 x5, .int .i64 y0, .string y1, .string y2, .int .i64 y3, u4, .int .i64 y5], .int .i64 now] X (SlotsMadeB z0 z1 z2 z3 t4 z5 n0 n1 n2 n3 o4 n5 ok X))
    (w : World) (hL : ∀ X, Below w.heap.size w X → L X) (ha : layIntS.rd w [v4] r4) (hb : layIntS.rd w [u4] s4) :
    Calls Tryd.prog 4 #[.agg #[.int .i64 x0, .string x1, .string x2, .int .i64 x3, v4, .int .i64 x5, .int .i64 y0, .string y1, .string y2, .int .i64 y3, u4, .int .i64 y5], .int .i64 now] w fun e w' => e = .returned (.bool true) ∧ Below w.heap.size w w' := by
  obtain ⟨a4, p4, rfl⟩ := rows_form ha
  obtain ⟨b4, q4, rfl⟩ := rows_form hb
  have HA := Lib.hid ha
  have HB := Lib.hid hb
  have HI0 := Lib.hid hI
  have LL := Lib.hid hL
  have HS0 := Lib.hid hS
  have A0 := Lib.hid (VarA.new w LSsT #[.int .i64 x0, .string x1, .string x2, .int .i64 x3, .slice a4 r4.length p4, .int .i64 x5, .int .i64 y0, .string y1, .string y2, .int .i64 y3, .slice b4 s4.length q4, .int .i64 y5])
  have B0 := Lib.hid ((Below.refl w.heap.size w).alloc (Nat.le_refl _) (.cells #[.int .i64 x0, .string x1, .string x2, .int .i64 x3, .slice a4 r4.length p4, .int .i64 x5, .int .i64 y0, .string y1, .string y2, .int .i64 y3, .slice b4 s4.length q4, .int .i64 y5] LSsT))
  have hw0 : w.heap.size < (w.alloc (.cells #[.int .i64 x0, .string x1, .string x2, .int .i64 x3, .slice a4 r4.length p4, .int .i64 x5, .int .i64 y0, .string y1, .string y2, .int .i64 y3, .slice b4 s4.length q4, .int .i64 y5] LSsT)).heap.size := by simp
  clear hI hS hL ha hb
  go_enter Tryd.func4, Tryd.ntmps4
  go_upto_region 1 with fail
  generalize w.alloc (.cells #[.int .i64 x0, .string x1, .string x2, .int .i64 x3, .slice a4 r4.length p4, .int .i64 x5, .int .i64 y0, .string y1, .string y2, .int .i64 y3, .slice b4 s4.length q4, .int .i64 y5] LSsT) = Y0 at *
  have hbb : (ok != ok) = false := by cases ok <;> rfl
  have c0 : Y0.cell? ⟨w.heap.size, 0, none⟩ = some (.int .i64 x0) := A0.out.cell 0
  have c1 : Y0.cell? ⟨w.heap.size, 1, none⟩ = some (.string x1) := A0.out.cell 1
  have c2 : Y0.cell? ⟨w.heap.size, 2, none⟩ = some (.string x2) := A0.out.cell 2
  have c3 : Y0.cell? ⟨w.heap.size, 3, none⟩ = some (.int .i64 x3) := A0.out.cell 3
  have c4 : Y0.cell? ⟨w.heap.size, 4, none⟩ = some (.slice a4 r4.length p4) := A0.out.cell 4
  have c5 : Y0.cell? ⟨w.heap.size, 5, none⟩ = some (.int .i64 x5) := A0.out.cell 5
  have c6 : Y0.cell? ⟨w.heap.size, 6, none⟩ = some (.int .i64 y0) := A0.out.cell 6
  have c7 : Y0.cell? ⟨w.heap.size, 7, none⟩ = some (.string y1) := A0.out.cell 7
  have c8 : Y0.cell? ⟨w.heap.size, 8, none⟩ = some (.string y2) := A0.out.cell 8
  have c9 : Y0.cell? ⟨w.heap.size, 9, none⟩ = some (.int .i64 y3) := A0.out.cell 9
  have c10 : Y0.cell? ⟨w.heap.size, 10, none⟩ = some (.slice b4 s4.length q4) := A0.out.cell 10
  have c11 : Y0.cell? ⟨w.heap.size, 11, none⟩ = some (.int .i64 y5) := A0.out.cell 11
  have KZ := Lib.hid (szSlots_any x0 x1 x2 x3 _ r4 x5 y0 y1 y2 y3 _ s4 y5 1048576 (by omega) (by omega) m1 m2 m4 nm1 nm2 nm4 Y0 (layIntS.below HA.out B0.out) (layIntS.below HB.out B0.out))
  go_wp2_with fail
  refine (KZ.out).mono ?_
  rintro e Y1 ⟨⟨z, rfl, hz⟩, hb⟩
  have zY1 : Y0.heap.size ≤ Y1.heap.size := hb.size
  replace A0 := Lib.hid (A0.out.next hb)
  replace B0 := Lib.hid (B0.out.trans (hb.mono B0.out.size))
  clear hb KZ c0 c1 c2 c3 c4 c5 c6 c7 c8 c9 c10 c11
  rcases hz with rfl | ⟨hz0, hz1, hfit⟩
  · go_wp2_with fail
    go_ret
    exact ⟨rfl, B0.out⟩
  have hz2 : ¬ (z < 0) := by omega
  have HF1 := Lib.hid hfit.1
  have HF2 := Lib.hid hfit.2
  have HI := Lib.hid (HI0.out hfit.1 hfit.2)
  have HS := Lib.hid (HS0.out hfit.1 hfit.2)
  have TT : Hid (∀ X, Below w.heap.size w X → Calls Tryd.prog 12 #[.agg #[.int .i64 x0, .string x1, .string x2, .int .i64 x3, .slice a4 r4.length p4, .int .i64 x5, .int .i64 y0, .string y1, .string y2, .int .i64 y3, .slice b4 s4.length q4, .int .i64 y5]] X (SlotsMade x0 x1 x2 x3 r4 x5 y0 y1 y2 y3 s4 y5 X)) := Lib.hid (fun X hX => toSlots_any x0 x1 x2 x3 _ r4 x5 y0 y1 y2 y3 _ s4 y5 X (layIntS.below HA.out hX) (layIntS.below HB.out hX) HF1.out.2.2 HF2.out.2.2)
  have hr4 : r4.length ≤ 10000000 := by have := HF1.out.2.2; unfold FitsInt at this; omega
  have hs4 : s4.length ≤ 10000000 := by have := HF2.out.2.2; unfold FitsInt at this; omega
  clear hfit hz0 hz1 HI0 HS0
  have c0 : Y1.cell? ⟨w.heap.size, 0, none⟩ = some (.int .i64 x0) := A0.out.cell 0
  have c1 : Y1.cell? ⟨w.heap.size, 1, none⟩ = some (.string x1) := A0.out.cell 1
  have c2 : Y1.cell? ⟨w.heap.size, 2, none⟩ = some (.string x2) := A0.out.cell 2
  have c3 : Y1.cell? ⟨w.heap.size, 3, none⟩ = some (.int .i64 x3) := A0.out.cell 3
  have c4 : Y1.cell? ⟨w.heap.size, 4, none⟩ = some (.slice a4 r4.length p4) := A0.out.cell 4
  have c5 : Y1.cell? ⟨w.heap.size, 5, none⟩ = some (.int .i64 x5) := A0.out.cell 5
  have c6 : Y1.cell? ⟨w.heap.size, 6, none⟩ = some (.int .i64 y0) := A0.out.cell 6
  have c7 : Y1.cell? ⟨w.heap.size, 7, none⟩ = some (.string y1) := A0.out.cell 7
  have c8 : Y1.cell? ⟨w.heap.size, 8, none⟩ = some (.string y2) := A0.out.cell 8
  have c9 : Y1.cell? ⟨w.heap.size, 9, none⟩ = some (.int .i64 y3) := A0.out.cell 9
  have c10 : Y1.cell? ⟨w.heap.size, 10, none⟩ = some (.slice b4 s4.length q4) := A0.out.cell 10
  have c11 : Y1.cell? ⟨w.heap.size, 11, none⟩ = some (.int .i64 y5) := A0.out.cell 11
  go_wp2_with fail
  refine (TT.out Y1 B0.out).mono ?_
  rintro e Y2 ⟨v5, u5, f5, g5, rfl, hd, o1, o2, hb⟩
  obtain ⟨ta, tk, rfl⟩ := rows_form (layIntS.read o1)
  obtain ⟨ta', tk', rfl⟩ := rows_form (layIntS.read o2)
  have zY2 : Y1.heap.size ≤ Y2.heap.size := hb.size
  replace A0 := Lib.hid (A0.out.next hb)
  replace B0 := Lib.hid (B0.out.trans (hb.mono B0.out.size))
  have K := Lib.hid (HS.out _ _ Y2 (layIntS.read o1) (layIntS.read o2))
  clear hb hd o1 o2 f5 g5 c0 c1 c2 c3 c4 c5 c6 c7 c8 c9 c10 c11
  go_wp2_with fail
  refine (K.out).mono ?_
  rintro e Y3 ⟨v5, u5, f5, g5, rfl, hd, o1, o2, hb⟩
  obtain ⟨ua, uk, rfl⟩ := rows_form (layIntS.read o1)
  obtain ⟨ua', uk', rfl⟩ := rows_form (layIntS.read o2)
  have zY3 : Y2.heap.size ≤ Y3.heap.size := hb.size
  replace A0 := Lib.hid (A0.out.next hb)
  replace B0 := Lib.hid (B0.out.trans (hb.mono B0.out.size))
  clear K
  have hal : Below Y3.heap.size Y3 (Y3.alloc (.cells #[.int .i64 z0, .string z1, .string z2, .int .i64 z3, .slice ua t4.length uk, .int .i64 z5, .int .i64 n0, .string n1, .string n2, .int .i64 n3, .slice ua' o4.length uk', .int .i64 n5] SlotsT)) := (Below.refl _ _).alloc (Nat.le_refl _) _
  have hszY4 : (Y3.alloc (.cells #[.int .i64 z0, .string z1, .string z2, .int .i64 z3, .slice ua t4.length uk, .int .i64 z5, .int .i64 n0, .string n1, .string n2, .int .i64 n3, .slice ua' o4.length uk', .int .i64 n5] SlotsT)).heap.size = Y3.heap.size + 1 := by simp
  replace A0 := Lib.hid (A0.out.next hal)
  replace B0 := Lib.hid (B0.out.trans (hal.mono B0.out.size))
  have U := Lib.hid (SO.new (cs := #[.int .i64 z0, .string z1, .string z2, .int .i64 z3, .slice ua t4.length uk, .int .i64 z5, .int .i64 n0, .string n1, .string n2, .int .i64 n3, .slice ua' o4.length uk', .int .i64 n5]) hd o1 o2)
  clear hb hal hd o1 o2 f5 g5
  go_upto_region 6 with fail
  generalize Y3.alloc (.cells #[.int .i64 z0, .string z1, .string z2, .int .i64 z3, .slice ua t4.length uk, .int .i64 z5, .int .i64 n0, .string n1, .string n2, .int .i64 n3, .slice ua' o4.length uk', .int .i64 n5] SlotsT) = Y4 at *
  have c0 : Y4.cell? ⟨w.heap.size, 0, none⟩ = some (.int .i64 x0) := A0.out.cell 0
  have c1 : Y4.cell? ⟨w.heap.size, 1, none⟩ = some (.string x1) := A0.out.cell 1
  have c2 : Y4.cell? ⟨w.heap.size, 2, none⟩ = some (.string x2) := A0.out.cell 2
  have c3 : Y4.cell? ⟨w.heap.size, 3, none⟩ = some (.int .i64 x3) := A0.out.cell 3
  have c4 : Y4.cell? ⟨w.heap.size, 4, none⟩ = some (.slice a4 r4.length p4) := A0.out.cell 4
  have c5 : Y4.cell? ⟨w.heap.size, 5, none⟩ = some (.int .i64 x5) := A0.out.cell 5
  have c6 : Y4.cell? ⟨w.heap.size, 6, none⟩ = some (.int .i64 y0) := A0.out.cell 6
  have c7 : Y4.cell? ⟨w.heap.size, 7, none⟩ = some (.string y1) := A0.out.cell 7
  have c8 : Y4.cell? ⟨w.heap.size, 8, none⟩ = some (.string y2) := A0.out.cell 8
  have c9 : Y4.cell? ⟨w.heap.size, 9, none⟩ = some (.int .i64 y3) := A0.out.cell 9
  have c10 : Y4.cell? ⟨w.heap.size, 10, none⟩ = some (.slice b4 s4.length q4) := A0.out.cell 10
  have c11 : Y4.cell? ⟨w.heap.size, 11, none⟩ = some (.int .i64 y5) := A0.out.cell 11
  go_wp2_with fail
  refine (TT.out Y4 B0.out).mono ?_
  rintro e Y5 ⟨v5, u5, f5, g5, rfl, hd, o1, o2, hb⟩
  obtain ⟨xa, xk, rfl⟩ := rows_form (layIntS.read o1)
  obtain ⟨xa', xk', rfl⟩ := rows_form (layIntS.read o2)
  have zY5 : Y4.heap.size ≤ Y5.heap.size := hb.size
  replace A0 := Lib.hid (A0.out.next hb)
  replace B0 := Lib.hid (B0.out.trans (hb.mono B0.out.size))
  replace U := Lib.hid (U.out.next hb)
  have hal : Below Y5.heap.size Y5 (Y5.alloc (.cells #[.int .i64 x0, .string x1, .string x2, .int .i64 x3, .slice xa r4.length xk, .int .i64 x5, .int .i64 y0, .string y1, .string y2, .int .i64 y3, .slice xa' s4.length xk', .int .i64 y5] SlotsT)) := (Below.refl _ _).alloc (Nat.le_refl _) _
  have hszY6 : (Y5.alloc (.cells #[.int .i64 x0, .string x1, .string x2, .int .i64 x3, .slice xa r4.length xk, .int .i64 x5, .int .i64 y0, .string y1, .string y2, .int .i64 y3, .slice xa' s4.length xk', .int .i64 y5] SlotsT)).heap.size = Y5.heap.size + 1 := by simp
  replace A0 := Lib.hid (A0.out.next hal)
  replace B0 := Lib.hid (B0.out.trans (hal.mono B0.out.size))
  replace U := Lib.hid (U.out.next hal)
  have VV := Lib.hid (SO.new (cs := #[.int .i64 x0, .string x1, .string x2, .int .i64 x3, .slice xa r4.length xk, .int .i64 x5, .int .i64 y0, .string y1, .string y2, .int .i64 y3, .slice xa' s4.length xk', .int .i64 y5]) hd o1 o2)
  clear hb hal hd o1 o2 f5 g5 c0 c1 c2 c3 c4 c5 c6 c7 c8 c9 c10 c11
  go_upto_region 7 with fail
  generalize Y5.alloc (.cells #[.int .i64 x0, .string x1, .string x2, .int .i64 x3, .slice xa r4.length xk, .int .i64 x5, .int .i64 y0, .string y1, .string y2, .int .i64 y3, .slice xa' s4.length xk', .int .i64 y5] SlotsT) = Y6 at *
  have c0 : Y6.cell? ⟨Y5.heap.size, 0, none⟩ = some (.int .i64 x0) := VV.out.var.cell 0
  have c1 : Y6.cell? ⟨Y5.heap.size, 1, none⟩ = some (.string x1) := VV.out.var.cell 1
  have c2 : Y6.cell? ⟨Y5.heap.size, 2, none⟩ = some (.string x2) := VV.out.var.cell 2
  have c3 : Y6.cell? ⟨Y5.heap.size, 3, none⟩ = some (.int .i64 x3) := VV.out.var.cell 3
  have c4 : Y6.cell? ⟨Y5.heap.size, 4, none⟩ = some (.slice xa r4.length xk) := VV.out.var.cell 4
  have c5 : Y6.cell? ⟨Y5.heap.size, 5, none⟩ = some (.int .i64 x5) := VV.out.var.cell 5
  have c6 : Y6.cell? ⟨Y5.heap.size, 6, none⟩ = some (.int .i64 y0) := VV.out.var.cell 6
  have c7 : Y6.cell? ⟨Y5.heap.size, 7, none⟩ = some (.string y1) := VV.out.var.cell 7
  have c8 : Y6.cell? ⟨Y5.heap.size, 8, none⟩ = some (.string y2) := VV.out.var.cell 8
  have c9 : Y6.cell? ⟨Y5.heap.size, 9, none⟩ = some (.int .i64 y3) := VV.out.var.cell 9
  have c10 : Y6.cell? ⟨Y5.heap.size, 10, none⟩ = some (.slice xa' s4.length xk') := VV.out.var.cell 10
  have c11 : Y6.cell? ⟨Y5.heap.size, 11, none⟩ = some (.int .i64 y5) := VV.out.var.cell 11
  have K := Lib.hid (HI.out _ _ Y6 (LL.out _ B0.out) VV.out.rd1 VV.out.rd2)
  go_wp2_with fail
  refine (K.out).mono ?_
  rintro e Y7 ⟨v5, u5, f5, g5, rfl, hd, o1, o2, hb⟩
  obtain ⟨ga, gk, rfl⟩ := rows_form (layIntS.read o1)
  obtain ⟨ga', gk', rfl⟩ := rows_form (layIntS.read o2)
  have zY7 : Y6.heap.size ≤ Y7.heap.size := hb.size
  replace A0 := Lib.hid (A0.out.next hb)
  replace B0 := Lib.hid (B0.out.trans (hb.mono B0.out.size))
  replace U := Lib.hid (U.out.next hb)
  replace VV := Lib.hid (VV.out.next hb)
  clear K
  have hal : Below Y7.heap.size Y7 (Y7.alloc (.cells #[.int .i64 z0, .string z1, .string z2, .int .i64 z3, .slice ga t4.length gk, .int .i64 z5, .int .i64 n0, .string n1, .string n2, .int .i64 n3, .slice ga' o4.length gk', .int .i64 n5] SlotsT)) := (Below.refl _ _).alloc (Nat.le_refl _) _
  have hszY8 : (Y7.alloc (.cells #[.int .i64 z0, .string z1, .string z2, .int .i64 z3, .slice ga t4.length gk, .int .i64 z5, .int .i64 n0, .string n1, .string n2, .int .i64 n3, .slice ga' o4.length gk', .int .i64 n5] SlotsT)).heap.size = Y7.heap.size + 1 := by simp
  replace A0 := Lib.hid (A0.out.next hal)
  replace B0 := Lib.hid (B0.out.trans (hal.mono B0.out.size))
  replace U := Lib.hid (U.out.next hal)
  replace VV := Lib.hid (VV.out.next hal)
  have GG := Lib.hid (SO.new (cs := #[.int .i64 z0, .string z1, .string z2, .int .i64 z3, .slice ga t4.length gk, .int .i64 z5, .int .i64 n0, .string n1, .string n2, .int .i64 n3, .slice ga' o4.length gk', .int .i64 n5]) hd o1 o2)
  clear hb hal hd o1 o2 f5 g5 c0 c1 c2 c3 c4 c5 c6 c7 c8 c9 c10 c11
  go_upto_region 8 with fail
  generalize Y7.alloc (.cells #[.int .i64 z0, .string z1, .string z2, .int .i64 z3, .slice ga t4.length gk, .int .i64 z5, .int .i64 n0, .string n1, .string n2, .int .i64 n3, .slice ga' o4.length gk', .int .i64 n5] SlotsT) = Y8 at *
  have c0 : Y8.cell? ⟨Y7.heap.size, 0, none⟩ = some (.int .i64 z0) := GG.out.var.cell 0
  have c1 : Y8.cell? ⟨Y7.heap.size, 1, none⟩ = some (.string z1) := GG.out.var.cell 1
  have c2 : Y8.cell? ⟨Y7.heap.size, 2, none⟩ = some (.string z2) := GG.out.var.cell 2
  have c3 : Y8.cell? ⟨Y7.heap.size, 3, none⟩ = some (.int .i64 z3) := GG.out.var.cell 3
  have c4 : Y8.cell? ⟨Y7.heap.size, 4, none⟩ = some (.slice ga t4.length gk) := GG.out.var.cell 4
  have c5 : Y8.cell? ⟨Y7.heap.size, 5, none⟩ = some (.int .i64 z5) := GG.out.var.cell 5
  have c6 : Y8.cell? ⟨Y7.heap.size, 6, none⟩ = some (.int .i64 n0) := GG.out.var.cell 6
  have c7 : Y8.cell? ⟨Y7.heap.size, 7, none⟩ = some (.string n1) := GG.out.var.cell 7
  have c8 : Y8.cell? ⟨Y7.heap.size, 8, none⟩ = some (.string n2) := GG.out.var.cell 8
  have c9 : Y8.cell? ⟨Y7.heap.size, 9, none⟩ = some (.int .i64 n3) := GG.out.var.cell 9
  have c10 : Y8.cell? ⟨Y7.heap.size, 10, none⟩ = some (.slice ga' o4.length gk') := GG.out.var.cell 10
  have c11 : Y8.cell? ⟨Y7.heap.size, 11, none⟩ = some (.int .i64 n5) := GG.out.var.cell 11
  have d0 : Y8.cell? ⟨Y3.heap.size, 0, none⟩ = some (.int .i64 z0) := U.out.var.cell 0
  have d1 : Y8.cell? ⟨Y3.heap.size, 1, none⟩ = some (.string z1) := U.out.var.cell 1
  have d2 : Y8.cell? ⟨Y3.heap.size, 2, none⟩ = some (.string z2) := U.out.var.cell 2
  have d3 : Y8.cell? ⟨Y3.heap.size, 3, none⟩ = some (.int .i64 z3) := U.out.var.cell 3
  have d4 : Y8.cell? ⟨Y3.heap.size, 4, none⟩ = some (.slice ua t4.length uk) := U.out.var.cell 4
  have d5 : Y8.cell? ⟨Y3.heap.size, 5, none⟩ = some (.int .i64 z5) := U.out.var.cell 5
  have d6 : Y8.cell? ⟨Y3.heap.size, 6, none⟩ = some (.int .i64 n0) := U.out.var.cell 6
  have d7 : Y8.cell? ⟨Y3.heap.size, 7, none⟩ = some (.string n1) := U.out.var.cell 7
  have d8 : Y8.cell? ⟨Y3.heap.size, 8, none⟩ = some (.string n2) := U.out.var.cell 8
  have d9 : Y8.cell? ⟨Y3.heap.size, 9, none⟩ = some (.int .i64 n3) := U.out.var.cell 9
  have d10 : Y8.cell? ⟨Y3.heap.size, 10, none⟩ = some (.slice ua' o4.length uk') := U.out.var.cell 10
  have d11 : Y8.cell? ⟨Y3.heap.size, 11, none⟩ = some (.int .i64 n5) := U.out.var.cell 11
  have K := Lib.hid (eqSlots_same z0 z1 z2 z3 _ t4 z5 n0 n1 n2 n3 _ o4 n5 _ _ Y8 GG.out.rd1 GG.out.rd2 U.out.rd1 U.out.rd2 (by omega) (by omega))
  go_wp2_with fail
  refine (K.out).mono ?_
  rintro e Y9 ⟨rfl, hb⟩
  have zY9 : Y8.heap.size ≤ Y9.heap.size := hb.size
  replace A0 := Lib.hid (A0.out.next hb)
  replace B0 := Lib.hid (B0.out.trans (hb.mono B0.out.size))
  replace U := Lib.hid (U.out.next hb)
  replace VV := Lib.hid (VV.out.next hb)
  replace GG := Lib.hid (GG.out.next hb)
  clear hb K c0 c1 c2 c3 c4 c5 c6 c7 c8 c9 c10 c11 d0 d1 d2 d3 d4 d5 d6 d7 d8 d9 d10 d11
  have qv : ∀ X Y, (Hid (VarA w.heap.size LSsT #[.int .i64 x0, .string x1, .string x2, .int .i64 x3, .slice a4 r4.length p4, .int .i64 x5, .int .i64 y0, .string y1, .string y2, .int .i64 y3, .slice b4 s4.length q4, .int .i64 y5] X ∧ SO Y4.heap.size Y5.heap.size Y5.heap.size #[.int .i64 x0, .string x1, .string x2, .int .i64 x3, .slice xa r4.length xk, .int .i64 x5, .int .i64 y0, .string y1, .string y2, .int .i64 y3, .slice xa' s4.length xk', .int .i64 y5] (.slice xa r4.length xk) (.slice xa' s4.length xk') r4 s4 X ∧ SO Y2.heap.size Y3.heap.size Y3.heap.size #[.int .i64 z0, .string z1, .string z2, .int .i64 z3, .slice ua t4.length uk, .int .i64 z5, .int .i64 n0, .string n1, .string n2, .int .i64 n3, .slice ua' o4.length uk', .int .i64 n5] (.slice ua t4.length uk) (.slice ua' o4.length uk') t4 o4 X ∧ SO Y6.heap.size Y7.heap.size Y7.heap.size #[.int .i64 z0, .string z1, .string z2, .int .i64 z3, .slice ga t4.length gk, .int .i64 z5, .int .i64 n0, .string n1, .string n2, .int .i64 n3, .slice ga' o4.length gk', .int .i64 n5] (.slice ga t4.length gk) (.slice ga' o4.length gk') t4 o4 X ∧ Below w.heap.size w X)) → Below X.heap.size X Y → (Hid (VarA w.heap.size LSsT #[.int .i64 x0, .string x1, .string x2, .int .i64 x3, .slice a4 r4.length p4, .int .i64 x5, .int .i64 y0, .string y1, .string y2, .int .i64 y3, .slice b4 s4.length q4, .int .i64 y5] Y ∧ SO Y4.heap.size Y5.heap.size Y5.heap.size #[.int .i64 x0, .string x1, .string x2, .int .i64 x3, .slice xa r4.length xk, .int .i64 x5, .int .i64 y0, .string y1, .string y2, .int .i64 y3, .slice xa' s4.length xk', .int .i64 y5] (.slice xa r4.length xk) (.slice xa' s4.length xk') r4 s4 Y ∧ SO Y2.heap.size Y3.heap.size Y3.heap.size #[.int .i64 z0, .string z1, .string z2, .int .i64 z3, .slice ua t4.length uk, .int .i64 z5, .int .i64 n0, .string n1, .string n2, .int .i64 n3, .slice ua' o4.length uk', .int .i64 n5] (.slice ua t4.length uk) (.slice ua' o4.length uk') t4 o4 Y ∧ SO Y6.heap.size Y7.heap.size Y7.heap.size #[.int .i64 z0, .string z1, .string z2, .int .i64 z3, .slice ga t4.length gk, .int .i64 z5, .int .i64 n0, .string n1, .string n2, .int .i64 n3, .slice ga' o4.length gk', .int .i64 n5] (.slice ga t4.length gk) (.slice ga' o4.length gk') t4 o4 Y ∧ Below w.heap.size w Y)) := fun X Y h hb => Lib.hid ⟨h.out.1.next hb, h.out.2.1.next hb, h.out.2.2.1.next hb, h.out.2.2.2.1.next hb, h.out.2.2.2.2.trans (hb.mono h.out.2.2.2.2.size)⟩
  have hdr : Below Y9.heap.size Y9 Y9.drew := (Below.refl _ _).drew
  have E0 : Hid (VarA w.heap.size LSsT #[.int .i64 x0, .string x1, .string x2, .int .i64 x3, .slice a4 r4.length p4, .int .i64 x5, .int .i64 y0, .string y1, .string y2, .int .i64 y3, .slice b4 s4.length q4, .int .i64 y5] Y9.drew ∧ SO Y4.heap.size Y5.heap.size Y5.heap.size #[.int .i64 x0, .string x1, .string x2, .int .i64 x3, .slice xa r4.length xk, .int .i64 x5, .int .i64 y0, .string y1, .string y2, .int .i64 y3, .slice xa' s4.length xk', .int .i64 y5] (.slice xa r4.length xk) (.slice xa' s4.length xk') r4 s4 Y9.drew ∧ SO Y2.heap.size Y3.heap.size Y3.heap.size #[.int .i64 z0, .string z1, .string z2, .int .i64 z3, .slice ua t4.length uk, .int .i64 z5, .int .i64 n0, .string n1, .string n2, .int .i64 n3, .slice ua' o4.length uk', .int .i64 n5] (.slice ua t4.length uk) (.slice ua' o4.length uk') t4 o4 Y9.drew ∧ SO Y6.heap.size Y7.heap.size Y7.heap.size #[.int .i64 z0, .string z1, .string z2, .int .i64 z3, .slice ga t4.length gk, .int .i64 z5, .int .i64 n0, .string n1, .string n2, .int .i64 n3, .slice ga' o4.length gk', .int .i64 n5] (.slice ga t4.length gk) (.slice ga' o4.length gk') t4 o4 Y9.drew ∧ Below w.heap.size w Y9.drew) := qv _ _ (Lib.hid ⟨A0.out, VV.out, U.out, GG.out, B0.out⟩) hdr
  have zdr : Y9.heap.size ≤ Y9.drew.heap.size := hdr.size
  go_wp2_with fail
  clear hdr A0 VV U GG B0
  refine wp_region_held_drew (S := fun X => Hid (VarA w.heap.size LSsT #[.int .i64 x0, .string x1, .string x2, .int .i64 x3, .slice a4 r4.length p4, .int .i64 x5, .int .i64 y0, .string y1, .string y2, .int .i64 y3, .slice b4 s4.length q4, .int .i64 y5] X ∧ SO Y4.heap.size Y5.heap.size Y5.heap.size #[.int .i64 x0, .string x1, .string x2, .int .i64 x3, .slice xa r4.length xk, .int .i64 x5, .int .i64 y0, .string y1, .string y2, .int .i64 y3, .slice xa' s4.length xk', .int .i64 y5] (.slice xa r4.length xk) (.slice xa' s4.length xk') r4 s4 X ∧ SO Y2.heap.size Y3.heap.size Y3.heap.size #[.int .i64 z0, .string z1, .string z2, .int .i64 z3, .slice ua t4.length uk, .int .i64 z5, .int .i64 n0, .string n1, .string n2, .int .i64 n3, .slice ua' o4.length uk', .int .i64 n5] (.slice ua t4.length uk) (.slice ua' o4.length uk') t4 o4 X ∧ SO Y6.heap.size Y7.heap.size Y7.heap.size #[.int .i64 z0, .string z1, .string z2, .int .i64 z3, .slice ga t4.length gk, .int .i64 z5, .int .i64 n0, .string n1, .string n2, .int .i64 n3, .slice ga' o4.length gk', .int .i64 n5] (.slice ga t4.length gk) (.slice ga' o4.length gk') t4 o4 X ∧ Below w.heap.size w X)) (by kernel_rfl) E0 (fun hHeld => ?_)
  clear E0
  generalize Y9.drew = X0 at *
  refine wpAnyH_take (i := 0) (v := ?_) rfl (by kernel_rfl) (by kernel_rfl) (by kernel_rfl) (fun _ _ _ h => h) (Or.inl ⟨by kernel_rfl, ?_⟩) hHeld ?_
  rotate_left
  · intro X hX
    have yy0 : X.cell? ⟨Y5.heap.size, 0, none⟩ = some (.int .i64 x0) := hX.out.2.1.var.cell 0
    have yy1 : X.cell? ⟨Y5.heap.size, 1, none⟩ = some (.string x1) := hX.out.2.1.var.cell 1
    have yy2 : X.cell? ⟨Y5.heap.size, 2, none⟩ = some (.string x2) := hX.out.2.1.var.cell 2
    have yy3 : X.cell? ⟨Y5.heap.size, 3, none⟩ = some (.int .i64 x3) := hX.out.2.1.var.cell 3
    have yy4 : X.cell? ⟨Y5.heap.size, 4, none⟩ = some (.slice xa r4.length xk) := hX.out.2.1.var.cell 4
    have yy5 : X.cell? ⟨Y5.heap.size, 5, none⟩ = some (.int .i64 x5) := hX.out.2.1.var.cell 5
    have yy6 : X.cell? ⟨Y5.heap.size, 6, none⟩ = some (.int .i64 y0) := hX.out.2.1.var.cell 6
    have yy7 : X.cell? ⟨Y5.heap.size, 7, none⟩ = some (.string y1) := hX.out.2.1.var.cell 7
    have yy8 : X.cell? ⟨Y5.heap.size, 8, none⟩ = some (.string y2) := hX.out.2.1.var.cell 8
    have yy9 : X.cell? ⟨Y5.heap.size, 9, none⟩ = some (.int .i64 y3) := hX.out.2.1.var.cell 9
    have yy10 : X.cell? ⟨Y5.heap.size, 10, none⟩ = some (.slice xa' s4.length xk') := hX.out.2.1.var.cell 10
    have yy11 : X.cell? ⟨Y5.heap.size, 11, none⟩ = some (.int .i64 y5) := hX.out.2.1.var.cell 11
    first | (go_simp; done) | (go_simp; with_reducible rfl)
  try simp only [Act.put, List.getElem_toArray, List.getElem_cons_zero, List.setIfInBounds_toArray, List.set_cons_zero, List.set_cons_succ]
  refine wpAnyH_take (i := 1) (v := ?_) rfl (by kernel_rfl) (by kernel_rfl) (by kernel_rfl) (fun _ _ _ h => h) (Or.inl ⟨by kernel_rfl, ?_⟩) hHeld ?_
  rotate_left
  · intro X hX
    have yy0 : X.cell? ⟨w.heap.size, 0, none⟩ = some (.int .i64 x0) := hX.out.1.cell 0
    have yy1 : X.cell? ⟨w.heap.size, 1, none⟩ = some (.string x1) := hX.out.1.cell 1
    have yy2 : X.cell? ⟨w.heap.size, 2, none⟩ = some (.string x2) := hX.out.1.cell 2
    have yy3 : X.cell? ⟨w.heap.size, 3, none⟩ = some (.int .i64 x3) := hX.out.1.cell 3
    have yy4 : X.cell? ⟨w.heap.size, 4, none⟩ = some (.slice a4 r4.length p4) := hX.out.1.cell 4
    have yy5 : X.cell? ⟨w.heap.size, 5, none⟩ = some (.int .i64 x5) := hX.out.1.cell 5
    have yy6 : X.cell? ⟨w.heap.size, 6, none⟩ = some (.int .i64 y0) := hX.out.1.cell 6
    have yy7 : X.cell? ⟨w.heap.size, 7, none⟩ = some (.string y1) := hX.out.1.cell 7
    have yy8 : X.cell? ⟨w.heap.size, 8, none⟩ = some (.string y2) := hX.out.1.cell 8
    have yy9 : X.cell? ⟨w.heap.size, 9, none⟩ = some (.int .i64 y3) := hX.out.1.cell 9
    have yy10 : X.cell? ⟨w.heap.size, 10, none⟩ = some (.slice b4 s4.length q4) := hX.out.1.cell 10
    have yy11 : X.cell? ⟨w.heap.size, 11, none⟩ = some (.int .i64 y5) := hX.out.1.cell 11
    first | (go_simp; done) | (go_simp; with_reducible rfl)
  try simp only [Act.put, List.getElem_toArray, List.getElem_cons_succ, List.getElem_cons_zero, List.setIfInBounds_toArray, List.set_cons_zero, List.set_cons_succ]
  refine wpAnyH_ready (rs := [2]) (by kernel_rfl) (by simp) ?_
  refine AllReadyH.cons rfl (fun K hK => ?_) AllReadyH.nil
  go_simp
  go_wp2_with (go_at_call 12; refine (TT.out X0 hHeld.out.2.2.2.2).mono ?_; rintro e X1 ⟨v5, u5, f5, g5, rfl, hd, o1, o2, hb⟩; obtain ⟨ta, tk, rfl⟩ := rows_form (layIntS.read o1); obtain ⟨sa, sk, rfl⟩ := rows_form (layIntS.read o2); have hS := qv _ _ hHeld hb; have zz := hb.size; have R1 := Lib.hid (layIntS.read o1); have R2 := Lib.hid (layIntS.read o2); clear hb o1 o2 g5 hd f5)
  refine hK.out _ _ hS (fun hHeld => ?_)
  clear hK K hS
  have zX1 : X0.heap.size ≤ X1.heap.size := zz
  clear zz
  try simp only [Act.put, List.getElem_toArray, List.getElem_cons_succ, List.getElem_cons_zero, List.setIfInBounds_toArray, List.set_cons_zero, List.set_cons_succ]
  refine wpAnyH_ready (rs := [3]) (by kernel_rfl) (by simp) ?_
  refine AllReadyH.cons rfl (fun K hK => ?_) AllReadyH.nil
  have KE := Lib.hid (eqSlots_same x0 x1 x2 x3 _ r4 x5 y0 y1 y2 y3 _ s4 y5 _ _ X1 hHeld.out.2.1.rd1 hHeld.out.2.1.rd2 R1.out R2.out (by omega) (by omega))
  go_simp
  go_wp2_with (go_at_call 7; refine (KE.out).mono ?_; rintro e X2 ⟨rfl, hb⟩; have hS := qv _ _ hHeld hb; have zz := hb.size; clear hb)
  refine hK.out _ _ hS (fun hHeld => ?_)
  clear hK K hS KE R1 R2
  have zX2 : X1.heap.size ≤ X2.heap.size := zz
  clear zz
  try simp only [Act.put, List.getElem_toArray, List.getElem_cons_succ, List.getElem_cons_zero, List.setIfInBounds_toArray, List.set_cons_zero, List.set_cons_succ]
  refine wpAnyH_take (i := 4) (v := ?_) rfl (by kernel_rfl) (by kernel_rfl) (by kernel_rfl) (fun _ _ _ h => h) (Or.inl ⟨by kernel_rfl, ?_⟩) hHeld ?_
  rotate_left
  · intro X hX
    first | (go_simp; done) | (go_simp; with_reducible rfl)
  try simp only [Act.put, List.getElem_toArray, List.getElem_cons_succ, List.getElem_cons_zero, List.setIfInBounds_toArray, List.set_cons_zero, List.set_cons_succ]
  refine wpAnyH_done (by kernel_rfl) ?_ _
  have A0 := Lib.hid hHeld.out.1
  have VV := Lib.hid hHeld.out.2.1
  have U := Lib.hid hHeld.out.2.2.1
  have GG := Lib.hid hHeld.out.2.2.2.1
  have B0 := Lib.hid hHeld.out.2.2.2.2
  clear hHeld qv
  have c0 : X2.cell? ⟨Y5.heap.size, 0, none⟩ = some (.int .i64 x0) := VV.out.var.cell 0
  have c1 : X2.cell? ⟨Y5.heap.size, 1, none⟩ = some (.string x1) := VV.out.var.cell 1
  have c2 : X2.cell? ⟨Y5.heap.size, 2, none⟩ = some (.string x2) := VV.out.var.cell 2
  have c3 : X2.cell? ⟨Y5.heap.size, 3, none⟩ = some (.int .i64 x3) := VV.out.var.cell 3
  have c4 : X2.cell? ⟨Y5.heap.size, 4, none⟩ = some (.slice xa r4.length xk) := VV.out.var.cell 4
  have c5 : X2.cell? ⟨Y5.heap.size, 5, none⟩ = some (.int .i64 x5) := VV.out.var.cell 5
  have c6 : X2.cell? ⟨Y5.heap.size, 6, none⟩ = some (.int .i64 y0) := VV.out.var.cell 6
  have c7 : X2.cell? ⟨Y5.heap.size, 7, none⟩ = some (.string y1) := VV.out.var.cell 7
  have c8 : X2.cell? ⟨Y5.heap.size, 8, none⟩ = some (.string y2) := VV.out.var.cell 8
  have c9 : X2.cell? ⟨Y5.heap.size, 9, none⟩ = some (.int .i64 y3) := VV.out.var.cell 9
  have c10 : X2.cell? ⟨Y5.heap.size, 10, none⟩ = some (.slice xa' s4.length xk') := VV.out.var.cell 10
  have c11 : X2.cell? ⟨Y5.heap.size, 11, none⟩ = some (.int .i64 y5) := VV.out.var.cell 11
  have K := Lib.hid (VV.out.mark (by omega) (by omega))
  go_wp2_with fail
  refine (K.out).mono ?_
  rintro e Y10 ⟨rfl, hm, hc⟩
  have zY10 : X2.heap.size ≤ Y10.heap.size := hc.size
  replace U := Lib.hid (U.out.away hc (by omega) (by omega))
  replace GG := Lib.hid (GG.out.away hc (by omega) (by omega))
  replace A0 := Lib.hid (hc.var A0.out (by omega))
  replace B0 := Lib.hid (hc.below B0.out (by omega))
  clear VV
  clear hm hc K c0 c1 c2 c3 c4 c5 c6 c7 c8 c9 c10 c11
  have hk1 : ¬ ((1 + 1 * (r4.length : Int) + 1 * (s4.length : Int)) < 0) := by omega
  generalize (1 + 1 * (r4.length : Int) + 1 * (s4.length : Int)) = mx at *
  have c0 : Y10.cell? ⟨Y7.heap.size, 0, none⟩ = some (.int .i64 z0) := GG.out.var.cell 0
  have c1 : Y10.cell? ⟨Y7.heap.size, 1, none⟩ = some (.string z1) := GG.out.var.cell 1
  have c2 : Y10.cell? ⟨Y7.heap.size, 2, none⟩ = some (.string z2) := GG.out.var.cell 2
  have c3 : Y10.cell? ⟨Y7.heap.size, 3, none⟩ = some (.int .i64 z3) := GG.out.var.cell 3
  have c4 : Y10.cell? ⟨Y7.heap.size, 4, none⟩ = some (.slice ga t4.length gk) := GG.out.var.cell 4
  have c5 : Y10.cell? ⟨Y7.heap.size, 5, none⟩ = some (.int .i64 z5) := GG.out.var.cell 5
  have c6 : Y10.cell? ⟨Y7.heap.size, 6, none⟩ = some (.int .i64 n0) := GG.out.var.cell 6
  have c7 : Y10.cell? ⟨Y7.heap.size, 7, none⟩ = some (.string n1) := GG.out.var.cell 7
  have c8 : Y10.cell? ⟨Y7.heap.size, 8, none⟩ = some (.string n2) := GG.out.var.cell 8
  have c9 : Y10.cell? ⟨Y7.heap.size, 9, none⟩ = some (.int .i64 n3) := GG.out.var.cell 9
  have c10 : Y10.cell? ⟨Y7.heap.size, 10, none⟩ = some (.slice ga' o4.length gk') := GG.out.var.cell 10
  have c11 : Y10.cell? ⟨Y7.heap.size, 11, none⟩ = some (.int .i64 n5) := GG.out.var.cell 11
  have d0 : Y10.cell? ⟨Y3.heap.size, 0, none⟩ = some (.int .i64 z0) := U.out.var.cell 0
  have d1 : Y10.cell? ⟨Y3.heap.size, 1, none⟩ = some (.string z1) := U.out.var.cell 1
  have d2 : Y10.cell? ⟨Y3.heap.size, 2, none⟩ = some (.string z2) := U.out.var.cell 2
  have d3 : Y10.cell? ⟨Y3.heap.size, 3, none⟩ = some (.int .i64 z3) := U.out.var.cell 3
  have d4 : Y10.cell? ⟨Y3.heap.size, 4, none⟩ = some (.slice ua t4.length uk) := U.out.var.cell 4
  have d5 : Y10.cell? ⟨Y3.heap.size, 5, none⟩ = some (.int .i64 z5) := U.out.var.cell 5
  have d6 : Y10.cell? ⟨Y3.heap.size, 6, none⟩ = some (.int .i64 n0) := U.out.var.cell 6
  have d7 : Y10.cell? ⟨Y3.heap.size, 7, none⟩ = some (.string n1) := U.out.var.cell 7
  have d8 : Y10.cell? ⟨Y3.heap.size, 8, none⟩ = some (.string n2) := U.out.var.cell 8
  have d9 : Y10.cell? ⟨Y3.heap.size, 9, none⟩ = some (.int .i64 n3) := U.out.var.cell 9
  have d10 : Y10.cell? ⟨Y3.heap.size, 10, none⟩ = some (.slice ua' o4.length uk') := U.out.var.cell 10
  have d11 : Y10.cell? ⟨Y3.heap.size, 11, none⟩ = some (.int .i64 n5) := U.out.var.cell 11
  have K := Lib.hid (eqSlots_same z0 z1 z2 z3 _ t4 z5 n0 n1 n2 n3 _ o4 n5 _ _ Y10 GG.out.rd1 GG.out.rd2 U.out.rd1 U.out.rd2 (by omega) (by omega))
  go_wp2_with fail
  refine (K.out).mono ?_
  rintro e Y11 ⟨rfl, hb⟩
  have zY11 : Y10.heap.size ≤ Y11.heap.size := hb.size
  replace A0 := Lib.hid (A0.out.next hb)
  replace B0 := Lib.hid (B0.out.trans (hb.mono B0.out.size))
  replace U := Lib.hid (U.out.next hb)
  replace GG := Lib.hid (GG.out.next hb)
  clear hb K c0 c1 c2 c3 c4 c5 c6 c7 c8 c9 c10 c11 d0 d1 d2 d3 d4 d5 d6 d7 d8 d9 d10 d11
  have c0 : Y11.cell? ⟨Y7.heap.size, 0, none⟩ = some (.int .i64 z0) := GG.out.var.cell 0
  have c1 : Y11.cell? ⟨Y7.heap.size, 1, none⟩ = some (.string z1) := GG.out.var.cell 1
  have c2 : Y11.cell? ⟨Y7.heap.size, 2, none⟩ = some (.string z2) := GG.out.var.cell 2
  have c3 : Y11.cell? ⟨Y7.heap.size, 3, none⟩ = some (.int .i64 z3) := GG.out.var.cell 3
  have c4 : Y11.cell? ⟨Y7.heap.size, 4, none⟩ = some (.slice ga t4.length gk) := GG.out.var.cell 4
  have c5 : Y11.cell? ⟨Y7.heap.size, 5, none⟩ = some (.int .i64 z5) := GG.out.var.cell 5
  have c6 : Y11.cell? ⟨Y7.heap.size, 6, none⟩ = some (.int .i64 n0) := GG.out.var.cell 6
  have c7 : Y11.cell? ⟨Y7.heap.size, 7, none⟩ = some (.string n1) := GG.out.var.cell 7
  have c8 : Y11.cell? ⟨Y7.heap.size, 8, none⟩ = some (.string n2) := GG.out.var.cell 8
  have c9 : Y11.cell? ⟨Y7.heap.size, 9, none⟩ = some (.int .i64 n3) := GG.out.var.cell 9
  have c10 : Y11.cell? ⟨Y7.heap.size, 10, none⟩ = some (.slice ga' o4.length gk') := GG.out.var.cell 10
  have c11 : Y11.cell? ⟨Y7.heap.size, 11, none⟩ = some (.int .i64 n5) := GG.out.var.cell 11
  have K := Lib.hid (GG.out.mark (by omega) (by omega))
  go_wp2_with fail
  refine (K.out).mono ?_
  rintro e Y12 ⟨rfl, hm, hc⟩
  have zY12 : Y11.heap.size ≤ Y12.heap.size := hc.size
  replace U := Lib.hid (U.out.away hc (by omega) (by omega))
  replace A0 := Lib.hid (hc.var A0.out (by omega))
  replace B0 := Lib.hid (hc.below B0.out (by omega))
  replace GG := Lib.hid hm
  clear hm hc K c0 c1 c2 c3 c4 c5 c6 c7 c8 c9 c10 c11
  obtain ⟨mg, HMG⟩ : ∃ mg : Int, Hid (mg = 1 + 1 * (t4.length : Int) + 1 * (o4.length : Int)) := ⟨_, Lib.hid rfl⟩
  have hk2 : ¬ (mg < 0) := by have := HMG.out; omega
  rw [← HMG.out]
  have c0 : Y12.cell? ⟨Y7.heap.size, 0, none⟩ = some (.int .i64 z0) := GG.out.var.cell 0
  have c1 : Y12.cell? ⟨Y7.heap.size, 1, none⟩ = some (.string z1) := GG.out.var.cell 1
  have c2 : Y12.cell? ⟨Y7.heap.size, 2, none⟩ = some (.string z2) := GG.out.var.cell 2
  have c3 : Y12.cell? ⟨Y7.heap.size, 3, none⟩ = some (.int .i64 z3) := GG.out.var.cell 3
  have c4 : Y12.cell? ⟨Y7.heap.size, 4, none⟩ = some (.slice ga t4.length gk) := GG.out.var.cell 4
  have c5 : Y12.cell? ⟨Y7.heap.size, 5, none⟩ = some (.int .i64 z5) := GG.out.var.cell 5
  have c6 : Y12.cell? ⟨Y7.heap.size, 6, none⟩ = some (.int .i64 n0) := GG.out.var.cell 6
  have c7 : Y12.cell? ⟨Y7.heap.size, 7, none⟩ = some (.string n1) := GG.out.var.cell 7
  have c8 : Y12.cell? ⟨Y7.heap.size, 8, none⟩ = some (.string n2) := GG.out.var.cell 8
  have c9 : Y12.cell? ⟨Y7.heap.size, 9, none⟩ = some (.int .i64 n3) := GG.out.var.cell 9
  have c10 : Y12.cell? ⟨Y7.heap.size, 10, none⟩ = some (.slice ga' o4.length gk') := GG.out.var.cell 10
  have c11 : Y12.cell? ⟨Y7.heap.size, 11, none⟩ = some (.int .i64 n5) := GG.out.var.cell 11
  have K := Lib.hid (GG.out.held (by omega) (by omega))
  rw [← HMG.out] at K
  go_wp2_with fail
  refine (K.out).mono ?_
  rintro e Y13 ⟨rfl, hb⟩
  have zY13 : Y12.heap.size ≤ Y13.heap.size := hb.size
  replace A0 := Lib.hid (A0.out.next hb)
  replace B0 := Lib.hid (B0.out.trans (hb.mono B0.out.size))
  replace U := Lib.hid (U.out.next hb)
  replace GG := Lib.hid (GG.out.next hb)
  clear hb K c0 c1 c2 c3 c4 c5 c6 c7 c8 c9 c10 c11
  have c0 : Y13.cell? ⟨w.heap.size, 0, none⟩ = some (.int .i64 x0) := A0.out.cell 0
  have c1 : Y13.cell? ⟨w.heap.size, 1, none⟩ = some (.string x1) := A0.out.cell 1
  have c2 : Y13.cell? ⟨w.heap.size, 2, none⟩ = some (.string x2) := A0.out.cell 2
  have c3 : Y13.cell? ⟨w.heap.size, 3, none⟩ = some (.int .i64 x3) := A0.out.cell 3
  have c4 : Y13.cell? ⟨w.heap.size, 4, none⟩ = some (.slice a4 r4.length p4) := A0.out.cell 4
  have c5 : Y13.cell? ⟨w.heap.size, 5, none⟩ = some (.int .i64 x5) := A0.out.cell 5
  have c6 : Y13.cell? ⟨w.heap.size, 6, none⟩ = some (.int .i64 y0) := A0.out.cell 6
  have c7 : Y13.cell? ⟨w.heap.size, 7, none⟩ = some (.string y1) := A0.out.cell 7
  have c8 : Y13.cell? ⟨w.heap.size, 8, none⟩ = some (.string y2) := A0.out.cell 8
  have c9 : Y13.cell? ⟨w.heap.size, 9, none⟩ = some (.int .i64 y3) := A0.out.cell 9
  have c10 : Y13.cell? ⟨w.heap.size, 10, none⟩ = some (.slice b4 s4.length q4) := A0.out.cell 10
  have c11 : Y13.cell? ⟨w.heap.size, 11, none⟩ = some (.int .i64 y5) := A0.out.cell 11
  go_wp2_with fail
  refine (TT.out Y13 B0.out).mono ?_
  rintro e Y14 ⟨v5, u5, f5, g5, rfl, hd, o1, o2, hb⟩
  obtain ⟨ta, tk, rfl⟩ := rows_form (layIntS.read o1)
  obtain ⟨ta', tk', rfl⟩ := rows_form (layIntS.read o2)
  have zY14 : Y13.heap.size ≤ Y14.heap.size := hb.size
  replace A0 := Lib.hid (A0.out.next hb)
  replace B0 := Lib.hid (B0.out.trans (hb.mono B0.out.size))
  replace U := Lib.hid (U.out.next hb)
  replace GG := Lib.hid (GG.out.next hb)
  have K := Lib.hid (HI.out _ _ Y14 (LL.out _ B0.out) (layIntS.read o1) (layIntS.read o2))
  clear hb hd o1 o2 f5 g5 c0 c1 c2 c3 c4 c5 c6 c7 c8 c9 c10 c11
  go_wp2_with fail
  refine (K.out).mono ?_
  rintro e Y15 ⟨v5, u5, f5, g5, rfl, hd, o1, o2, hb⟩
  obtain ⟨ha, hk, rfl⟩ := rows_form (layIntS.read o1)
  obtain ⟨ha', hk', rfl⟩ := rows_form (layIntS.read o2)
  have zY15 : Y14.heap.size ≤ Y15.heap.size := hb.size
  replace A0 := Lib.hid (A0.out.next hb)
  replace B0 := Lib.hid (B0.out.trans (hb.mono B0.out.size))
  replace U := Lib.hid (U.out.next hb)
  replace GG := Lib.hid (GG.out.next hb)
  clear K
  have hal : Below Y15.heap.size Y15 (Y15.alloc (.cells #[.int .i64 z0, .string z1, .string z2, .int .i64 z3, .slice ha t4.length hk, .int .i64 z5, .int .i64 n0, .string n1, .string n2, .int .i64 n3, .slice ha' o4.length hk', .int .i64 n5] SlotsT)) := (Below.refl _ _).alloc (Nat.le_refl _) _
  replace A0 := Lib.hid (A0.out.next hal)
  replace B0 := Lib.hid (B0.out.trans (hal.mono B0.out.size))
  replace U := Lib.hid (U.out.next hal)
  replace GG := Lib.hid (GG.out.next hal)
  have HH := Lib.hid (SO.new (cs := #[.int .i64 z0, .string z1, .string z2, .int .i64 z3, .slice ha t4.length hk, .int .i64 z5, .int .i64 n0, .string n1, .string n2, .int .i64 n3, .slice ha' o4.length hk', .int .i64 n5]) hd o1 o2)
  clear hb hal hd o1 o2 f5 g5
  go_upto_region 25 with fail
  generalize Y15.alloc (.cells #[.int .i64 z0, .string z1, .string z2, .int .i64 z3, .slice ha t4.length hk, .int .i64 z5, .int .i64 n0, .string n1, .string n2, .int .i64 n3, .slice ha' o4.length hk', .int .i64 n5] SlotsT) = Y16 at *
  have c0 : Y16.cell? ⟨Y15.heap.size, 0, none⟩ = some (.int .i64 z0) := HH.out.var.cell 0
  have c1 : Y16.cell? ⟨Y15.heap.size, 1, none⟩ = some (.string z1) := HH.out.var.cell 1
  have c2 : Y16.cell? ⟨Y15.heap.size, 2, none⟩ = some (.string z2) := HH.out.var.cell 2
  have c3 : Y16.cell? ⟨Y15.heap.size, 3, none⟩ = some (.int .i64 z3) := HH.out.var.cell 3
  have c4 : Y16.cell? ⟨Y15.heap.size, 4, none⟩ = some (.slice ha t4.length hk) := HH.out.var.cell 4
  have c5 : Y16.cell? ⟨Y15.heap.size, 5, none⟩ = some (.int .i64 z5) := HH.out.var.cell 5
  have c6 : Y16.cell? ⟨Y15.heap.size, 6, none⟩ = some (.int .i64 n0) := HH.out.var.cell 6
  have c7 : Y16.cell? ⟨Y15.heap.size, 7, none⟩ = some (.string n1) := HH.out.var.cell 7
  have c8 : Y16.cell? ⟨Y15.heap.size, 8, none⟩ = some (.string n2) := HH.out.var.cell 8
  have c9 : Y16.cell? ⟨Y15.heap.size, 9, none⟩ = some (.int .i64 n3) := HH.out.var.cell 9
  have c10 : Y16.cell? ⟨Y15.heap.size, 10, none⟩ = some (.slice ha' o4.length hk') := HH.out.var.cell 10
  have c11 : Y16.cell? ⟨Y15.heap.size, 11, none⟩ = some (.int .i64 n5) := HH.out.var.cell 11
  have d0 : Y16.cell? ⟨Y3.heap.size, 0, none⟩ = some (.int .i64 z0) := U.out.var.cell 0
  have d1 : Y16.cell? ⟨Y3.heap.size, 1, none⟩ = some (.string z1) := U.out.var.cell 1
  have d2 : Y16.cell? ⟨Y3.heap.size, 2, none⟩ = some (.string z2) := U.out.var.cell 2
  have d3 : Y16.cell? ⟨Y3.heap.size, 3, none⟩ = some (.int .i64 z3) := U.out.var.cell 3
  have d4 : Y16.cell? ⟨Y3.heap.size, 4, none⟩ = some (.slice ua t4.length uk) := U.out.var.cell 4
  have d5 : Y16.cell? ⟨Y3.heap.size, 5, none⟩ = some (.int .i64 z5) := U.out.var.cell 5
  have d6 : Y16.cell? ⟨Y3.heap.size, 6, none⟩ = some (.int .i64 n0) := U.out.var.cell 6
  have d7 : Y16.cell? ⟨Y3.heap.size, 7, none⟩ = some (.string n1) := U.out.var.cell 7
  have d8 : Y16.cell? ⟨Y3.heap.size, 8, none⟩ = some (.string n2) := U.out.var.cell 8
  have d9 : Y16.cell? ⟨Y3.heap.size, 9, none⟩ = some (.int .i64 n3) := U.out.var.cell 9
  have d10 : Y16.cell? ⟨Y3.heap.size, 10, none⟩ = some (.slice ua' o4.length uk') := U.out.var.cell 10
  have d11 : Y16.cell? ⟨Y3.heap.size, 11, none⟩ = some (.int .i64 n5) := U.out.var.cell 11
  have K := Lib.hid (eqSlots_same z0 z1 z2 z3 _ t4 z5 n0 n1 n2 n3 _ o4 n5 _ _ Y16 HH.out.rd1 HH.out.rd2 U.out.rd1 U.out.rd2 (by omega) (by omega))
  go_wp2_with fail
  refine (K.out).mono ?_
  rintro e Y17 ⟨rfl, hb⟩
  have zY17 : Y16.heap.size ≤ Y17.heap.size := hb.size
  replace A0 := Lib.hid (A0.out.next hb)
  replace B0 := Lib.hid (B0.out.trans (hb.mono B0.out.size))
  replace U := Lib.hid (U.out.next hb)
  replace GG := Lib.hid (GG.out.next hb)
  replace HH := Lib.hid (HH.out.next hb)
  clear hb K c0 c1 c2 c3 c4 c5 c6 c7 c8 c9 c10 c11 d0 d1 d2 d3 d4 d5 d6 d7 d8 d9 d10 d11
  have c0 : Y17.cell? ⟨Y7.heap.size, 0, none⟩ = some (.int .i64 z0) := GG.out.var.cell 0
  have c1 : Y17.cell? ⟨Y7.heap.size, 1, none⟩ = some (.string z1) := GG.out.var.cell 1
  have c2 : Y17.cell? ⟨Y7.heap.size, 2, none⟩ = some (.string z2) := GG.out.var.cell 2
  have c3 : Y17.cell? ⟨Y7.heap.size, 3, none⟩ = some (.int .i64 z3) := GG.out.var.cell 3
  have c4 : Y17.cell? ⟨Y7.heap.size, 4, none⟩ = some (.slice ga t4.length gk) := GG.out.var.cell 4
  have c5 : Y17.cell? ⟨Y7.heap.size, 5, none⟩ = some (.int .i64 z5) := GG.out.var.cell 5
  have c6 : Y17.cell? ⟨Y7.heap.size, 6, none⟩ = some (.int .i64 n0) := GG.out.var.cell 6
  have c7 : Y17.cell? ⟨Y7.heap.size, 7, none⟩ = some (.string n1) := GG.out.var.cell 7
  have c8 : Y17.cell? ⟨Y7.heap.size, 8, none⟩ = some (.string n2) := GG.out.var.cell 8
  have c9 : Y17.cell? ⟨Y7.heap.size, 9, none⟩ = some (.int .i64 n3) := GG.out.var.cell 9
  have c10 : Y17.cell? ⟨Y7.heap.size, 10, none⟩ = some (.slice ga' o4.length gk') := GG.out.var.cell 10
  have c11 : Y17.cell? ⟨Y7.heap.size, 11, none⟩ = some (.int .i64 n5) := GG.out.var.cell 11
  have K := Lib.hid (GG.out.held (by omega) (by omega))
  rw [← HMG.out] at K
  go_wp2_with fail
  refine (K.out).mono ?_
  rintro e Y18 ⟨rfl, hb⟩
  have zY18 : Y17.heap.size ≤ Y18.heap.size := hb.size
  replace A0 := Lib.hid (A0.out.next hb)
  replace B0 := Lib.hid (B0.out.trans (hb.mono B0.out.size))
  replace U := Lib.hid (U.out.next hb)
  replace GG := Lib.hid (GG.out.next hb)
  replace HH := Lib.hid (HH.out.next hb)
  clear hb K c0 c1 c2 c3 c4 c5 c6 c7 c8 c9 c10 c11
  go_wp2_with fail
  go_ret
  exact ⟨rfl, B0.out⟩

end Go.Proofs.YtoaifgblbfdncabDoor
