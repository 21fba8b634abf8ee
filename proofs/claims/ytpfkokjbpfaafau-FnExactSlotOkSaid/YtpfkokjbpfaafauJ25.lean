/-
  The exact laws on SlotsOk and Spent, out of one answer that both give.
  The exact law on SlotsOk, at every argument.
-/
import Derived.Test.YtpfkokjbpfaafauJ19
import Derived.Deep.RegionHeld3
import Derived.Test.YtpfkokjbpfaafauJ20
import Derived.Test.YtpfkokjbpfaafauJ16
namespace Go.Proofs.Ytpfkokjbpfaafau
open Go.RowKit

set_option maxRecDepth 100000 in
set_option maxHeartbeats 6400000 in
theorem lawSlotsOkF (x0 : Int) (x1 x2 : ByteArray) (x3 : Int) (v4 : Value) (r4 : List Int) (x5 : Int) (y0 : Int) (y1 y2 : ByteArray) (y3 : Int) (u4 : Value) (s4 : List Int) (y5 : Int) (m1 : x1.size ≤ 9223372036854775807) (m2 : x2.size ≤ 9223372036854775807) (m4 : RoomInt r4) (n1 : y1.size ≤ 9223372036854775807) (n2 : y2.size ≤ 9223372036854775807) (n4 : RoomInt s4) (b : Bool) (hI : FitsSlot x1 x2 r4 → FitsSlot y1 y2 s4 → ∀ (v4 : Value) (u4 : Value) (X : World), layIntS.rd X [v4] r4 → layIntS.rd X [u4] s4 → Calls Try.prog 14 #[.agg #[.int .i64 x0, .string x1, .string x2, .int .i64 x3, v4, .int .i64 x5, .int .i64 y0, .string y1, .string y2, .int .i64 y3, u4, .int .i64 y5]] X fun e Y => e = .returned (.bool b) ∧ Below X.heap.size X Y) (hS : FitsSlot x1 x2 r4 → FitsSlot y1 y2 s4 → ∀ (v4 : Value) (u4 : Value) (X : World), layIntS.rd X [v4] r4 → layIntS.rd X [u4] s4 → Calls Try.prog 12 #[.agg #[.int .i64 x0, .string x1, .string x2, .int .i64 x3, v4, .int .i64 x5, .int .i64 y0, .string y1, .string y2, .int .i64 y3, u4, .int .i64 y5]] X fun e Y => e = .returned (.bool b) ∧ Below X.heap.size X Y)
    (w : World) (ha : layIntS.rd w [v4] r4) (hb : layIntS.rd w [u4] s4) :
    Calls Try.prog 4 #[.agg #[.int .i64 x0, .string x1, .string x2, .int .i64 x3, v4, .int .i64 x5, .int .i64 y0, .string y1, .string y2, .int .i64 y3, u4, .int .i64 y5]] w fun e w' => e = .returned (.bool true) ∧ Below w.heap.size w w' := by
  obtain ⟨a4, p4, rfl⟩ := rows_form ha
  obtain ⟨b4, q4, rfl⟩ := rows_form hb
  have HA := Lib.hid ha
  have HB := Lib.hid hb
  have HI := Lib.hid hI
  have HS := Lib.hid hS
  have hbb : (b != b) = false := by cases b <;> rfl
  have A0 := Lib.hid (VarA.new w LSsT #[.int .i64 x0, .string x1, .string x2, .int .i64 x3, .slice a4 r4.length p4, .int .i64 x5, .int .i64 y0, .string y1, .string y2, .int .i64 y3, .slice b4 s4.length q4, .int .i64 y5])
  have B0 := Lib.hid ((Below.refl w.heap.size w).alloc (Nat.le_refl _) (.cells #[.int .i64 x0, .string x1, .string x2, .int .i64 x3, .slice a4 r4.length p4, .int .i64 x5, .int .i64 y0, .string y1, .string y2, .int .i64 y3, .slice b4 s4.length q4, .int .i64 y5] LSsT))
  clear hI hS ha hb
  go_enter Try.func4, Try.ntmps4
  go_upto_region 1 with fail
  generalize w.alloc (.cells #[.int .i64 x0, .string x1, .string x2, .int .i64 x3, .slice a4 r4.length p4, .int .i64 x5, .int .i64 y0, .string y1, .string y2, .int .i64 y3, .slice b4 s4.length q4, .int .i64 y5] LSsT) = Y0 at *
  have c0 : Y0.cell? ⟨w.heap.size, 0, none⟩ = some (.int .i64 x0) := A0.out.cell 0
  have c1 : Y0.cell? ⟨w.heap.size, 1, none⟩ = some (.string x1) := A0.out.cell 1
  have c2 : Y0.cell? ⟨w.heap.size, 2, none⟩ = some (.string x2) := A0.out.cell 2
  have c3 : Y0.cell? ⟨w.heap.size, 3, none⟩ = some (.int .i64 x3) := A0.out.cell 3
  have c4 : Y0.cell? ⟨w.heap.size, 4, none⟩ = some (.slice a4 r4.length p4) := A0.out.cell 4
  have c5 : Y0.cell? ⟨w.heap.size, 5, none⟩ = some (.int .i64 x5) := A0.out.cell 5
  have c6 : Y0.cell? ⟨w.heap.size, 6, none⟩ = some (.int .i64 y0) := A0.out.cell 6
  have c7 : Y0.cell? ⟨w.heap.size, 7, none⟩ = some (.string y1) := A0.out.cell 7
  have c8 : Y0.cell? ⟨w.heap.size, 8, none⟩ = some (.string y2) := A0.out.cell 8
  have c9 : Y0.cell? ⟨w.heap.size, 9, none⟩ = some (.int .i64 y3) := A0.out.cell 9
  have c10 : Y0.cell? ⟨w.heap.size, 10, none⟩ = some (.slice b4 s4.length q4) := A0.out.cell 10
  have c11 : Y0.cell? ⟨w.heap.size, 11, none⟩ = some (.int .i64 y5) := A0.out.cell 11
  have KZ := Lib.hid (szSlots_any x0 x1 x2 x3 _ r4 x5 y0 y1 y2 y3 _ s4 y5 1048576 (by omega) (by omega) m1 m2 m4 n1 n2 n4 Y0 (layIntS.below HA.out B0.out) (layIntS.below HB.out B0.out))
  go_wp2_with fail
  refine (KZ.out).mono ?_
  rintro e Y1 ⟨⟨z, rfl, hz⟩, hb⟩
  replace A0 := Lib.hid (A0.out.next hb)
  replace B0 := Lib.hid (B0.out.trans (hb.mono B0.out.size))
  clear hb KZ c0 c1 c2 c3 c4 c5 c6 c7 c8 c9 c10 c11
  rcases hz with rfl | ⟨hz0, hz1, hfit⟩
  · go_wp2_with fail
    go_ret
    exact ⟨rfl, B0.out⟩
  have hz2 : ¬ (z < 0) := by omega
  have HF1 := Lib.hid hfit.1
  have HF2 := Lib.hid hfit.2
  have TT : Hid (∀ X, Below w.heap.size w X → Calls Try.prog 13 #[.agg #[.int .i64 x0, .string x1, .string x2, .int .i64 x3, .slice a4 r4.length p4, .int .i64 x5, .int .i64 y0, .string y1, .string y2, .int .i64 y3, .slice b4 s4.length q4, .int .i64 y5]] X (SlotsMade x0 x1 x2 x3 r4 x5 y0 y1 y2 y3 s4 y5 X)) := Lib.hid (fun X hX => toSlots_any x0 x1 x2 x3 _ r4 x5 y0 y1 y2 y3 _ s4 y5 X (layIntS.below HA.out hX) (layIntS.below HB.out hX) HF1.out.2.2 HF2.out.2.2)
  clear hfit hz0 hz1
  have c0 : Y1.cell? ⟨w.heap.size, 0, none⟩ = some (.int .i64 x0) := A0.out.cell 0
  have c1 : Y1.cell? ⟨w.heap.size, 1, none⟩ = some (.string x1) := A0.out.cell 1
  have c2 : Y1.cell? ⟨w.heap.size, 2, none⟩ = some (.string x2) := A0.out.cell 2
  have c3 : Y1.cell? ⟨w.heap.size, 3, none⟩ = some (.int .i64 x3) := A0.out.cell 3
  have c4 : Y1.cell? ⟨w.heap.size, 4, none⟩ = some (.slice a4 r4.length p4) := A0.out.cell 4
  have c5 : Y1.cell? ⟨w.heap.size, 5, none⟩ = some (.int .i64 x5) := A0.out.cell 5
  have c6 : Y1.cell? ⟨w.heap.size, 6, none⟩ = some (.int .i64 y0) := A0.out.cell 6
  have c7 : Y1.cell? ⟨w.heap.size, 7, none⟩ = some (.string y1) := A0.out.cell 7
  have c8 : Y1.cell? ⟨w.heap.size, 8, none⟩ = some (.string y2) := A0.out.cell 8
  have c9 : Y1.cell? ⟨w.heap.size, 9, none⟩ = some (.int .i64 y3) := A0.out.cell 9
  have c10 : Y1.cell? ⟨w.heap.size, 10, none⟩ = some (.slice b4 s4.length q4) := A0.out.cell 10
  have c11 : Y1.cell? ⟨w.heap.size, 11, none⟩ = some (.int .i64 y5) := A0.out.cell 11
  go_wp2_with fail
  refine (TT.out Y1 B0.out).mono ?_
  rintro e Y2 ⟨v5, v6, f5, g5, rfl, hd, o1, o2, hb⟩
  obtain ⟨ta, tk, rfl⟩ := rows_form (layIntS.read o1)
  obtain ⟨sa, sk, rfl⟩ := rows_form (layIntS.read o2)
  have KS := Lib.hid (HS.out HF1.out HF2.out _ _ Y2 (layIntS.read o1) (layIntS.read o2))
  replace A0 := Lib.hid (A0.out.next hb)
  replace B0 := Lib.hid (B0.out.trans (hb.mono B0.out.size))
  clear hb o1 o2 g5 hd f5 c0 c1 c2 c3 c4 c5 c6 c7 c8 c9 c10 c11
  go_wp2_with fail
  refine (KS.out).mono ?_
  rintro e Y3 ⟨rfl, hb⟩
  replace A0 := Lib.hid (A0.out.next hb)
  replace B0 := Lib.hid (B0.out.trans (hb.mono B0.out.size))
  clear hb KS
  go_upto_region 6 with fail
  have c0 : Y3.cell? ⟨w.heap.size, 0, none⟩ = some (.int .i64 x0) := A0.out.cell 0
  have c1 : Y3.cell? ⟨w.heap.size, 1, none⟩ = some (.string x1) := A0.out.cell 1
  have c2 : Y3.cell? ⟨w.heap.size, 2, none⟩ = some (.string x2) := A0.out.cell 2
  have c3 : Y3.cell? ⟨w.heap.size, 3, none⟩ = some (.int .i64 x3) := A0.out.cell 3
  have c4 : Y3.cell? ⟨w.heap.size, 4, none⟩ = some (.slice a4 r4.length p4) := A0.out.cell 4
  have c5 : Y3.cell? ⟨w.heap.size, 5, none⟩ = some (.int .i64 x5) := A0.out.cell 5
  have c6 : Y3.cell? ⟨w.heap.size, 6, none⟩ = some (.int .i64 y0) := A0.out.cell 6
  have c7 : Y3.cell? ⟨w.heap.size, 7, none⟩ = some (.string y1) := A0.out.cell 7
  have c8 : Y3.cell? ⟨w.heap.size, 8, none⟩ = some (.string y2) := A0.out.cell 8
  have c9 : Y3.cell? ⟨w.heap.size, 9, none⟩ = some (.int .i64 y3) := A0.out.cell 9
  have c10 : Y3.cell? ⟨w.heap.size, 10, none⟩ = some (.slice b4 s4.length q4) := A0.out.cell 10
  have c11 : Y3.cell? ⟨w.heap.size, 11, none⟩ = some (.int .i64 y5) := A0.out.cell 11
  go_wp2_with fail
  refine (TT.out Y3 B0.out).mono ?_
  rintro e Y4 ⟨v5, v6, f5, g5, rfl, hd, o1, o2, hb⟩
  obtain ⟨xa, xk, rfl⟩ := rows_form (layIntS.read o1)
  obtain ⟨ya, yk, rfl⟩ := rows_form (layIntS.read o2)
  have hal : Below Y4.heap.size Y4 (Y4.alloc (.cells #[.int .i64 x0, .string x1, .string x2, .int .i64 x3, .slice xa r4.length xk, .int .i64 x5, .int .i64 y0, .string y1, .string y2, .int .i64 y3, .slice ya s4.length yk, .int .i64 y5] SlotsT)) := (Below.refl _ _).alloc (Nat.le_refl _) _
  have RX := Lib.hid (layIntS.below (layIntS.read o1) hal)
  have RY := Lib.hid (layIntS.below (layIntS.read o2) hal)
  have VX := Lib.hid (VarA.new Y4 SlotsT #[.int .i64 x0, .string x1, .string x2, .int .i64 x3, .slice xa r4.length xk, .int .i64 x5, .int .i64 y0, .string y1, .string y2, .int .i64 y3, .slice ya s4.length yk, .int .i64 y5])
  replace A0 := Lib.hid ((A0.out.next hb).next hal)
  replace B0 := Lib.hid ((B0.out.trans (hb.mono B0.out.size)).trans (hal.mono (Nat.le_trans B0.out.size hb.size)))
  clear hb hal o1 o2 g5 hd f5 c0 c1 c2 c3 c4 c5 c6 c7 c8 c9 c10 c11
  go_upto_region 7 with fail
  generalize Y4.alloc (.cells #[.int .i64 x0, .string x1, .string x2, .int .i64 x3, .slice xa r4.length xk, .int .i64 x5, .int .i64 y0, .string y1, .string y2, .int .i64 y3, .slice ya s4.length yk, .int .i64 y5] SlotsT) = Y5 at *
  generalize Y4.heap.size = gx at *
  have c0 : Y5.cell? ⟨gx, 0, none⟩ = some (.int .i64 x0) := VX.out.cell 0
  have c1 : Y5.cell? ⟨gx, 1, none⟩ = some (.string x1) := VX.out.cell 1
  have c2 : Y5.cell? ⟨gx, 2, none⟩ = some (.string x2) := VX.out.cell 2
  have c3 : Y5.cell? ⟨gx, 3, none⟩ = some (.int .i64 x3) := VX.out.cell 3
  have c4 : Y5.cell? ⟨gx, 4, none⟩ = some (.slice xa r4.length xk) := VX.out.cell 4
  have c5 : Y5.cell? ⟨gx, 5, none⟩ = some (.int .i64 x5) := VX.out.cell 5
  have c6 : Y5.cell? ⟨gx, 6, none⟩ = some (.int .i64 y0) := VX.out.cell 6
  have c7 : Y5.cell? ⟨gx, 7, none⟩ = some (.string y1) := VX.out.cell 7
  have c8 : Y5.cell? ⟨gx, 8, none⟩ = some (.string y2) := VX.out.cell 8
  have c9 : Y5.cell? ⟨gx, 9, none⟩ = some (.int .i64 y3) := VX.out.cell 9
  have c10 : Y5.cell? ⟨gx, 10, none⟩ = some (.slice ya s4.length yk) := VX.out.cell 10
  have c11 : Y5.cell? ⟨gx, 11, none⟩ = some (.int .i64 y5) := VX.out.cell 11
  have KI := Lib.hid (HI.out HF1.out HF2.out _ _ Y5 RX.out RY.out)
  go_wp2_with fail
  refine (KI.out).mono ?_
  rintro e Y6 ⟨rfl, hb⟩
  replace A0 := Lib.hid (A0.out.next hb)
  replace B0 := Lib.hid (B0.out.trans (hb.mono B0.out.size))
  replace VX := Lib.hid (VX.out.next hb)
  replace RX := Lib.hid (layIntS.below RX.out hb)
  replace RY := Lib.hid (layIntS.below RY.out hb)
  clear hb KI c0 c1 c2 c3 c4 c5 c6 c7 c8 c9 c10 c11
  have qv : ∀ X Y, (Hid (VarA w.heap.size LSsT #[.int .i64 x0, .string x1, .string x2, .int .i64 x3, .slice a4 r4.length p4, .int .i64 x5, .int .i64 y0, .string y1, .string y2, .int .i64 y3, .slice b4 s4.length q4, .int .i64 y5] X ∧ VarA gx SlotsT #[.int .i64 x0, .string x1, .string x2, .int .i64 x3, .slice xa r4.length xk, .int .i64 x5, .int .i64 y0, .string y1, .string y2, .int .i64 y3, .slice ya s4.length yk, .int .i64 y5] X ∧ Below w.heap.size w X ∧ (layIntS.rd X [.slice xa r4.length xk] r4 ∧ layIntS.rd X [.slice ya s4.length yk] s4))) → Below X.heap.size X Y → (Hid (VarA w.heap.size LSsT #[.int .i64 x0, .string x1, .string x2, .int .i64 x3, .slice a4 r4.length p4, .int .i64 x5, .int .i64 y0, .string y1, .string y2, .int .i64 y3, .slice b4 s4.length q4, .int .i64 y5] Y ∧ VarA gx SlotsT #[.int .i64 x0, .string x1, .string x2, .int .i64 x3, .slice xa r4.length xk, .int .i64 x5, .int .i64 y0, .string y1, .string y2, .int .i64 y3, .slice ya s4.length yk, .int .i64 y5] Y ∧ Below w.heap.size w Y ∧ (layIntS.rd Y [.slice xa r4.length xk] r4 ∧ layIntS.rd Y [.slice ya s4.length yk] s4))) := fun X Y h hb => Lib.hid ⟨h.out.1.next hb, h.out.2.1.next hb, h.out.2.2.1.trans (hb.mono h.out.2.2.1.size), ⟨layIntS.below h.out.2.2.2.1 hb, layIntS.below h.out.2.2.2.2 hb⟩⟩
  have hdr : Below Y6.heap.size Y6 Y6.drew := (Below.refl _ _).drew
  have E0 : Hid (VarA w.heap.size LSsT #[.int .i64 x0, .string x1, .string x2, .int .i64 x3, .slice a4 r4.length p4, .int .i64 x5, .int .i64 y0, .string y1, .string y2, .int .i64 y3, .slice b4 s4.length q4, .int .i64 y5] Y6.drew ∧ VarA gx SlotsT #[.int .i64 x0, .string x1, .string x2, .int .i64 x3, .slice xa r4.length xk, .int .i64 x5, .int .i64 y0, .string y1, .string y2, .int .i64 y3, .slice ya s4.length yk, .int .i64 y5] Y6.drew ∧ Below w.heap.size w Y6.drew ∧ (layIntS.rd Y6.drew [.slice xa r4.length xk] r4 ∧ layIntS.rd Y6.drew [.slice ya s4.length yk] s4)) := Lib.hid ⟨A0.out.drew, VX.out.drew, B0.out.drew, ⟨layIntS.below RX.out hdr, layIntS.below RY.out hdr⟩⟩
  go_wp2_with fail
  clear hdr A0 VX B0 RX RY
  refine wp_region_held_drew (S := fun X => Hid (VarA w.heap.size LSsT #[.int .i64 x0, .string x1, .string x2, .int .i64 x3, .slice a4 r4.length p4, .int .i64 x5, .int .i64 y0, .string y1, .string y2, .int .i64 y3, .slice b4 s4.length q4, .int .i64 y5] X ∧ VarA gx SlotsT #[.int .i64 x0, .string x1, .string x2, .int .i64 x3, .slice xa r4.length xk, .int .i64 x5, .int .i64 y0, .string y1, .string y2, .int .i64 y3, .slice ya s4.length yk, .int .i64 y5] X ∧ Below w.heap.size w X ∧ (layIntS.rd X [.slice xa r4.length xk] r4 ∧ layIntS.rd X [.slice ya s4.length yk] s4))) (by kernel_rfl) E0 (fun hHeld => ?_)
  clear E0
  generalize Y6.drew = X0 at *
  refine wpAnyH_take (i := 0) (v := ?_) rfl (by kernel_rfl) (by kernel_rfl) (by kernel_rfl) (fun _ _ _ h => h) (Or.inl ⟨by kernel_rfl, ?_⟩) hHeld ?_
  rotate_left
  · intro X hX
    have yy0 : X.cell? ⟨gx, 0, none⟩ = some (.int .i64 x0) := hX.out.2.1.cell 0
    have yy1 : X.cell? ⟨gx, 1, none⟩ = some (.string x1) := hX.out.2.1.cell 1
    have yy2 : X.cell? ⟨gx, 2, none⟩ = some (.string x2) := hX.out.2.1.cell 2
    have yy3 : X.cell? ⟨gx, 3, none⟩ = some (.int .i64 x3) := hX.out.2.1.cell 3
    have yy4 : X.cell? ⟨gx, 4, none⟩ = some (.slice xa r4.length xk) := hX.out.2.1.cell 4
    have yy5 : X.cell? ⟨gx, 5, none⟩ = some (.int .i64 x5) := hX.out.2.1.cell 5
    have yy6 : X.cell? ⟨gx, 6, none⟩ = some (.int .i64 y0) := hX.out.2.1.cell 6
    have yy7 : X.cell? ⟨gx, 7, none⟩ = some (.string y1) := hX.out.2.1.cell 7
    have yy8 : X.cell? ⟨gx, 8, none⟩ = some (.string y2) := hX.out.2.1.cell 8
    have yy9 : X.cell? ⟨gx, 9, none⟩ = some (.int .i64 y3) := hX.out.2.1.cell 9
    have yy10 : X.cell? ⟨gx, 10, none⟩ = some (.slice ya s4.length yk) := hX.out.2.1.cell 10
    have yy11 : X.cell? ⟨gx, 11, none⟩ = some (.int .i64 y5) := hX.out.2.1.cell 11
    first | (go_simp; done) | (go_simp; with_reducible rfl)
  try simp only [Act.put, List.getElem_toArray, List.getElem_cons_zero, List.setIfInBounds_toArray, List.set_cons_zero, List.set_cons_succ]
  refine wpAnyH_take (i := 1) (v := ?_) rfl (by kernel_rfl) (by kernel_rfl) (by kernel_rfl) (fun _ _ _ h => h) (Or.inl ⟨by kernel_rfl, ?_⟩) hHeld ?_
  rotate_left
  · intro X hX
    have yy0 : X.cell? ⟨w.heap.size, 0, none⟩ = some (.int .i64 x0) := hX.out.1.cell 0
    have yy1 : X.cell? ⟨w.heap.size, 1, none⟩ = some (.string x1) := hX.out.1.cell 1
    have yy2 : X.cell? ⟨w.heap.size, 2, none⟩ = some (.string x2) := hX.out.1.cell 2
    have yy3 : X.cell? ⟨w.heap.size, 3, none⟩ = some (.int .i64 x3) := hX.out.1.cell 3
    have yy4 : X.cell? ⟨w.heap.size, 4, none⟩ = some (.slice a4 r4.length p4) := hX.out.1.cell 4
    have yy5 : X.cell? ⟨w.heap.size, 5, none⟩ = some (.int .i64 x5) := hX.out.1.cell 5
    have yy6 : X.cell? ⟨w.heap.size, 6, none⟩ = some (.int .i64 y0) := hX.out.1.cell 6
    have yy7 : X.cell? ⟨w.heap.size, 7, none⟩ = some (.string y1) := hX.out.1.cell 7
    have yy8 : X.cell? ⟨w.heap.size, 8, none⟩ = some (.string y2) := hX.out.1.cell 8
    have yy9 : X.cell? ⟨w.heap.size, 9, none⟩ = some (.int .i64 y3) := hX.out.1.cell 9
    have yy10 : X.cell? ⟨w.heap.size, 10, none⟩ = some (.slice b4 s4.length q4) := hX.out.1.cell 10
    have yy11 : X.cell? ⟨w.heap.size, 11, none⟩ = some (.int .i64 y5) := hX.out.1.cell 11
    first | (go_simp; done) | (go_simp; with_reducible rfl)
  try simp only [Act.put, List.getElem_toArray, List.getElem_cons_succ, List.getElem_cons_zero, List.setIfInBounds_toArray, List.set_cons_zero, List.set_cons_succ]
  refine wpAnyH_ready (rs := [2]) (by kernel_rfl) (by simp) ?_
  refine AllReadyH.cons rfl (fun K hK => ?_) AllReadyH.nil
  go_simp
  go_wp2_with (go_at_call 13; refine (TT.out X0 hHeld.out.2.2.1).mono ?_; rintro e X1 ⟨v5, v6, f5, g5, rfl, hd, o1, o2, hb⟩; obtain ⟨ta, tk, rfl⟩ := rows_form (layIntS.read o1); obtain ⟨sa, sk, rfl⟩ := rows_form (layIntS.read o2); have hS := qv _ _ hHeld hb; have R1 := Lib.hid (layIntS.read o1); have R2 := Lib.hid (layIntS.read o2); clear hb o1 o2 g5 hd f5)
  refine hK.out _ _ hS (fun hHeld => ?_)
  clear hK K hS
  try simp only [Act.put, List.getElem_toArray, List.getElem_cons_succ, List.getElem_cons_zero, List.setIfInBounds_toArray, List.set_cons_zero, List.set_cons_succ]
  refine wpAnyH_ready (rs := [3]) (by kernel_rfl) (by simp) ?_
  refine AllReadyH.cons rfl (fun K hK => ?_) AllReadyH.nil
  have KE := Lib.hid (eqSlots_same x0 x1 x2 x3 _ r4 x5 y0 y1 y2 y3 _ s4 y5 _ _ X1 hHeld.out.2.2.2.1 hHeld.out.2.2.2.2 R1.out R2.out (by have := HF1.out.2.2; unfold FitsInt at this; omega) (by have := HF2.out.2.2; unfold FitsInt at this; omega))
  go_simp
  go_wp2_with (go_at_call 15; refine (KE.out).mono ?_; rintro e X2 ⟨rfl, hb⟩; have hS := qv _ _ hHeld hb; clear hb)
  refine hK.out _ _ hS (fun hHeld => ?_)
  clear hK K hS KE R1 R2
  try simp only [Act.put, List.getElem_toArray, List.getElem_cons_succ, List.getElem_cons_zero, List.setIfInBounds_toArray, List.set_cons_zero, List.set_cons_succ]
  refine wpAnyH_take (i := 4) (v := ?_) rfl (by kernel_rfl) (by kernel_rfl) (by kernel_rfl) (fun _ _ _ h => h) (Or.inl ⟨by kernel_rfl, ?_⟩) hHeld ?_
  rotate_left
  · intro X hX
    first | (go_simp; done) | (go_simp; with_reducible rfl)
  try simp only [Act.put, List.getElem_toArray, List.getElem_cons_succ, List.getElem_cons_zero, List.setIfInBounds_toArray, List.set_cons_zero, List.set_cons_succ]
  refine wpAnyH_done (by kernel_rfl) ?_ _
  have hz9 := hHeld.out.2.2.1
  clear hHeld
  go_wp2_with fail
  go_ret
  exact ⟨rfl, hz9⟩

end Go.Proofs.Ytpfkokjbpfaafau
namespace Go.Proofs.Ytpfkokjbpfaafau
open Go.RowKit

theorem lawSlotsOk (x0 : Int) (x1 x2 : ByteArray) (x3 : Int) (v4 : Value) (r4 : List Int) (x5 : Int) (y0 : Int) (y1 y2 : ByteArray) (y3 : Int) (u4 : Value) (s4 : List Int) (y5 : Int) (gx : SlG x0 x1 x2 x3 r4 x5) (gy : SlG y0 y1 y2 y3 s4 y5) (w : World) (ha : layIntS.rd w [v4] r4) (hb : layIntS.rd w [u4] s4) :
    Calls Try.prog 4 #[.agg #[.int .i64 x0, .string x1, .string x2, .int .i64 x3, v4, .int .i64 x5, .int .i64 y0, .string y1, .string y2, .int .i64 y3, u4, .int .i64 y5]] w fun e w' => e = .returned (.bool true) ∧ Below w.heap.size w w' := by
  obtain ⟨b, hbb⟩ : ∃ b : Bool, b = true ↔ SlotsP x0 x1 x2 x3 r4 x5 y0 y1 y2 y3 s4 y5 := by
    by_cases h : SlotsP x0 x1 x2 x3 r4 x5 y0 y1 y2 y3 s4 y5
    · exact ⟨true, fun _ => h, fun _ => rfl⟩
    · exact ⟨false, fun e => (by cases e), fun e => absurd e h⟩
  exact lawSlotsOkF x0 x1 x2 x3 v4 r4 x5 y0 y1 y2 y3 u4 s4 y5 gx.s1 gx.s2 gx.r gy.s1 gy.s2 gy.r b (fun f1 f2 v u X h k => implSlotsOk_bool x0 x1 x2 x3 v r4 x5 y0 y1 y2 y3 u s4 y5 b hbb f1 f2 gx gy X h k) (fun f1 f2 v u X h k => specSlotsOk_bool x0 x1 x2 x3 v r4 x5 y0 y1 y2 y3 u s4 y5 b hbb (by have := f1.2.2; unfold FitsInt at this; omega) (by have := f2.2.2; unfold FitsInt at this; omega) X h k) w ha hb

end Go.Proofs.Ytpfkokjbpfaafau
