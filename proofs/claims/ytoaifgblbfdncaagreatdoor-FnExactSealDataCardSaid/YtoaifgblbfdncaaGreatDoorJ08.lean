/-
  Two slots in one struct as they lie; the laws' own functions over it.
-/
import Derived.Test.YtoaifgblbfdncaaGreatDoorJ06
import Derived.Test.YtoaifgblbfdncaaGreatDoorJ07
namespace Go.Proofs.YtoaifgblbfdncaaGreatDoor
open Go.RowKit

abbrev SlotsD := SlotD × SlotD
abbrev SlotsT : TypeId := 31
def laySlots : Lay SlotsD := Lay.pair laySlot laySlot
theorem laySlots_rd {w : World} {cs : List Value} {x : SlotsD} : laySlots.rd w cs x ↔ ∃ v4 u4, cs = [.int .i64 x.1.1, .string x.1.2.1, .string x.1.2.2.1, .int .i64 x.1.2.2.2.1, v4, .int .i64 x.1.2.2.2.2.2, .int .i64 x.2.1, .string x.2.2.1, .string x.2.2.2.1, .int .i64 x.2.2.2.2.1, u4, .int .i64 x.2.2.2.2.2.2] ∧ layIntS.rd w [v4] x.1.2.2.2.2.1 ∧ layIntS.rd w [u4] x.2.2.2.2.2.1 := by
  constructor
  · rintro ⟨c, d, rfl, h1, h2⟩
    obtain ⟨v4, rfl, h3⟩ := laySlot_rd.1 h1
    obtain ⟨u4, rfl, h4⟩ := laySlot_rd.1 h2
    exact ⟨v4, u4, rfl, h3, h4⟩
  · rintro ⟨v4, u4, rfl, h3, h4⟩
    exact ⟨[_, _, _, _, _, _], [_, _, _, _, _, _], rfl, laySlot_rd.2 ⟨v4, rfl, h3⟩, laySlot_rd.2 ⟨u4, rfl, h4⟩⟩
theorem putMain {X : World} {G : Nat} {T : TypeId} {q0 q1 q2 q3 q4 q5 q6 q7 q8 q9 q10 q11 : Value} (h : VarA G T #[q0, q1, q2, q3, q4, q5, q6, q7, q8, q9, q10, q11] X) (u0 u1 u2 u3 u4 u5 : Value) : VarA G T #[u0, u1, u2, u3, u4, u5, q6, q7, q8, q9, q10, q11] ((((((X.setCell ⟨G, 0, none⟩ (u0)).setCell ⟨G, 1, none⟩ (u1)).setCell ⟨G, 2, none⟩ (u2)).setCell ⟨G, 3, none⟩ (u3)).setCell ⟨G, 4, none⟩ (u4)).setCell ⟨G, 5, none⟩ (u5)) := by
  have h0 := h.set 0 u0
  have h1 := h0.set 1 u1
  have h2 := h1.set 2 u2
  have h3 := h2.set 3 u3
  have h4 := h3.set 4 u4
  have h5 := h4.set 5 u5
  exact h5
theorem putMain_below {base : Nat} {w X : World} {G : Nat} (h : Below base w X) (hG : base ≤ G) (u0 u1 u2 u3 u4 u5 : Value) : Below base w ((((((X.setCell ⟨G, 0, none⟩ (u0)).setCell ⟨G, 1, none⟩ (u1)).setCell ⟨G, 2, none⟩ (u2)).setCell ⟨G, 3, none⟩ (u3)).setCell ⟨G, 4, none⟩ (u4)).setCell ⟨G, 5, none⟩ (u5)) := (((((h.setCell (p := ⟨G, 0, none⟩) hG _).setCell (p := ⟨G, 1, none⟩) hG _).setCell (p := ⟨G, 2, none⟩) hG _).setCell (p := ⟨G, 3, none⟩) hG _).setCell (p := ⟨G, 4, none⟩) hG _).setCell (p := ⟨G, 5, none⟩) hG _
theorem putMain_only (X : World) (G : Nat) (u0 u1 u2 u3 u4 u5 : Value) : Only G X ((((((X.setCell ⟨G, 0, none⟩ (u0)).setCell ⟨G, 1, none⟩ (u1)).setCell ⟨G, 2, none⟩ (u2)).setCell ⟨G, 3, none⟩ (u3)).setCell ⟨G, 4, none⟩ (u4)).setCell ⟨G, 5, none⟩ (u5)) := ((((((Only.refl G X).trans (Only.setCell 0 _)).trans (Only.setCell 1 _)).trans (Only.setCell 2 _)).trans (Only.setCell 3 _)).trans (Only.setCell 4 _)).trans (Only.setCell 5 _)
theorem putLame {X : World} {G : Nat} {T : TypeId} {q0 q1 q2 q3 q4 q5 q6 q7 q8 q9 q10 q11 : Value} (h : VarA G T #[q0, q1, q2, q3, q4, q5, q6, q7, q8, q9, q10, q11] X) (u0 u1 u2 u3 u4 u5 : Value) : VarA G T #[q0, q1, q2, q3, q4, q5, u0, u1, u2, u3, u4, u5] ((((((X.setCell ⟨G, 6, none⟩ (u0)).setCell ⟨G, 7, none⟩ (u1)).setCell ⟨G, 8, none⟩ (u2)).setCell ⟨G, 9, none⟩ (u3)).setCell ⟨G, 10, none⟩ (u4)).setCell ⟨G, 11, none⟩ (u5)) := by
  have h0 := h.set 6 u0
  have h1 := h0.set 7 u1
  have h2 := h1.set 8 u2
  have h3 := h2.set 9 u3
  have h4 := h3.set 10 u4
  have h5 := h4.set 11 u5
  exact h5
theorem putLame_below {base : Nat} {w X : World} {G : Nat} (h : Below base w X) (hG : base ≤ G) (u0 u1 u2 u3 u4 u5 : Value) : Below base w ((((((X.setCell ⟨G, 6, none⟩ (u0)).setCell ⟨G, 7, none⟩ (u1)).setCell ⟨G, 8, none⟩ (u2)).setCell ⟨G, 9, none⟩ (u3)).setCell ⟨G, 10, none⟩ (u4)).setCell ⟨G, 11, none⟩ (u5)) := (((((h.setCell (p := ⟨G, 6, none⟩) hG _).setCell (p := ⟨G, 7, none⟩) hG _).setCell (p := ⟨G, 8, none⟩) hG _).setCell (p := ⟨G, 9, none⟩) hG _).setCell (p := ⟨G, 10, none⟩) hG _).setCell (p := ⟨G, 11, none⟩) hG _
theorem putLame_only (X : World) (G : Nat) (u0 u1 u2 u3 u4 u5 : Value) : Only G X ((((((X.setCell ⟨G, 6, none⟩ (u0)).setCell ⟨G, 7, none⟩ (u1)).setCell ⟨G, 8, none⟩ (u2)).setCell ⟨G, 9, none⟩ (u3)).setCell ⟨G, 10, none⟩ (u4)).setCell ⟨G, 11, none⟩ (u5)) := ((((((Only.refl G X).trans (Only.setCell 6 _)).trans (Only.setCell 7 _)).trans (Only.setCell 8 _)).trans (Only.setCell 9 _)).trans (Only.setCell 10 _)).trans (Only.setCell 11 _)
theorem putBoth {X : World} {G : Nat} {T : TypeId} {q0 q1 q2 q3 q4 q5 q6 q7 q8 q9 q10 q11 : Value} (h : VarA G T #[q0, q1, q2, q3, q4, q5, q6, q7, q8, q9, q10, q11] X) (u0 u1 u2 u3 u4 u5 u6 u7 u8 u9 u10 u11 : Value) : VarA G T #[u0, u1, u2, u3, u4, u5, u6, u7, u8, u9, u10, u11] ((((((((((((X.setCell ⟨G, 0, none⟩ (u0)).setCell ⟨G, 1, none⟩ (u1)).setCell ⟨G, 2, none⟩ (u2)).setCell ⟨G, 3, none⟩ (u3)).setCell ⟨G, 4, none⟩ (u4)).setCell ⟨G, 5, none⟩ (u5)).setCell ⟨G, 6, none⟩ (u6)).setCell ⟨G, 7, none⟩ (u7)).setCell ⟨G, 8, none⟩ (u8)).setCell ⟨G, 9, none⟩ (u9)).setCell ⟨G, 10, none⟩ (u10)).setCell ⟨G, 11, none⟩ (u11)) := by
  exact putLame (putMain h u0 u1 u2 u3 u4 u5) u6 u7 u8 u9 u10 u11
theorem putBoth_below {base : Nat} {w X : World} {G : Nat} (h : Below base w X) (hG : base ≤ G) (u0 u1 u2 u3 u4 u5 u6 u7 u8 u9 u10 u11 : Value) : Below base w ((((((((((((X.setCell ⟨G, 0, none⟩ (u0)).setCell ⟨G, 1, none⟩ (u1)).setCell ⟨G, 2, none⟩ (u2)).setCell ⟨G, 3, none⟩ (u3)).setCell ⟨G, 4, none⟩ (u4)).setCell ⟨G, 5, none⟩ (u5)).setCell ⟨G, 6, none⟩ (u6)).setCell ⟨G, 7, none⟩ (u7)).setCell ⟨G, 8, none⟩ (u8)).setCell ⟨G, 9, none⟩ (u9)).setCell ⟨G, 10, none⟩ (u10)).setCell ⟨G, 11, none⟩ (u11)) := (((((((((((h.setCell (p := ⟨G, 0, none⟩) hG _).setCell (p := ⟨G, 1, none⟩) hG _).setCell (p := ⟨G, 2, none⟩) hG _).setCell (p := ⟨G, 3, none⟩) hG _).setCell (p := ⟨G, 4, none⟩) hG _).setCell (p := ⟨G, 5, none⟩) hG _).setCell (p := ⟨G, 6, none⟩) hG _).setCell (p := ⟨G, 7, none⟩) hG _).setCell (p := ⟨G, 8, none⟩) hG _).setCell (p := ⟨G, 9, none⟩) hG _).setCell (p := ⟨G, 10, none⟩) hG _).setCell (p := ⟨G, 11, none⟩) hG _
set_option maxRecDepth 100000 in
set_option maxHeartbeats 1600000 in
theorem szSlots_any (x0 : Int) (x1 x2 : ByteArray) (x3 : Int) (v4 : Value) (r4 : List Int) (x5 : Int) (y0 : Int) (y1 y2 : ByteArray) (y3 : Int) (u4 : Value) (s4 : List Int) (y5 : Int) (left : Int) (hk0 : 0 ≤ left) (hk1 : left ≤ 1048576) (m1 : x1.size ≤ 9223372036854775807) (m2 : x2.size ≤ 9223372036854775807) (m4 : RoomInt r4) (n1 : y1.size ≤ 9223372036854775807) (n2 : y2.size ≤ 9223372036854775807) (n4 : RoomInt s4) (w : World) (h4 : layIntS.rd w [v4] r4) (k4 : layIntS.rd w [u4] s4) :
    Calls Tryz.prog 15 #[.agg #[.int .i64 x0, .string x1, .string x2, .int .i64 x3, v4, .int .i64 x5, .int .i64 y0, .string y1, .string y2, .int .i64 y3, u4, .int .i64 y5], .int .i64 left] w fun e w' => SzEnd (FitsSlot x1 x2 r4 ∧ FitsSlot y1 y2 s4) left e ∧ Below w.heap.size w w' := by
  obtain ⟨a4, p4, rfl⟩ := rows_form h4
  obtain ⟨b4, q4, rfl⟩ := rows_form k4
  have BY := Lib.hid ((Below.refl w.heap.size w).alloc (Nat.le_refl _) (.cells #[.int .i64 x0, .string x1, .string x2, .int .i64 x3, .slice a4 r4.length p4, .int .i64 x5, .int .i64 y0, .string y1, .string y2, .int .i64 y3, .slice b4 s4.length q4, .int .i64 y5] 46))
  have H4 := Lib.hid (layIntS.below h4 BY.out)
  have K4 := Lib.hid (layIntS.below k4 BY.out)
  have A0 := Lib.hid (VarA.new w 46 #[.int .i64 x0, .string x1, .string x2, .int .i64 x3, .slice a4 r4.length p4, .int .i64 x5, .int .i64 y0, .string y1, .string y2, .int .i64 y3, .slice b4 s4.length q4, .int .i64 y5])
  clear h4 k4
  go_enter Tryz.func15, Tryz.ntmps15
  go_upto_region 1 with fail
  generalize w.alloc (.cells #[.int .i64 x0, .string x1, .string x2, .int .i64 x3, .slice a4 r4.length p4, .int .i64 x5, .int .i64 y0, .string y1, .string y2, .int .i64 y3, .slice b4 s4.length q4, .int .i64 y5] 46) = Y0 at *
  have c0 : Y0.cell? ⟨w.heap.size, 0, none⟩ = some (.int .i64 x0) := A0.out.cell 0
  have c1 : Y0.cell? ⟨w.heap.size, 1, none⟩ = some (.string x1) := A0.out.cell 1
  have c2 : Y0.cell? ⟨w.heap.size, 2, none⟩ = some (.string x2) := A0.out.cell 2
  have c3 : Y0.cell? ⟨w.heap.size, 3, none⟩ = some (.int .i64 x3) := A0.out.cell 3
  have c4 : Y0.cell? ⟨w.heap.size, 4, none⟩ = some (.slice a4 r4.length p4) := A0.out.cell 4
  have c5 : Y0.cell? ⟨w.heap.size, 5, none⟩ = some (.int .i64 x5) := A0.out.cell 5
  have c6 : Y0.cell? ⟨w.heap.size, 6, none⟩ = some (.int .i64 y0) := A0.out.cell 6
  have c7 : Y0.cell? ⟨w.heap.size, 7, none⟩ = some (.string y1) := A0.out.cell 7
  have c8 : Y0.cell? ⟨w.heap.size, 8, none⟩ = some (.string y2) := A0.out.cell 8
  have c9 : Y0.cell? ⟨w.heap.size, 9, none⟩ = some (.int .i64 y3) := A0.out.cell 9
  have c10 : Y0.cell? ⟨w.heap.size, 10, none⟩ = some (.slice b4 s4.length q4) := A0.out.cell 10
  have c11 : Y0.cell? ⟨w.heap.size, 11, none⟩ = some (.int .i64 y5) := A0.out.cell 11
  have K := Lib.hid (szSlot_any x0 x1 x2 x3 _ r4 x5 left hk0 hk1 m1 m2 m4 Y0 H4.out)
  go_wp2_with fail
  refine (K.out).mono ?_
  rintro e Y1 ⟨⟨t4, rfl, rfl | ⟨u4, w4, F4⟩⟩, hb⟩
  · replace BY := Lib.hid (BY.out.trans (hb.mono BY.out.size))
    clear hb
    go_wp2_with fail
    go_ret
    exact ⟨⟨_, rfl, .inl rfl⟩, BY.out⟩
  replace F4 := Lib.hid F4
  replace BY := Lib.hid (BY.out.trans (hb.mono BY.out.size))
  replace A0 := Lib.hid (A0.out.next hb)
  replace K4 := Lib.hid (layIntS.below K4.out hb)
  have g4 : ¬ (t4 < 0) := by omega
  clear hb K H4 c0 c1 c2 c3 c4 c5 c6 c7 c8 c9 c10 c11
  have c0 : Y1.cell? ⟨w.heap.size, 0, none⟩ = some (.int .i64 x0) := A0.out.cell 0
  have c1 : Y1.cell? ⟨w.heap.size, 1, none⟩ = some (.string x1) := A0.out.cell 1
  have c2 : Y1.cell? ⟨w.heap.size, 2, none⟩ = some (.string x2) := A0.out.cell 2
  have c3 : Y1.cell? ⟨w.heap.size, 3, none⟩ = some (.int .i64 x3) := A0.out.cell 3
  have c4 : Y1.cell? ⟨w.heap.size, 4, none⟩ = some (.slice a4 r4.length p4) := A0.out.cell 4
  have c5 : Y1.cell? ⟨w.heap.size, 5, none⟩ = some (.int .i64 x5) := A0.out.cell 5
  have c6 : Y1.cell? ⟨w.heap.size, 6, none⟩ = some (.int .i64 y0) := A0.out.cell 6
  have c7 : Y1.cell? ⟨w.heap.size, 7, none⟩ = some (.string y1) := A0.out.cell 7
  have c8 : Y1.cell? ⟨w.heap.size, 8, none⟩ = some (.string y2) := A0.out.cell 8
  have c9 : Y1.cell? ⟨w.heap.size, 9, none⟩ = some (.int .i64 y3) := A0.out.cell 9
  have c10 : Y1.cell? ⟨w.heap.size, 10, none⟩ = some (.slice b4 s4.length q4) := A0.out.cell 10
  have c11 : Y1.cell? ⟨w.heap.size, 11, none⟩ = some (.int .i64 y5) := A0.out.cell 11
  have K := Lib.hid (szSlot_any y0 y1 y2 y3 _ s4 y5 t4 u4 (by omega) n1 n2 n4 Y1 K4.out)
  go_wp2_with fail
  refine (K.out).mono ?_
  rintro e Y2 ⟨⟨t5, rfl, rfl | ⟨u5, w5, F5⟩⟩, hb⟩
  · replace BY := Lib.hid (BY.out.trans (hb.mono BY.out.size))
    clear hb
    go_wp2_with fail
    go_ret
    exact ⟨⟨_, rfl, .inl rfl⟩, BY.out⟩
  replace F5 := Lib.hid F5
  replace BY := Lib.hid (BY.out.trans (hb.mono BY.out.size))
  have g5 : ¬ (t5 < 0) := by omega
  clear hb K c0 c1 c2 c3 c4 c5 c6 c7 c8 c9 c10 c11
  go_wp2_with fail
  go_ret
  exact ⟨⟨_, rfl, .inr ⟨by omega, by omega, F4.out, F5.out⟩⟩, BY.out⟩
set_option maxRecDepth 100000 in
set_option maxHeartbeats 1600000 in
theorem eqSlots_same (x0 : Int) (x1 x2 : ByteArray) (x3 : Int) (v4 : Value) (r4 : List Int) (x5 : Int) (y0 : Int) (y1 y2 : ByteArray) (y3 : Int) (u4 : Value) (s4 : List Int) (y5 : Int) (v5 u5 : Value) (w : World) (h4 : layIntS.rd w [v4] r4) (k4 : layIntS.rd w [u4] s4) (h5 : layIntS.rd w [v5] r4) (k5 : layIntS.rd w [u5] s4) (l4 : r4.length ≤ 100000000) (l5 : s4.length ≤ 100000000) :
    Calls Tryz.prog 18 #[.agg #[.int .i64 x0, .string x1, .string x2, .int .i64 x3, v4, .int .i64 x5, .int .i64 y0, .string y1, .string y2, .int .i64 y3, u4, .int .i64 y5], .agg #[.int .i64 x0, .string x1, .string x2, .int .i64 x3, v5, .int .i64 x5, .int .i64 y0, .string y1, .string y2, .int .i64 y3, u5, .int .i64 y5]] w fun e w' => e = .returned (.bool true) ∧ Below w.heap.size w w' := by
  obtain ⟨a4, p4, rfl⟩ := rows_form h4
  obtain ⟨b4, q4, rfl⟩ := rows_form k4
  obtain ⟨a5, p5, rfl⟩ := rows_form h5
  obtain ⟨b5, q5, rfl⟩ := rows_form k5
  have e1 : (w.alloc (.cells #[.int .i64 x0, .string x1, .string x2, .int .i64 x3, .slice a4 r4.length p4, .int .i64 x5, .int .i64 y0, .string y1, .string y2, .int .i64 y3, .slice b4 s4.length q4, .int .i64 y5] SlotsT)).heap.size = w.heap.size + 1 := by simp
  have h2 := VarA.new (w.alloc (.cells #[.int .i64 x0, .string x1, .string x2, .int .i64 x3, .slice a4 r4.length p4, .int .i64 x5, .int .i64 y0, .string y1, .string y2, .int .i64 y3, .slice b4 s4.length q4, .int .i64 y5] SlotsT)) SlotsT #[.int .i64 x0, .string x1, .string x2, .int .i64 x3, .slice a5 r4.length p5, .int .i64 x5, .int .i64 y0, .string y1, .string y2, .int .i64 y3, .slice b5 s4.length q5, .int .i64 y5]
  rw [e1] at h2
  have A0 := Lib.hid ((VarA.new w SlotsT #[.int .i64 x0, .string x1, .string x2, .int .i64 x3, .slice a4 r4.length p4, .int .i64 x5, .int .i64 y0, .string y1, .string y2, .int .i64 y3, .slice b4 s4.length q4, .int .i64 y5]).alloc (.cells #[.int .i64 x0, .string x1, .string x2, .int .i64 x3, .slice a5 r4.length p5, .int .i64 x5, .int .i64 y0, .string y1, .string y2, .int .i64 y3, .slice b5 s4.length q5, .int .i64 y5] SlotsT))
  have A1 := Lib.hid h2
  have BY := Lib.hid (((Below.refl w.heap.size w).alloc (Nat.le_refl _) (.cells #[.int .i64 x0, .string x1, .string x2, .int .i64 x3, .slice a4 r4.length p4, .int .i64 x5, .int .i64 y0, .string y1, .string y2, .int .i64 y3, .slice b4 s4.length q4, .int .i64 y5] SlotsT)).alloc (by simp) (.cells #[.int .i64 x0, .string x1, .string x2, .int .i64 x3, .slice a5 r4.length p5, .int .i64 x5, .int .i64 y0, .string y1, .string y2, .int .i64 y3, .slice b5 s4.length q5, .int .i64 y5] SlotsT))
  have H4 := Lib.hid (layIntS.below h4 BY.out)
  have K4 := Lib.hid (layIntS.below k4 BY.out)
  have H5 := Lib.hid (layIntS.below h5 BY.out)
  have K5 := Lib.hid (layIntS.below k5 BY.out)
  clear h4 k4 h5 k5 h2 e1
  go_enter Tryz.func18, Tryz.ntmps18
  go_upto_region 1 with fail
  generalize (w.alloc (.cells #[.int .i64 x0, .string x1, .string x2, .int .i64 x3, .slice a4 r4.length p4, .int .i64 x5, .int .i64 y0, .string y1, .string y2, .int .i64 y3, .slice b4 s4.length q4, .int .i64 y5] SlotsT)).alloc (.cells #[.int .i64 x0, .string x1, .string x2, .int .i64 x3, .slice a5 r4.length p5, .int .i64 x5, .int .i64 y0, .string y1, .string y2, .int .i64 y3, .slice b5 s4.length q5, .int .i64 y5] SlotsT) = Y0 at *
  have c0 : Y0.cell? ⟨w.heap.size, 0, none⟩ = some (.int .i64 x0) := A0.out.cell 0
  have c1 : Y0.cell? ⟨w.heap.size, 1, none⟩ = some (.string x1) := A0.out.cell 1
  have c2 : Y0.cell? ⟨w.heap.size, 2, none⟩ = some (.string x2) := A0.out.cell 2
  have c3 : Y0.cell? ⟨w.heap.size, 3, none⟩ = some (.int .i64 x3) := A0.out.cell 3
  have c4 : Y0.cell? ⟨w.heap.size, 4, none⟩ = some (.slice a4 r4.length p4) := A0.out.cell 4
  have c5 : Y0.cell? ⟨w.heap.size, 5, none⟩ = some (.int .i64 x5) := A0.out.cell 5
  have c6 : Y0.cell? ⟨w.heap.size, 6, none⟩ = some (.int .i64 y0) := A0.out.cell 6
  have c7 : Y0.cell? ⟨w.heap.size, 7, none⟩ = some (.string y1) := A0.out.cell 7
  have c8 : Y0.cell? ⟨w.heap.size, 8, none⟩ = some (.string y2) := A0.out.cell 8
  have c9 : Y0.cell? ⟨w.heap.size, 9, none⟩ = some (.int .i64 y3) := A0.out.cell 9
  have c10 : Y0.cell? ⟨w.heap.size, 10, none⟩ = some (.slice b4 s4.length q4) := A0.out.cell 10
  have c11 : Y0.cell? ⟨w.heap.size, 11, none⟩ = some (.int .i64 y5) := A0.out.cell 11
  have d0 : Y0.cell? ⟨w.heap.size + 1, 0, none⟩ = some (.int .i64 x0) := A1.out.cell 0
  have d1 : Y0.cell? ⟨w.heap.size + 1, 1, none⟩ = some (.string x1) := A1.out.cell 1
  have d2 : Y0.cell? ⟨w.heap.size + 1, 2, none⟩ = some (.string x2) := A1.out.cell 2
  have d3 : Y0.cell? ⟨w.heap.size + 1, 3, none⟩ = some (.int .i64 x3) := A1.out.cell 3
  have d4 : Y0.cell? ⟨w.heap.size + 1, 4, none⟩ = some (.slice a5 r4.length p5) := A1.out.cell 4
  have d5 : Y0.cell? ⟨w.heap.size + 1, 5, none⟩ = some (.int .i64 x5) := A1.out.cell 5
  have d6 : Y0.cell? ⟨w.heap.size + 1, 6, none⟩ = some (.int .i64 y0) := A1.out.cell 6
  have d7 : Y0.cell? ⟨w.heap.size + 1, 7, none⟩ = some (.string y1) := A1.out.cell 7
  have d8 : Y0.cell? ⟨w.heap.size + 1, 8, none⟩ = some (.string y2) := A1.out.cell 8
  have d9 : Y0.cell? ⟨w.heap.size + 1, 9, none⟩ = some (.int .i64 y3) := A1.out.cell 9
  have d10 : Y0.cell? ⟨w.heap.size + 1, 10, none⟩ = some (.slice b5 s4.length q5) := A1.out.cell 10
  have d11 : Y0.cell? ⟨w.heap.size + 1, 11, none⟩ = some (.int .i64 y5) := A1.out.cell 11
  have K := Lib.hid (eqSlot_same x0 x1 x2 x3 _ _ r4 x5 Y0 H4.out H5.out l4)
  go_wp2_with fail
  refine (K.out).mono ?_
  rintro e Y1 ⟨rfl, hb⟩
  replace BY := Lib.hid (BY.out.trans (hb.mono BY.out.size))
  replace A0 := Lib.hid (A0.out.next hb)
  replace A1 := Lib.hid (A1.out.next hb)
  replace K4 := Lib.hid (layIntS.below K4.out hb)
  replace K5 := Lib.hid (layIntS.below K5.out hb)
  clear hb K H4 H5 c0 d0 c1 d1 c2 d2 c3 d3 c4 d4 c5 d5 c6 d6 c7 d7 c8 d8 c9 d9 c10 d10 c11 d11
  have c0 : Y1.cell? ⟨w.heap.size, 0, none⟩ = some (.int .i64 x0) := A0.out.cell 0
  have c1 : Y1.cell? ⟨w.heap.size, 1, none⟩ = some (.string x1) := A0.out.cell 1
  have c2 : Y1.cell? ⟨w.heap.size, 2, none⟩ = some (.string x2) := A0.out.cell 2
  have c3 : Y1.cell? ⟨w.heap.size, 3, none⟩ = some (.int .i64 x3) := A0.out.cell 3
  have c4 : Y1.cell? ⟨w.heap.size, 4, none⟩ = some (.slice a4 r4.length p4) := A0.out.cell 4
  have c5 : Y1.cell? ⟨w.heap.size, 5, none⟩ = some (.int .i64 x5) := A0.out.cell 5
  have c6 : Y1.cell? ⟨w.heap.size, 6, none⟩ = some (.int .i64 y0) := A0.out.cell 6
  have c7 : Y1.cell? ⟨w.heap.size, 7, none⟩ = some (.string y1) := A0.out.cell 7
  have c8 : Y1.cell? ⟨w.heap.size, 8, none⟩ = some (.string y2) := A0.out.cell 8
  have c9 : Y1.cell? ⟨w.heap.size, 9, none⟩ = some (.int .i64 y3) := A0.out.cell 9
  have c10 : Y1.cell? ⟨w.heap.size, 10, none⟩ = some (.slice b4 s4.length q4) := A0.out.cell 10
  have c11 : Y1.cell? ⟨w.heap.size, 11, none⟩ = some (.int .i64 y5) := A0.out.cell 11
  have d0 : Y1.cell? ⟨w.heap.size + 1, 0, none⟩ = some (.int .i64 x0) := A1.out.cell 0
  have d1 : Y1.cell? ⟨w.heap.size + 1, 1, none⟩ = some (.string x1) := A1.out.cell 1
  have d2 : Y1.cell? ⟨w.heap.size + 1, 2, none⟩ = some (.string x2) := A1.out.cell 2
  have d3 : Y1.cell? ⟨w.heap.size + 1, 3, none⟩ = some (.int .i64 x3) := A1.out.cell 3
  have d4 : Y1.cell? ⟨w.heap.size + 1, 4, none⟩ = some (.slice a5 r4.length p5) := A1.out.cell 4
  have d5 : Y1.cell? ⟨w.heap.size + 1, 5, none⟩ = some (.int .i64 x5) := A1.out.cell 5
  have d6 : Y1.cell? ⟨w.heap.size + 1, 6, none⟩ = some (.int .i64 y0) := A1.out.cell 6
  have d7 : Y1.cell? ⟨w.heap.size + 1, 7, none⟩ = some (.string y1) := A1.out.cell 7
  have d8 : Y1.cell? ⟨w.heap.size + 1, 8, none⟩ = some (.string y2) := A1.out.cell 8
  have d9 : Y1.cell? ⟨w.heap.size + 1, 9, none⟩ = some (.int .i64 y3) := A1.out.cell 9
  have d10 : Y1.cell? ⟨w.heap.size + 1, 10, none⟩ = some (.slice b5 s4.length q5) := A1.out.cell 10
  have d11 : Y1.cell? ⟨w.heap.size + 1, 11, none⟩ = some (.int .i64 y5) := A1.out.cell 11
  have K := Lib.hid (eqSlot_same y0 y1 y2 y3 _ _ s4 y5 Y1 K4.out K5.out l5)
  go_wp2_with fail
  refine (K.out).mono ?_
  rintro e Y2 ⟨rfl, hb⟩
  replace BY := Lib.hid (BY.out.trans (hb.mono BY.out.size))
  clear hb K c0 d0 c1 d1 c2 d2 c3 d3 c4 d4 c5 d5 c6 d6 c7 d7 c8 d8 c9 d9 c10 d10 c11 d11
  go_wp2_with fail
  go_ret
  exact ⟨rfl, BY.out⟩
/-- Two slots are marked. -/
def SlotsMarked (k : Int) (b : Nat) (f g : List Nat) (v4 u4 : Value) (r4 s4 : List Int) (w : World) (e : Ending) (w' : World) : Prop := e = .returned (.int .i64 (k + 1 * (r4.length : Int) + 1 * (s4.length : Int))) ∧ layIntS.own w' b f [v4] (layIntS.mark k r4).1 ∧ layIntS.own w' b g [u4] (layIntS.mark (k + 1 * (r4.length : Int)) s4).1 ∧ Chg (f ++ g) w w'
def SlotsHeld (k : Int) (r4 s4 : List Int) (w : World) (e : Ending) (w' : World) : Prop := e = .returned (.int .i64 (k + 1 * (r4.length : Int) + 1 * (s4.length : Int))) ∧ Below w.heap.size w w'
set_option maxRecDepth 100000 in
set_option maxHeartbeats 1600000 in
theorem markSlots_any (x0 : Int) (x1 x2 : ByteArray) (x3 : Int) (v4 : Value) (r4 : List Int) (x5 : Int) (y0 : Int) (y1 y2 : ByteArray) (y3 : Int) (u4 : Value) (s4 : List Int) (y5 : Int) (b : Nat) (f g : List Nat) (l4 : r4.length ≤ 10000000) (l5 : s4.length ≤ 10000000) (k : Int) (hk0 : 1 ≤ k) (hk1 : k ≤ 50000000) (w : World) (hd : (f ++ g).Nodup) (o4 : layIntS.own w b f [v4] r4) (o5 : layIntS.own w b g [u4] s4) :
    Calls Tryz.prog 20 #[.agg #[.int .i64 x0, .string x1, .string x2, .int .i64 x3, v4, .int .i64 x5, .int .i64 y0, .string y1, .string y2, .int .i64 y3, u4, .int .i64 y5], .int .i64 k] w (SlotsMarked k b f g v4 u4 r4 s4 w) := by
  obtain ⟨a4, p4, rfl⟩ := rows_form (layIntS.read o4)
  obtain ⟨b4, q4, rfl⟩ := rows_form (layIntS.read o5)
  have nd := List.nodup_append.1 hd
  have N1 := Lib.hid nd.1
  have N2 := Lib.hid nd.2.1
  have D12 : Hid (∀ a ∈ f, a ∉ g) := Lib.hid (fun a ha hb => nd.2.2 a ha a hb rfl)
  have L1 : Hid (∀ a ∈ f, a < w.heap.size) := Lib.hid (fun a ha => (layIntS.blocks o4 a ha).2)
  have L2 : Hid (∀ a ∈ g, a < w.heap.size) := Lib.hid (fun a ha => (layIntS.blocks o5 a ha).2)
  have hal : Below w.heap.size w (w.alloc (.cells #[.int .i64 x0, .string x1, .string x2, .int .i64 x3, .slice a4 r4.length p4, .int .i64 x5, .int .i64 y0, .string y1, .string y2, .int .i64 y3, .slice b4 s4.length q4, .int .i64 y5] SlotsT)) := (Below.refl _ _).alloc (Nat.le_refl _) _
  have O4 := Lib.hid (layIntS.next o4 hal)
  have O5 := Lib.hid (layIntS.next o5 hal)
  have A0 := Lib.hid (VarA.new w SlotsT #[.int .i64 x0, .string x1, .string x2, .int .i64 x3, .slice a4 r4.length p4, .int .i64 x5, .int .i64 y0, .string y1, .string y2, .int .i64 y3, .slice b4 s4.length q4, .int .i64 y5])
  have G0 := Lib.hid (Below.chg hal (f ++ g))
  clear o4 o5 hal nd hd
  obtain ⟨Q, HQ⟩ : ∃ Q : Ending → World → Prop, Hid (Q = SlotsMarked k b f g (.slice a4 r4.length p4) (.slice b4 s4.length q4) r4 s4 w) := ⟨_, Lib.hid rfl⟩
  rw [← HQ.out]
  go_enter Tryz.func20, Tryz.ntmps20
  go_upto_region 1 with fail
  generalize w.alloc (.cells #[.int .i64 x0, .string x1, .string x2, .int .i64 x3, .slice a4 r4.length p4, .int .i64 x5, .int .i64 y0, .string y1, .string y2, .int .i64 y3, .slice b4 s4.length q4, .int .i64 y5] SlotsT) = Y0 at *
  have c0 : Y0.cell? ⟨w.heap.size, 0, none⟩ = some (.int .i64 x0) := A0.out.cell 0
  have c1 : Y0.cell? ⟨w.heap.size, 1, none⟩ = some (.string x1) := A0.out.cell 1
  have c2 : Y0.cell? ⟨w.heap.size, 2, none⟩ = some (.string x2) := A0.out.cell 2
  have c3 : Y0.cell? ⟨w.heap.size, 3, none⟩ = some (.int .i64 x3) := A0.out.cell 3
  have c4 : Y0.cell? ⟨w.heap.size, 4, none⟩ = some (.slice a4 r4.length p4) := A0.out.cell 4
  have c5 : Y0.cell? ⟨w.heap.size, 5, none⟩ = some (.int .i64 x5) := A0.out.cell 5
  have c6 : Y0.cell? ⟨w.heap.size, 6, none⟩ = some (.int .i64 y0) := A0.out.cell 6
  have c7 : Y0.cell? ⟨w.heap.size, 7, none⟩ = some (.string y1) := A0.out.cell 7
  have c8 : Y0.cell? ⟨w.heap.size, 8, none⟩ = some (.string y2) := A0.out.cell 8
  have c9 : Y0.cell? ⟨w.heap.size, 9, none⟩ = some (.int .i64 y3) := A0.out.cell 9
  have c10 : Y0.cell? ⟨w.heap.size, 10, none⟩ = some (.slice b4 s4.length q4) := A0.out.cell 10
  have c11 : Y0.cell? ⟨w.heap.size, 11, none⟩ = some (.int .i64 y5) := A0.out.cell 11
  have K := Lib.hid (markSlot_any x0 x1 x2 x3 _ r4 x5 b f l4 k hk0 (by omega) Y0 N1.out O4.out)
  go_wp2_with fail
  refine (K.out).mono ?_
  rintro e Y1 ⟨rfl, om, hc⟩
  replace O4 := Lib.hid om
  replace O5 := Lib.hid (layIntS.chg O5.out hc (fun a ha hb => D12.out a hb ha))
  replace A0 : Hid (VarA w.heap.size SlotsT #[.int .i64 x0, .string x1, .string x2, .int .i64 x3, .slice a4 r4.length p4, .int .i64 x5, .int .i64 y0, .string y1, .string y2, .int .i64 y3, .slice b4 s4.length q4, .int .i64 y5] Y1) := Lib.hid ⟨by rw [hc.block _ A0.out.lt (fun e => by have := L1.out _ e; omega)]; exact A0.out.row⟩
  replace G0 := Lib.hid (G0.out.trans (hc.sub (fun a ha => List.mem_append_left _ ha)))
  clear om hc K c0 c1 c2 c3 c4 c5 c6 c7 c8 c9 c10 c11
  have c0 : Y1.cell? ⟨w.heap.size, 0, none⟩ = some (.int .i64 x0) := A0.out.cell 0
  have c1 : Y1.cell? ⟨w.heap.size, 1, none⟩ = some (.string x1) := A0.out.cell 1
  have c2 : Y1.cell? ⟨w.heap.size, 2, none⟩ = some (.string x2) := A0.out.cell 2
  have c3 : Y1.cell? ⟨w.heap.size, 3, none⟩ = some (.int .i64 x3) := A0.out.cell 3
  have c4 : Y1.cell? ⟨w.heap.size, 4, none⟩ = some (.slice a4 r4.length p4) := A0.out.cell 4
  have c5 : Y1.cell? ⟨w.heap.size, 5, none⟩ = some (.int .i64 x5) := A0.out.cell 5
  have c6 : Y1.cell? ⟨w.heap.size, 6, none⟩ = some (.int .i64 y0) := A0.out.cell 6
  have c7 : Y1.cell? ⟨w.heap.size, 7, none⟩ = some (.string y1) := A0.out.cell 7
  have c8 : Y1.cell? ⟨w.heap.size, 8, none⟩ = some (.string y2) := A0.out.cell 8
  have c9 : Y1.cell? ⟨w.heap.size, 9, none⟩ = some (.int .i64 y3) := A0.out.cell 9
  have c10 : Y1.cell? ⟨w.heap.size, 10, none⟩ = some (.slice b4 s4.length q4) := A0.out.cell 10
  have c11 : Y1.cell? ⟨w.heap.size, 11, none⟩ = some (.int .i64 y5) := A0.out.cell 11
  have K := Lib.hid (markSlot_any y0 y1 y2 y3 _ s4 y5 b g l5 (k + 1 * (r4.length : Int)) (by omega) (by omega) Y1 N2.out O5.out)
  obtain ⟨q, hq⟩ : ∃ q : Int, k + 1 * (r4.length : Int) = q := ⟨_, rfl⟩
  have HQQ := Lib.hid hq
  rw [hq] at K ⊢
  clear hq
  go_wp2_with fail
  refine (K.out).mono ?_
  rintro e Y2 ⟨rfl, om, hc⟩
  replace O5 := Lib.hid om
  replace O4 := Lib.hid (layIntS.chg O4.out hc D12.out)
  replace G0 := Lib.hid (G0.out.trans (hc.sub (fun a ha => List.mem_append_right _ ha)))
  clear om hc K c0 c1 c2 c3 c4 c5 c6 c7 c8 c9 c10 c11
  have E : Hid (Q (.returned (.int .i64 (q + 1 * (s4.length : Int)))) Y2) := by
    rw [HQ.out]
    exact Lib.hid ⟨by rw [HQQ.out], O4.out, by rw [HQQ.out]; exact O5.out, G0.out⟩
  rw [show q + 1 * (s4.length : Int) = q + (s4.length : Int) by omega] at E ⊢
  go_wp2_with fail
  exact E.out
set_option maxRecDepth 100000 in
set_option maxHeartbeats 1600000 in
theorem heldSlots_any (x0 : Int) (x1 x2 : ByteArray) (x3 : Int) (v4 : Value) (r4 : List Int) (x5 : Int) (y0 : Int) (y1 y2 : ByteArray) (y3 : Int) (u4 : Value) (s4 : List Int) (y5 : Int) (l4 : r4.length ≤ 10000000) (l5 : s4.length ≤ 10000000) (k : Int) (hk0 : 1 ≤ k) (hk1 : k ≤ 50000000) (w : World) (h4 : layIntS.rd w [v4] (layIntS.mark k r4).1) (h5 : layIntS.rd w [u4] (layIntS.mark (k + 1 * (r4.length : Int)) s4).1) :
    Calls Tryz.prog 22 #[.agg #[.int .i64 x0, .string x1, .string x2, .int .i64 x3, v4, .int .i64 x5, .int .i64 y0, .string y1, .string y2, .int .i64 y3, u4, .int .i64 y5], .int .i64 k] w (SlotsHeld k r4 s4 w) := by
  have e4 : (layIntS.mark k r4).1.length = r4.length := mkAll_length Lay.int r4 k
  have e5 : (layIntS.mark (k + 1 * (r4.length : Int)) s4).1.length = s4.length := mkAll_length Lay.int s4 _
  obtain ⟨a4, p4, rfl⟩ := rows_form h4
  obtain ⟨b4, q4, rfl⟩ := rows_form h5
  rw [e4] at h4 ⊢
  rw [e5] at h5 ⊢
  have BY := Lib.hid ((Below.refl w.heap.size w).alloc (Nat.le_refl _) (.cells #[.int .i64 x0, .string x1, .string x2, .int .i64 x3, .slice a4 r4.length p4, .int .i64 x5, .int .i64 y0, .string y1, .string y2, .int .i64 y3, .slice b4 s4.length q4, .int .i64 y5] SlotsT))
  have H4 := Lib.hid (layIntS.below h4 BY.out)
  have H5 := Lib.hid (layIntS.below h5 BY.out)
  have A0 := Lib.hid (VarA.new w SlotsT #[.int .i64 x0, .string x1, .string x2, .int .i64 x3, .slice a4 r4.length p4, .int .i64 x5, .int .i64 y0, .string y1, .string y2, .int .i64 y3, .slice b4 s4.length q4, .int .i64 y5])
  clear h4 h5 e4 e5
  obtain ⟨Q, HQ⟩ : ∃ Q : Ending → World → Prop, Hid (Q = SlotsHeld k r4 s4 w) := ⟨_, Lib.hid rfl⟩
  rw [← HQ.out]
  go_enter Tryz.func22, Tryz.ntmps22
  go_upto_region 1 with fail
  generalize w.alloc (.cells #[.int .i64 x0, .string x1, .string x2, .int .i64 x3, .slice a4 r4.length p4, .int .i64 x5, .int .i64 y0, .string y1, .string y2, .int .i64 y3, .slice b4 s4.length q4, .int .i64 y5] SlotsT) = Y0 at *
  have c0 : Y0.cell? ⟨w.heap.size, 0, none⟩ = some (.int .i64 x0) := A0.out.cell 0
  have c1 : Y0.cell? ⟨w.heap.size, 1, none⟩ = some (.string x1) := A0.out.cell 1
  have c2 : Y0.cell? ⟨w.heap.size, 2, none⟩ = some (.string x2) := A0.out.cell 2
  have c3 : Y0.cell? ⟨w.heap.size, 3, none⟩ = some (.int .i64 x3) := A0.out.cell 3
  have c4 : Y0.cell? ⟨w.heap.size, 4, none⟩ = some (.slice a4 r4.length p4) := A0.out.cell 4
  have c5 : Y0.cell? ⟨w.heap.size, 5, none⟩ = some (.int .i64 x5) := A0.out.cell 5
  have c6 : Y0.cell? ⟨w.heap.size, 6, none⟩ = some (.int .i64 y0) := A0.out.cell 6
  have c7 : Y0.cell? ⟨w.heap.size, 7, none⟩ = some (.string y1) := A0.out.cell 7
  have c8 : Y0.cell? ⟨w.heap.size, 8, none⟩ = some (.string y2) := A0.out.cell 8
  have c9 : Y0.cell? ⟨w.heap.size, 9, none⟩ = some (.int .i64 y3) := A0.out.cell 9
  have c10 : Y0.cell? ⟨w.heap.size, 10, none⟩ = some (.slice b4 s4.length q4) := A0.out.cell 10
  have c11 : Y0.cell? ⟨w.heap.size, 11, none⟩ = some (.int .i64 y5) := A0.out.cell 11
  have K := Lib.hid (heldSlot_any x0 x1 x2 x3 _ r4 x5 l4 k hk0 (by omega) Y0 H4.out)
  go_wp2_with fail
  refine (K.out).mono ?_
  rintro e Y1 ⟨rfl, hb⟩
  replace H5 := Lib.hid (layIntS.below H5.out hb)
  replace A0 := Lib.hid (A0.out.next hb)
  replace BY := Lib.hid (BY.out.trans (hb.mono BY.out.size))
  clear hb K H4 c0 c1 c2 c3 c4 c5 c6 c7 c8 c9 c10 c11
  have c0 : Y1.cell? ⟨w.heap.size, 0, none⟩ = some (.int .i64 x0) := A0.out.cell 0
  have c1 : Y1.cell? ⟨w.heap.size, 1, none⟩ = some (.string x1) := A0.out.cell 1
  have c2 : Y1.cell? ⟨w.heap.size, 2, none⟩ = some (.string x2) := A0.out.cell 2
  have c3 : Y1.cell? ⟨w.heap.size, 3, none⟩ = some (.int .i64 x3) := A0.out.cell 3
  have c4 : Y1.cell? ⟨w.heap.size, 4, none⟩ = some (.slice a4 r4.length p4) := A0.out.cell 4
  have c5 : Y1.cell? ⟨w.heap.size, 5, none⟩ = some (.int .i64 x5) := A0.out.cell 5
  have c6 : Y1.cell? ⟨w.heap.size, 6, none⟩ = some (.int .i64 y0) := A0.out.cell 6
  have c7 : Y1.cell? ⟨w.heap.size, 7, none⟩ = some (.string y1) := A0.out.cell 7
  have c8 : Y1.cell? ⟨w.heap.size, 8, none⟩ = some (.string y2) := A0.out.cell 8
  have c9 : Y1.cell? ⟨w.heap.size, 9, none⟩ = some (.int .i64 y3) := A0.out.cell 9
  have c10 : Y1.cell? ⟨w.heap.size, 10, none⟩ = some (.slice b4 s4.length q4) := A0.out.cell 10
  have c11 : Y1.cell? ⟨w.heap.size, 11, none⟩ = some (.int .i64 y5) := A0.out.cell 11
  have K := Lib.hid (heldSlot_any y0 y1 y2 y3 _ s4 y5 l5 (k + 1 * (r4.length : Int)) (by omega) (by omega) Y1 H5.out)
  have g4 : ¬ (k + 1 * (r4.length : Int) < 0) := by omega
  obtain ⟨q, hq⟩ : ∃ q : Int, k + 1 * (r4.length : Int) = q := ⟨_, rfl⟩
  have HQQ := Lib.hid hq
  rw [hq] at K g4 ⊢
  clear hq
  go_wp2_with fail
  refine (K.out).mono ?_
  rintro e Y2 ⟨rfl, hb⟩
  replace BY := Lib.hid (BY.out.trans (hb.mono BY.out.size))
  have E : Hid (Q (.returned (.int .i64 (q + 1 * (s4.length : Int)))) Y2) := by
    rw [HQ.out]
    exact Lib.hid ⟨by rw [HQQ.out], BY.out⟩
  clear hb K c0 c1 c2 c3 c4 c5 c6 c7 c8 c9 c10 c11
  have e9 : q + 1 * (s4.length : Int) = q + (s4.length : Int) := by omega
  rw [e9] at E ⊢
  have g5 : ¬ (q + (s4.length : Int) < 0) := by omega
  clear e9
  go_wp2_with fail
  exact E.out
/-- Two slots laid anew, of the call's own. -/
def SlotsMade (x0 : Int) (x1 x2 : ByteArray) (x3 : Int) (r4 : List Int) (x5 : Int) (y0 : Int) (y1 y2 : ByteArray) (y3 : Int) (s4 : List Int) (y5 : Int) (w : World) (e : Ending) (w' : World) : Prop := ∃ v4 u4 f g, e = .returned (.agg #[.int .i64 x0, .string x1, .string x2, .int .i64 x3, v4, .int .i64 x5, .int .i64 y0, .string y1, .string y2, .int .i64 y3, u4, .int .i64 y5]) ∧ (f ++ g).Nodup ∧ layIntS.own w' w.heap.size f [v4] r4 ∧ layIntS.own w' w.heap.size g [u4] s4 ∧ Below w.heap.size w w'
set_option maxRecDepth 100000 in
set_option maxHeartbeats 3200000 in
theorem toSlots_any (x0 : Int) (x1 x2 : ByteArray) (x3 : Int) (v4 : Value) (r4 : List Int) (x5 : Int) (y0 : Int) (y1 y2 : ByteArray) (y3 : Int) (u4 : Value) (s4 : List Int) (y5 : Int) (w : World) (h4 : layIntS.rd w [v4] r4) (k4 : layIntS.rd w [u4] s4) (l4 : r4.length ≤ 1048576) (l5 : s4.length ≤ 1048576) :
    Calls Tryz.prog 17 #[.agg #[.int .i64 x0, .string x1, .string x2, .int .i64 x3, v4, .int .i64 x5, .int .i64 y0, .string y1, .string y2, .int .i64 y3, u4, .int .i64 y5]] w (SlotsMade x0 x1 x2 x3 r4 x5 y0 y1 y2 y3 s4 y5 w) := by
  obtain ⟨a4, p4, rfl⟩ := rows_form h4
  obtain ⟨b4, q4, rfl⟩ := rows_form k4
  have e1 : (w.alloc (.cells #[.int .i64 x0, .string x1, .string x2, .int .i64 x3, .slice a4 r4.length p4, .int .i64 x5, .int .i64 y0, .string y1, .string y2, .int .i64 y3, .slice b4 s4.length q4, .int .i64 y5] 46)).heap.size = w.heap.size + 1 := by simp
  have e2 : ((w.alloc (.cells #[.int .i64 x0, .string x1, .string x2, .int .i64 x3, .slice a4 r4.length p4, .int .i64 x5, .int .i64 y0, .string y1, .string y2, .int .i64 y3, .slice b4 s4.length q4, .int .i64 y5] 46)).alloc (.cells #[.int .i64 0, .string ⟨#[]⟩, .string ⟨#[]⟩, .int .i64 0, .slice none 0 0, .int .i64 0, .int .i64 0, .string ⟨#[]⟩, .string ⟨#[]⟩, .int .i64 0, .slice none 0 0, .int .i64 0] SlotsT)).heap.size = w.heap.size + 2 := by simp
  have h2 := VarA.new (w.alloc (.cells #[.int .i64 x0, .string x1, .string x2, .int .i64 x3, .slice a4 r4.length p4, .int .i64 x5, .int .i64 y0, .string y1, .string y2, .int .i64 y3, .slice b4 s4.length q4, .int .i64 y5] 46)) SlotsT #[.int .i64 0, .string ⟨#[]⟩, .string ⟨#[]⟩, .int .i64 0, .slice none 0 0, .int .i64 0, .int .i64 0, .string ⟨#[]⟩, .string ⟨#[]⟩, .int .i64 0, .slice none 0 0, .int .i64 0]
  have h3 := VarA.new ((w.alloc (.cells #[.int .i64 x0, .string x1, .string x2, .int .i64 x3, .slice a4 r4.length p4, .int .i64 x5, .int .i64 y0, .string y1, .string y2, .int .i64 y3, .slice b4 s4.length q4, .int .i64 y5] 46)).alloc (.cells #[.int .i64 0, .string ⟨#[]⟩, .string ⟨#[]⟩, .int .i64 0, .slice none 0 0, .int .i64 0, .int .i64 0, .string ⟨#[]⟩, .string ⟨#[]⟩, .int .i64 0, .slice none 0 0, .int .i64 0] SlotsT)) SlotsT #[.int .i64 0, .string ⟨#[]⟩, .string ⟨#[]⟩, .int .i64 0, .slice none 0 0, .int .i64 0, .int .i64 0, .string ⟨#[]⟩, .string ⟨#[]⟩, .int .i64 0, .slice none 0 0, .int .i64 0]
  rw [e1] at h2
  rw [e2] at h3
  have A0 := Lib.hid (((VarA.new w 46 #[.int .i64 x0, .string x1, .string x2, .int .i64 x3, .slice a4 r4.length p4, .int .i64 x5, .int .i64 y0, .string y1, .string y2, .int .i64 y3, .slice b4 s4.length q4, .int .i64 y5]).alloc (.cells #[.int .i64 0, .string ⟨#[]⟩, .string ⟨#[]⟩, .int .i64 0, .slice none 0 0, .int .i64 0, .int .i64 0, .string ⟨#[]⟩, .string ⟨#[]⟩, .int .i64 0, .slice none 0 0, .int .i64 0] SlotsT)).alloc (.cells #[.int .i64 0, .string ⟨#[]⟩, .string ⟨#[]⟩, .int .i64 0, .slice none 0 0, .int .i64 0, .int .i64 0, .string ⟨#[]⟩, .string ⟨#[]⟩, .int .i64 0, .slice none 0 0, .int .i64 0] SlotsT))
  have A1 := Lib.hid (h2.alloc (.cells #[.int .i64 0, .string ⟨#[]⟩, .string ⟨#[]⟩, .int .i64 0, .slice none 0 0, .int .i64 0, .int .i64 0, .string ⟨#[]⟩, .string ⟨#[]⟩, .int .i64 0, .slice none 0 0, .int .i64 0] SlotsT))
  have A2 := Lib.hid h3
  have BY := Lib.hid ((((Below.refl w.heap.size w).alloc (Nat.le_refl _) (.cells #[.int .i64 x0, .string x1, .string x2, .int .i64 x3, .slice a4 r4.length p4, .int .i64 x5, .int .i64 y0, .string y1, .string y2, .int .i64 y3, .slice b4 s4.length q4, .int .i64 y5] 46)).alloc (by simp) (.cells #[.int .i64 0, .string ⟨#[]⟩, .string ⟨#[]⟩, .int .i64 0, .slice none 0 0, .int .i64 0, .int .i64 0, .string ⟨#[]⟩, .string ⟨#[]⟩, .int .i64 0, .slice none 0 0, .int .i64 0] SlotsT)).alloc (by simp; omega) (.cells #[.int .i64 0, .string ⟨#[]⟩, .string ⟨#[]⟩, .int .i64 0, .slice none 0 0, .int .i64 0, .int .i64 0, .string ⟨#[]⟩, .string ⟨#[]⟩, .int .i64 0, .slice none 0 0, .int .i64 0] SlotsT))
  have hz : Hid (w.heap.size + 3 ≤ (((w.alloc (.cells #[.int .i64 x0, .string x1, .string x2, .int .i64 x3, .slice a4 r4.length p4, .int .i64 x5, .int .i64 y0, .string y1, .string y2, .int .i64 y3, .slice b4 s4.length q4, .int .i64 y5] 46)).alloc (.cells #[.int .i64 0, .string ⟨#[]⟩, .string ⟨#[]⟩, .int .i64 0, .slice none 0 0, .int .i64 0, .int .i64 0, .string ⟨#[]⟩, .string ⟨#[]⟩, .int .i64 0, .slice none 0 0, .int .i64 0] SlotsT)).alloc (.cells #[.int .i64 0, .string ⟨#[]⟩, .string ⟨#[]⟩, .int .i64 0, .slice none 0 0, .int .i64 0, .int .i64 0, .string ⟨#[]⟩, .string ⟨#[]⟩, .int .i64 0, .slice none 0 0, .int .i64 0] SlotsT)).heap.size) := Lib.hid (by simp)
  have H4 := Lib.hid (layIntS.below h4 BY.out)
  have K4 := Lib.hid (layIntS.below k4 BY.out)
  have HKW := Lib.hid k4
  clear h4 k4 h2 h3 e1 e2 K4
  obtain ⟨Q, HQ⟩ : ∃ Q : Ending → World → Prop, Hid (Q = SlotsMade x0 x1 x2 x3 r4 x5 y0 y1 y2 y3 s4 y5 w) := ⟨_, Lib.hid rfl⟩
  rw [← HQ.out]
  go_enter Tryz.func17, Tryz.ntmps17
  go_upto_region 2 with fail
  generalize (((w.alloc (.cells #[.int .i64 x0, .string x1, .string x2, .int .i64 x3, .slice a4 r4.length p4, .int .i64 x5, .int .i64 y0, .string y1, .string y2, .int .i64 y3, .slice b4 s4.length q4, .int .i64 y5] 46)).alloc (.cells #[.int .i64 0, .string ⟨#[]⟩, .string ⟨#[]⟩, .int .i64 0, .slice none 0 0, .int .i64 0, .int .i64 0, .string ⟨#[]⟩, .string ⟨#[]⟩, .int .i64 0, .slice none 0 0, .int .i64 0] SlotsT)).alloc (.cells #[.int .i64 0, .string ⟨#[]⟩, .string ⟨#[]⟩, .int .i64 0, .slice none 0 0, .int .i64 0, .int .i64 0, .string ⟨#[]⟩, .string ⟨#[]⟩, .int .i64 0, .slice none 0 0, .int .i64 0] SlotsT)) = Y0 at *
  have c0 : Y0.cell? ⟨w.heap.size, 0, none⟩ = some (.int .i64 x0) := A0.out.cell 0
  have c1 : Y0.cell? ⟨w.heap.size, 1, none⟩ = some (.string x1) := A0.out.cell 1
  have c2 : Y0.cell? ⟨w.heap.size, 2, none⟩ = some (.string x2) := A0.out.cell 2
  have c3 : Y0.cell? ⟨w.heap.size, 3, none⟩ = some (.int .i64 x3) := A0.out.cell 3
  have c4 : Y0.cell? ⟨w.heap.size, 4, none⟩ = some (.slice a4 r4.length p4) := A0.out.cell 4
  have c5 : Y0.cell? ⟨w.heap.size, 5, none⟩ = some (.int .i64 x5) := A0.out.cell 5
  have c6 : Y0.cell? ⟨w.heap.size, 6, none⟩ = some (.int .i64 y0) := A0.out.cell 6
  have c7 : Y0.cell? ⟨w.heap.size, 7, none⟩ = some (.string y1) := A0.out.cell 7
  have c8 : Y0.cell? ⟨w.heap.size, 8, none⟩ = some (.string y2) := A0.out.cell 8
  have c9 : Y0.cell? ⟨w.heap.size, 9, none⟩ = some (.int .i64 y3) := A0.out.cell 9
  have c10 : Y0.cell? ⟨w.heap.size, 10, none⟩ = some (.slice b4 s4.length q4) := A0.out.cell 10
  have c11 : Y0.cell? ⟨w.heap.size, 11, none⟩ = some (.int .i64 y5) := A0.out.cell 11
  have K := Lib.hid (toSlot_any x0 x1 x2 x3 _ r4 x5 Y0 H4.out l4)
  go_wp2_with fail
  refine (K.out).mono ?_
  rintro e Y1 ⟨cs, f, rfl, hd1, ho1, hb⟩
  obtain ⟨v5, f5, rfl, rfl, o1⟩ := laySlot_own.1 ho1
  obtain ⟨ma, mk, rfl⟩ := rows_form (layIntS.read o1)
  have O1 := Lib.hid o1
  have N1 := Lib.hid hd1
  have F1 : Hid (∀ a ∈ f, Y0.heap.size ≤ a ∧ a < Y1.heap.size) := Lib.hid (fun a ha => layIntS.blocks o1 a ha)
  replace A0 := Lib.hid (A0.out.next hb)
  replace A1 := Lib.hid (A1.out.next hb)
  replace A2 := Lib.hid (A2.out.next hb)
  replace BY := Lib.hid (BY.out.trans (hb.mono BY.out.size))
  have hz1 : Hid (Y0.heap.size ≤ Y1.heap.size) := Lib.hid hb.size
  clear hb K H4 ho1 o1 hd1 c0 c1 c2 c3 c4 c5 c6 c7 c8 c9 c10 c11
  have c0 : Y1.cell? ⟨w.heap.size + 2, 0, none⟩ = some (.int .i64 0) := A2.out.cell 0
  have c1 : Y1.cell? ⟨w.heap.size + 2, 1, none⟩ = some (.string ⟨#[]⟩) := A2.out.cell 1
  have c2 : Y1.cell? ⟨w.heap.size + 2, 2, none⟩ = some (.string ⟨#[]⟩) := A2.out.cell 2
  have c3 : Y1.cell? ⟨w.heap.size + 2, 3, none⟩ = some (.int .i64 0) := A2.out.cell 3
  have c4 : Y1.cell? ⟨w.heap.size + 2, 4, none⟩ = some (.slice none 0 0) := A2.out.cell 4
  have c5 : Y1.cell? ⟨w.heap.size + 2, 5, none⟩ = some (.int .i64 0) := A2.out.cell 5
  have c6 : Y1.cell? ⟨w.heap.size + 2, 6, none⟩ = some (.int .i64 0) := A2.out.cell 6
  have c7 : Y1.cell? ⟨w.heap.size + 2, 7, none⟩ = some (.string ⟨#[]⟩) := A2.out.cell 7
  have c8 : Y1.cell? ⟨w.heap.size + 2, 8, none⟩ = some (.string ⟨#[]⟩) := A2.out.cell 8
  have c9 : Y1.cell? ⟨w.heap.size + 2, 9, none⟩ = some (.int .i64 0) := A2.out.cell 9
  have c10 : Y1.cell? ⟨w.heap.size + 2, 10, none⟩ = some (.slice none 0 0) := A2.out.cell 10
  have c11 : Y1.cell? ⟨w.heap.size + 2, 11, none⟩ = some (.int .i64 0) := A2.out.cell 11
  have g0 := A2.out.free 0
  have g1 := A2.out.free 1
  have g2 := A2.out.free 2
  have g3 := A2.out.free 3
  have g4 := A2.out.free 4
  have g5 := A2.out.free 5
  have g6 := A2.out.free 6
  have g7 := A2.out.free 7
  have g8 := A2.out.free 8
  have g9 := A2.out.free 9
  have g10 := A2.out.free 10
  have g11 := A2.out.free 11
  have P2 := Lib.hid (putMain A2.out (.int .i64 x0) (.string x1) (.string x2) (.int .i64 x3) (.slice ma r4.length mk) (.int .i64 x5))
  have hst : Only (w.heap.size + 2) Y1 ((((((Y1.setCell ⟨w.heap.size + 2, 0, none⟩ (.int .i64 x0)).setCell ⟨w.heap.size + 2, 1, none⟩ (.string x1)).setCell ⟨w.heap.size + 2, 2, none⟩ (.string x2)).setCell ⟨w.heap.size + 2, 3, none⟩ (.int .i64 x3)).setCell ⟨w.heap.size + 2, 4, none⟩ (.slice ma r4.length mk)).setCell ⟨w.heap.size + 2, 5, none⟩ (.int .i64 x5)) := putMain_only Y1 (w.heap.size + 2) _ _ _ _ _ _
  have P0 := Lib.hid (A0.out.only hst (by omega))
  have P1 := Lib.hid (A1.out.only hst (by omega))
  have PO : Hid (layIntS.own ((((((Y1.setCell ⟨w.heap.size + 2, 0, none⟩ (.int .i64 x0)).setCell ⟨w.heap.size + 2, 1, none⟩ (.string x1)).setCell ⟨w.heap.size + 2, 2, none⟩ (.string x2)).setCell ⟨w.heap.size + 2, 3, none⟩ (.int .i64 x3)).setCell ⟨w.heap.size + 2, 4, none⟩ (.slice ma r4.length mk)).setCell ⟨w.heap.size + 2, 5, none⟩ (.int .i64 x5)) Y0.heap.size f [.slice ma r4.length mk] r4) := Lib.hid (layIntS.keep O1.out (fun a ha => hst.block a (F1.out a ha).2 (by have := (F1.out a ha).1; have := hz.out; omega)))
  have PB := Lib.hid (putMain_below BY.out (show w.heap.size ≤ w.heap.size + 2 by omega) (.int .i64 x0) (.string x1) (.string x2) (.int .i64 x3) (.slice ma r4.length mk) (.int .i64 x5))
  have PZ : Hid (Y1.heap.size ≤ ((((((Y1.setCell ⟨w.heap.size + 2, 0, none⟩ (.int .i64 x0)).setCell ⟨w.heap.size + 2, 1, none⟩ (.string x1)).setCell ⟨w.heap.size + 2, 2, none⟩ (.string x2)).setCell ⟨w.heap.size + 2, 3, none⟩ (.int .i64 x3)).setCell ⟨w.heap.size + 2, 4, none⟩ (.slice ma r4.length mk)).setCell ⟨w.heap.size + 2, 5, none⟩ (.int .i64 x5)).heap.size) := Lib.hid hst.size
  clear hst
  go_upto_region 3 with fail
  generalize ((((((Y1.setCell ⟨w.heap.size + 2, 0, none⟩ (.int .i64 x0)).setCell ⟨w.heap.size + 2, 1, none⟩ (.string x1)).setCell ⟨w.heap.size + 2, 2, none⟩ (.string x2)).setCell ⟨w.heap.size + 2, 3, none⟩ (.int .i64 x3)).setCell ⟨w.heap.size + 2, 4, none⟩ (.slice ma r4.length mk)).setCell ⟨w.heap.size + 2, 5, none⟩ (.int .i64 x5)) = Y2 at *
  clear A0 A1 A2 BY O1 c0 g0 c1 g1 c2 g2 c3 g3 c4 g4 c5 g5 c6 g6 c7 g7 c8 g8 c9 g9 c10 g10 c11 g11
  have c0 : Y2.cell? ⟨w.heap.size, 0, none⟩ = some (.int .i64 x0) := P0.out.cell 0
  have c1 : Y2.cell? ⟨w.heap.size, 1, none⟩ = some (.string x1) := P0.out.cell 1
  have c2 : Y2.cell? ⟨w.heap.size, 2, none⟩ = some (.string x2) := P0.out.cell 2
  have c3 : Y2.cell? ⟨w.heap.size, 3, none⟩ = some (.int .i64 x3) := P0.out.cell 3
  have c4 : Y2.cell? ⟨w.heap.size, 4, none⟩ = some (.slice a4 r4.length p4) := P0.out.cell 4
  have c5 : Y2.cell? ⟨w.heap.size, 5, none⟩ = some (.int .i64 x5) := P0.out.cell 5
  have c6 : Y2.cell? ⟨w.heap.size, 6, none⟩ = some (.int .i64 y0) := P0.out.cell 6
  have c7 : Y2.cell? ⟨w.heap.size, 7, none⟩ = some (.string y1) := P0.out.cell 7
  have c8 : Y2.cell? ⟨w.heap.size, 8, none⟩ = some (.string y2) := P0.out.cell 8
  have c9 : Y2.cell? ⟨w.heap.size, 9, none⟩ = some (.int .i64 y3) := P0.out.cell 9
  have c10 : Y2.cell? ⟨w.heap.size, 10, none⟩ = some (.slice b4 s4.length q4) := P0.out.cell 10
  have c11 : Y2.cell? ⟨w.heap.size, 11, none⟩ = some (.int .i64 y5) := P0.out.cell 11
  have K := Lib.hid (toSlot_any y0 y1 y2 y3 _ s4 y5 Y2 (layIntS.below HKW.out PB.out) l5)
  go_wp2_with fail
  refine (K.out).mono ?_
  rintro e Y3 ⟨cs, g, rfl, hd1, ho1, hb⟩
  obtain ⟨v5, f5, rfl, rfl, o1⟩ := laySlot_own.1 ho1
  obtain ⟨la, lk, rfl⟩ := rows_form (layIntS.read o1)
  have O2 := Lib.hid o1
  have N2 := Lib.hid hd1
  have F2 : Hid (∀ a ∈ g, Y2.heap.size ≤ a ∧ a < Y3.heap.size) := Lib.hid (fun a ha => layIntS.blocks o1 a ha)
  replace P1 := Lib.hid (P1.out.next hb)
  replace P2 := Lib.hid (P2.out.next hb)
  replace PO := Lib.hid (layIntS.next PO.out hb)
  replace PB := Lib.hid (PB.out.trans (hb.mono PB.out.size))
  have hz3 : Hid (Y2.heap.size ≤ Y3.heap.size) := Lib.hid hb.size
  clear hb K ho1 o1 hd1 P0 c0 c1 c2 c3 c4 c5 c6 c7 c8 c9 c10 c11
  have c0 : Y3.cell? ⟨w.heap.size + 2, 0, none⟩ = some (.int .i64 x0) := P2.out.cell 0
  have c1 : Y3.cell? ⟨w.heap.size + 2, 1, none⟩ = some (.string x1) := P2.out.cell 1
  have c2 : Y3.cell? ⟨w.heap.size + 2, 2, none⟩ = some (.string x2) := P2.out.cell 2
  have c3 : Y3.cell? ⟨w.heap.size + 2, 3, none⟩ = some (.int .i64 x3) := P2.out.cell 3
  have c4 : Y3.cell? ⟨w.heap.size + 2, 4, none⟩ = some (.slice ma r4.length mk) := P2.out.cell 4
  have c5 : Y3.cell? ⟨w.heap.size + 2, 5, none⟩ = some (.int .i64 x5) := P2.out.cell 5
  have c6 : Y3.cell? ⟨w.heap.size + 2, 6, none⟩ = some (.int .i64 0) := P2.out.cell 6
  have c7 : Y3.cell? ⟨w.heap.size + 2, 7, none⟩ = some (.string ⟨#[]⟩) := P2.out.cell 7
  have c8 : Y3.cell? ⟨w.heap.size + 2, 8, none⟩ = some (.string ⟨#[]⟩) := P2.out.cell 8
  have c9 : Y3.cell? ⟨w.heap.size + 2, 9, none⟩ = some (.int .i64 0) := P2.out.cell 9
  have c10 : Y3.cell? ⟨w.heap.size + 2, 10, none⟩ = some (.slice none 0 0) := P2.out.cell 10
  have c11 : Y3.cell? ⟨w.heap.size + 2, 11, none⟩ = some (.int .i64 0) := P2.out.cell 11
  have g0 := P2.out.free 0
  have g1 := P2.out.free 1
  have g2 := P2.out.free 2
  have g3 := P2.out.free 3
  have g4 := P2.out.free 4
  have g5 := P2.out.free 5
  have g6 := P2.out.free 6
  have g7 := P2.out.free 7
  have g8 := P2.out.free 8
  have g9 := P2.out.free 9
  have g10 := P2.out.free 10
  have g11 := P2.out.free 11
  have R2 := Lib.hid (putLame P2.out (.int .i64 y0) (.string y1) (.string y2) (.int .i64 y3) (.slice la s4.length lk) (.int .i64 y5))
  have hst : Only (w.heap.size + 2) Y3 ((((((Y3.setCell ⟨w.heap.size + 2, 6, none⟩ (.int .i64 y0)).setCell ⟨w.heap.size + 2, 7, none⟩ (.string y1)).setCell ⟨w.heap.size + 2, 8, none⟩ (.string y2)).setCell ⟨w.heap.size + 2, 9, none⟩ (.int .i64 y3)).setCell ⟨w.heap.size + 2, 10, none⟩ (.slice la s4.length lk)).setCell ⟨w.heap.size + 2, 11, none⟩ (.int .i64 y5)) := putLame_only Y3 (w.heap.size + 2) _ _ _ _ _ _
  have R1 := Lib.hid (P1.out.only hst (by omega))
  have RO : Hid (layIntS.own ((((((Y3.setCell ⟨w.heap.size + 2, 6, none⟩ (.int .i64 y0)).setCell ⟨w.heap.size + 2, 7, none⟩ (.string y1)).setCell ⟨w.heap.size + 2, 8, none⟩ (.string y2)).setCell ⟨w.heap.size + 2, 9, none⟩ (.int .i64 y3)).setCell ⟨w.heap.size + 2, 10, none⟩ (.slice la s4.length lk)).setCell ⟨w.heap.size + 2, 11, none⟩ (.int .i64 y5)) Y0.heap.size f [.slice ma r4.length mk] r4) := Lib.hid (layIntS.keep PO.out (fun a ha => hst.block a (by have := (F1.out a ha).2; have := PZ.out; have := hz3.out; omega) (by have := (F1.out a ha).1; have := hz.out; omega)))
  have RG : Hid (layIntS.own ((((((Y3.setCell ⟨w.heap.size + 2, 6, none⟩ (.int .i64 y0)).setCell ⟨w.heap.size + 2, 7, none⟩ (.string y1)).setCell ⟨w.heap.size + 2, 8, none⟩ (.string y2)).setCell ⟨w.heap.size + 2, 9, none⟩ (.int .i64 y3)).setCell ⟨w.heap.size + 2, 10, none⟩ (.slice la s4.length lk)).setCell ⟨w.heap.size + 2, 11, none⟩ (.int .i64 y5)) Y2.heap.size g [.slice la s4.length lk] s4) := Lib.hid (layIntS.keep O2.out (fun a ha => hst.block a (F2.out a ha).2 (by have := (F2.out a ha).1; have := hz.out; have := hz1.out; have := PZ.out; omega)))
  have RB := Lib.hid (putLame_below PB.out (show w.heap.size ≤ w.heap.size + 2 by omega) (.int .i64 y0) (.string y1) (.string y2) (.int .i64 y3) (.slice la s4.length lk) (.int .i64 y5))
  have RZ : Hid (Y3.heap.size ≤ ((((((Y3.setCell ⟨w.heap.size + 2, 6, none⟩ (.int .i64 y0)).setCell ⟨w.heap.size + 2, 7, none⟩ (.string y1)).setCell ⟨w.heap.size + 2, 8, none⟩ (.string y2)).setCell ⟨w.heap.size + 2, 9, none⟩ (.int .i64 y3)).setCell ⟨w.heap.size + 2, 10, none⟩ (.slice la s4.length lk)).setCell ⟨w.heap.size + 2, 11, none⟩ (.int .i64 y5)).heap.size) := Lib.hid hst.size
  clear hst
  go_upto_region 4 with fail
  generalize ((((((Y3.setCell ⟨w.heap.size + 2, 6, none⟩ (.int .i64 y0)).setCell ⟨w.heap.size + 2, 7, none⟩ (.string y1)).setCell ⟨w.heap.size + 2, 8, none⟩ (.string y2)).setCell ⟨w.heap.size + 2, 9, none⟩ (.int .i64 y3)).setCell ⟨w.heap.size + 2, 10, none⟩ (.slice la s4.length lk)).setCell ⟨w.heap.size + 2, 11, none⟩ (.int .i64 y5)) = Y4 at *
  clear P1 P2 PB O2 PO c0 g0 c1 g1 c2 g2 c3 g3 c4 g4 c5 g5 c6 g6 c7 g7 c8 g8 c9 g9 c10 g10 c11 g11
  have c0 : Y4.cell? ⟨w.heap.size + 2, 0, none⟩ = some (.int .i64 x0) := R2.out.cell 0
  have c1 : Y4.cell? ⟨w.heap.size + 2, 1, none⟩ = some (.string x1) := R2.out.cell 1
  have c2 : Y4.cell? ⟨w.heap.size + 2, 2, none⟩ = some (.string x2) := R2.out.cell 2
  have c3 : Y4.cell? ⟨w.heap.size + 2, 3, none⟩ = some (.int .i64 x3) := R2.out.cell 3
  have c4 : Y4.cell? ⟨w.heap.size + 2, 4, none⟩ = some (.slice ma r4.length mk) := R2.out.cell 4
  have c5 : Y4.cell? ⟨w.heap.size + 2, 5, none⟩ = some (.int .i64 x5) := R2.out.cell 5
  have c6 : Y4.cell? ⟨w.heap.size + 2, 6, none⟩ = some (.int .i64 y0) := R2.out.cell 6
  have c7 : Y4.cell? ⟨w.heap.size + 2, 7, none⟩ = some (.string y1) := R2.out.cell 7
  have c8 : Y4.cell? ⟨w.heap.size + 2, 8, none⟩ = some (.string y2) := R2.out.cell 8
  have c9 : Y4.cell? ⟨w.heap.size + 2, 9, none⟩ = some (.int .i64 y3) := R2.out.cell 9
  have c10 : Y4.cell? ⟨w.heap.size + 2, 10, none⟩ = some (.slice la s4.length lk) := R2.out.cell 10
  have c11 : Y4.cell? ⟨w.heap.size + 2, 11, none⟩ = some (.int .i64 y5) := R2.out.cell 11
  have d0 : Y4.cell? ⟨w.heap.size + 1, 0, none⟩ = some (.int .i64 0) := R1.out.cell 0
  have d1 : Y4.cell? ⟨w.heap.size + 1, 1, none⟩ = some (.string ⟨#[]⟩) := R1.out.cell 1
  have d2 : Y4.cell? ⟨w.heap.size + 1, 2, none⟩ = some (.string ⟨#[]⟩) := R1.out.cell 2
  have d3 : Y4.cell? ⟨w.heap.size + 1, 3, none⟩ = some (.int .i64 0) := R1.out.cell 3
  have d4 : Y4.cell? ⟨w.heap.size + 1, 4, none⟩ = some (.slice none 0 0) := R1.out.cell 4
  have d5 : Y4.cell? ⟨w.heap.size + 1, 5, none⟩ = some (.int .i64 0) := R1.out.cell 5
  have d6 : Y4.cell? ⟨w.heap.size + 1, 6, none⟩ = some (.int .i64 0) := R1.out.cell 6
  have d7 : Y4.cell? ⟨w.heap.size + 1, 7, none⟩ = some (.string ⟨#[]⟩) := R1.out.cell 7
  have d8 : Y4.cell? ⟨w.heap.size + 1, 8, none⟩ = some (.string ⟨#[]⟩) := R1.out.cell 8
  have d9 : Y4.cell? ⟨w.heap.size + 1, 9, none⟩ = some (.int .i64 0) := R1.out.cell 9
  have d10 : Y4.cell? ⟨w.heap.size + 1, 10, none⟩ = some (.slice none 0 0) := R1.out.cell 10
  have d11 : Y4.cell? ⟨w.heap.size + 1, 11, none⟩ = some (.int .i64 0) := R1.out.cell 11
  have g0 := R1.out.free 0
  have g1 := R1.out.free 1
  have g2 := R1.out.free 2
  have g3 := R1.out.free 3
  have g4 := R1.out.free 4
  have g5 := R1.out.free 5
  have g6 := R1.out.free 6
  have g7 := R1.out.free 7
  have g8 := R1.out.free 8
  have g9 := R1.out.free 9
  have g10 := R1.out.free 10
  have g11 := R1.out.free 11
  have S1 := putBoth R1.out (.int .i64 x0) (.string x1) (.string x2) (.int .i64 x3) (.slice ma r4.length mk) (.int .i64 x5) (.int .i64 y0) (.string y1) (.string y2) (.int .i64 y3) (.slice la s4.length lk) (.int .i64 y5)
  have j0 := S1.cell 0
  have j1 := S1.cell 1
  have j2 := S1.cell 2
  have j3 := S1.cell 3
  have j4 := S1.cell 4
  have j5 := S1.cell 5
  have j6 := S1.cell 6
  have j7 := S1.cell 7
  have j8 := S1.cell 8
  have j9 := S1.cell 9
  have j10 := S1.cell 10
  have j11 := S1.cell 11
  have E : Hid (Q (.returned (.agg #[.int .i64 x0, .string x1, .string x2, .int .i64 x3, .slice ma r4.length mk, .int .i64 x5, .int .i64 y0, .string y1, .string y2, .int .i64 y3, .slice la s4.length lk, .int .i64 y5])) ((((((((((((Y4.setCell ⟨w.heap.size + 1, 0, none⟩ (.int .i64 x0)).setCell ⟨w.heap.size + 1, 1, none⟩ (.string x1)).setCell ⟨w.heap.size + 1, 2, none⟩ (.string x2)).setCell ⟨w.heap.size + 1, 3, none⟩ (.int .i64 x3)).setCell ⟨w.heap.size + 1, 4, none⟩ (.slice ma r4.length mk)).setCell ⟨w.heap.size + 1, 5, none⟩ (.int .i64 x5)).setCell ⟨w.heap.size + 1, 6, none⟩ (.int .i64 y0)).setCell ⟨w.heap.size + 1, 7, none⟩ (.string y1)).setCell ⟨w.heap.size + 1, 8, none⟩ (.string y2)).setCell ⟨w.heap.size + 1, 9, none⟩ (.int .i64 y3)).setCell ⟨w.heap.size + 1, 10, none⟩ (.slice la s4.length lk)).setCell ⟨w.heap.size + 1, 11, none⟩ (.int .i64 y5))) := by
    rw [HQ.out]
    have ho : Only (w.heap.size + 1) Y4 ((((((((((((Y4.setCell ⟨w.heap.size + 1, 0, none⟩ (.int .i64 x0)).setCell ⟨w.heap.size + 1, 1, none⟩ (.string x1)).setCell ⟨w.heap.size + 1, 2, none⟩ (.string x2)).setCell ⟨w.heap.size + 1, 3, none⟩ (.int .i64 x3)).setCell ⟨w.heap.size + 1, 4, none⟩ (.slice ma r4.length mk)).setCell ⟨w.heap.size + 1, 5, none⟩ (.int .i64 x5)).setCell ⟨w.heap.size + 1, 6, none⟩ (.int .i64 y0)).setCell ⟨w.heap.size + 1, 7, none⟩ (.string y1)).setCell ⟨w.heap.size + 1, 8, none⟩ (.string y2)).setCell ⟨w.heap.size + 1, 9, none⟩ (.int .i64 y3)).setCell ⟨w.heap.size + 1, 10, none⟩ (.slice la s4.length lk)).setCell ⟨w.heap.size + 1, 11, none⟩ (.int .i64 y5)) := (putMain_only Y4 (w.heap.size + 1) _ _ _ _ _ _).trans (putLame_only _ (w.heap.size + 1) _ _ _ _ _ _)
    refine Lib.hid ⟨_, _, f, g, rfl, List.nodup_append.2 ⟨N1.out, N2.out, fun a ha b hb e => ?_⟩, layIntS.lower (layIntS.keep RO.out (fun a ha => ho.block a (by have := (F1.out a ha).2; have := PZ.out; have := hz3.out; have := RZ.out; omega) (by have := (F1.out a ha).1; have := hz.out; omega))) (by have := hz.out; omega), layIntS.lower (layIntS.keep RG.out (fun a ha => ho.block a (by have := (F2.out a ha).2; have := RZ.out; omega) (by have := (F2.out a ha).1; have := hz.out; have := hz1.out; have := PZ.out; omega))) (by have := hz.out; have := hz1.out; have := PZ.out; omega), putBoth_below RB.out (show w.heap.size ≤ w.heap.size + 1 by omega) _ _ _ _ _ _ _ _ _ _ _ _⟩
    have h1 := (F1.out a ha).2
    have h2 := (F2.out b hb).1
    have h3 := PZ.out
    omega
  clear S1
  go_wp2_with fail
  try simp only [Exit.inBlock, Exit.then]
  exact bodyPost_ret (v := .agg #[.int .i64 x0, .string x1, .string x2, .int .i64 x3, .slice ma r4.length mk, .int .i64 x5, .int .i64 y0, .string y1, .string y2, .int .i64 y3, .slice la s4.length lk, .int .i64 y5]) (by simp [results, Tryz.results17, go_sem, j0, j1, j2, j3, j4, j5, j6, j7, j8, j9, j10, j11]) rfl E.out

end Go.Proofs.YtoaifgblbfdncaaGreatDoor
