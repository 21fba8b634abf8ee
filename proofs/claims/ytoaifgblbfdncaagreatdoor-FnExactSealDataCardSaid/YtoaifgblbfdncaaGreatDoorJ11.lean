/-
  The given SlotOk, SlotsOk and Spent.
-/
import Derived.Test.YtoaifgblbfdncaaGreatDoorJ10
import Derived.Test.YtoaifgblbfdncaaGreatDoorJ08
namespace Go.Proofs.YtoaifgblbfdncaaGreatDoor
open Go.RowKit

theorem empty_yes {s : ByteArray} (h : s.size = 0) : s.toList.isEmpty = true := by
  rw [List.isEmpty_iff_length_eq_zero, ByteArray.toList_eq]
  simpa using h
theorem empty_no {s : ByteArray} (h : ¬ s.size = 0) : s.toList.isEmpty = false := by
  rw [Bool.eq_false_iff, ne_eq, List.isEmpty_iff_length_eq_zero, ByteArray.toList_eq]
  simpa using h
theorem nat_yes {n : Nat} {m : Int} (h : (n : Int) = m) : ((n : Int) == m) = true := by rw [beq_iff_eq]; exact h
theorem nat_no {n : Nat} {m : Int} (h : ¬ (n : Int) = m) : ((n : Int) == m) = false := by rw [beq_eq_false_iff_ne]; exact h
theorem int_yes {n m : Int} (h : n = m) : (n == m) = true := by rw [beq_iff_eq]; exact h
theorem int_no {n m : Int} (h : ¬ n = m) : (n == m) = false := by rw [beq_eq_false_iff_ne]; exact h
set_option maxRecDepth 100000 in
set_option maxHeartbeats 1600000 in
theorem specNone_bool (x0 : Int) (x1 x2 : ByteArray) (x3 : Int) (v4 : Value) (r4 : List Int) (x5 : Int) (b : Bool) (hb : b = true ↔ NoneP x0 x1 x2 x3 r4 x5) (w : World) (h : layIntS.rd w [v4] r4) :
    Calls Tryz.prog 76 #[.agg #[.int .i64 x0, .string x1, .string x2, .int .i64 x3, v4, .int .i64 x5]] w fun e w' => e = .returned (.bool b) ∧ Below w.heap.size w w' := by
  obtain ⟨a4, p4, rfl⟩ := rows_form h
  have A0 := Lib.hid (VarA.new w SlotT #[.int .i64 x0, .string x1, .string x2, .int .i64 x3, .slice a4 r4.length p4, .int .i64 x5])
  have B0 := Lib.hid ((Below.refl w.heap.size w).alloc (Nat.le_refl _) (.cells #[.int .i64 x0, .string x1, .string x2, .int .i64 x3, .slice a4 r4.length p4, .int .i64 x5] SlotT))
  have HB := Lib.hid hb
  have HF : Hid (¬ NoneP x0 x1 x2 x3 r4 x5 → b = false) := Lib.hid (fun h => by
    cases b with
    | false => rfl
    | true => exact absurd (hb.1 rfl) h)
  clear h hb
  go_enter Tryz.func76, Tryz.ntmps76
  go_upto_region 1 with fail
  generalize w.alloc (.cells #[.int .i64 x0, .string x1, .string x2, .int .i64 x3, .slice a4 r4.length p4, .int .i64 x5] SlotT) = Y at *
  have c0 : Y.cell? ⟨w.heap.size, 0, none⟩ = some (.int .i64 x0) := A0.out.cell 0
  have c1 : Y.cell? ⟨w.heap.size, 1, none⟩ = some (.string x1) := A0.out.cell 1
  have c2 : Y.cell? ⟨w.heap.size, 2, none⟩ = some (.string x2) := A0.out.cell 2
  have c3 : Y.cell? ⟨w.heap.size, 3, none⟩ = some (.int .i64 x3) := A0.out.cell 3
  have c4 : Y.cell? ⟨w.heap.size, 4, none⟩ = some (.slice a4 r4.length p4) := A0.out.cell 4
  have c5 : Y.cell? ⟨w.heap.size, 5, none⟩ = some (.int .i64 x5) := A0.out.cell 5
  by_cases h0 : x0 = 0
  rotate_left
  · obtain rfl := HF.out (fun h => h0 (by exact h.1))
    have q0 := int_no h0
    go_wp2_with fail
    go_ret
    exact ⟨rfl, B0.out⟩
  have q0 := int_yes h0
  by_cases h1 : x1.size = 0
  rotate_left
  · obtain rfl := HF.out (fun h => h1 (by exact h.2.1))
    have q1 := empty_no h1
    go_wp2_with fail
    go_ret
    exact ⟨rfl, B0.out⟩
  have q1 := empty_yes h1
  by_cases h2 : x2.size = 0
  rotate_left
  · obtain rfl := HF.out (fun h => h2 (by exact h.2.2.1))
    have q2 := empty_no h2
    go_wp2_with fail
    go_ret
    exact ⟨rfl, B0.out⟩
  have q2 := empty_yes h2
  by_cases h3 : x3 = 0
  rotate_left
  · obtain rfl := HF.out (fun h => h3 (by exact h.2.2.2.1))
    have q3 := int_no h3
    go_wp2_with fail
    go_ret
    exact ⟨rfl, B0.out⟩
  have q3 := int_yes h3
  by_cases h4 : (r4.length : Int) = 0
  rotate_left
  · obtain rfl := HF.out (fun h => h4 (by have := h.2.2.2.2.1; omega))
    have q4 := nat_no h4
    go_wp2_with fail
    go_ret
    exact ⟨rfl, B0.out⟩
  have q4 := nat_yes h4
  by_cases h5 : x5 = 0
  rotate_left
  · obtain rfl := HF.out (fun h => h5 (by exact h.2.2.2.2.2))
    have q5 := int_no h5
    go_wp2_with fail
    go_ret
    exact ⟨rfl, B0.out⟩
  have q5 := int_yes h5
  obtain rfl : b = true := HB.out.2 ⟨h0, h1, h2, h3, by omega, h5⟩
  go_wp2_with fail
  go_ret
  exact ⟨rfl, B0.out⟩
set_option maxRecDepth 100000 in
set_option maxHeartbeats 3200000 in
theorem specSlotOk_bool (x0 : Int) (x1 x2 : ByteArray) (x3 : Int) (v4 : Value) (r4 : List Int) (x5 : Int) (b : Bool) (hb : b = true ↔ SlotP x0 x1 x2 x3 r4 x5) (hl : r4.length ≤ 100000000) (w : World) (h : layIntS.rd w [v4] r4) :
    Calls Tryz.prog 79 #[.agg #[.int .i64 x0, .string x1, .string x2, .int .i64 x3, v4, .int .i64 x5]] w fun e w' => e = .returned (.bool b) ∧ Below w.heap.size w w' := by
  obtain ⟨a4, p4, rfl⟩ := rows_form h
  have A0 := Lib.hid (VarA.new w SlotT #[.int .i64 x0, .string x1, .string x2, .int .i64 x3, .slice a4 r4.length p4, .int .i64 x5])
  have B0 := Lib.hid ((Below.refl w.heap.size w).alloc (Nat.le_refl _) (.cells #[.int .i64 x0, .string x1, .string x2, .int .i64 x3, .slice a4 r4.length p4, .int .i64 x5] SlotT))
  have HR := Lib.hid (layIntS.below h B0.out)
  have HB := Lib.hid hb
  have HF : Hid (¬ SlotP x0 x1 x2 x3 r4 x5 → b = false) := Lib.hid (fun h => by
    cases b with
    | false => rfl
    | true => exact absurd (hb.1 rfl) h)
  clear h hb
  go_enter Tryz.func79, Tryz.ntmps79
  go_upto_region 1 with fail
  generalize w.alloc (.cells #[.int .i64 x0, .string x1, .string x2, .int .i64 x3, .slice a4 r4.length p4, .int .i64 x5] SlotT) = Y at *
  have c0 : Y.cell? ⟨w.heap.size, 0, none⟩ = some (.int .i64 x0) := A0.out.cell 0
  have c1 : Y.cell? ⟨w.heap.size, 1, none⟩ = some (.string x1) := A0.out.cell 1
  have c2 : Y.cell? ⟨w.heap.size, 2, none⟩ = some (.string x2) := A0.out.cell 2
  have c3 : Y.cell? ⟨w.heap.size, 3, none⟩ = some (.int .i64 x3) := A0.out.cell 3
  have c4 : Y.cell? ⟨w.heap.size, 4, none⟩ = some (.slice a4 r4.length p4) := A0.out.cell 4
  have c5 : Y.cell? ⟨w.heap.size, 5, none⟩ = some (.int .i64 x5) := A0.out.cell 5
  by_cases hn : NoneP x0 x1 x2 x3 r4 x5
  · obtain rfl : b = true := HB.out.2 (.inl hn)
    have K := Lib.hid (specNone_bool x0 x1 x2 x3 _ r4 x5 true ⟨fun _ => hn, fun _ => rfl⟩ Y HR.out)
    clear hn
    go_wp2_with fail
    refine (K.out).mono ?_
    rintro e Z ⟨rfl, hb⟩
    replace B0 := Lib.hid (B0.out.trans (hb.mono B0.out.size))
    clear hb K c0 c1 c2 c3 c4 c5
    go_wp2_with fail
    go_ret
    exact ⟨rfl, B0.out⟩
  have K := Lib.hid (specNone_bool x0 x1 x2 x3 _ r4 x5 false ⟨fun e => (by cases e), fun e => absurd e hn⟩ Y HR.out)
  go_wp2_with fail
  refine (K.out).mono ?_
  rintro e Y1 ⟨rfl, hb⟩
  replace B0 := Lib.hid (B0.out.trans (hb.mono B0.out.size))
  replace A0 := Lib.hid (A0.out.next hb)
  replace HR := Lib.hid (layIntS.below HR.out hb)
  replace HF : Hid (¬ KeysP x0 x1 x2 x3 r4 x5 → b = false) := Lib.hid (fun h => HF.out (fun k => k.elim hn h))
  clear hb K c0 c1 c2 c3 c4 c5
  have c0 : Y1.cell? ⟨w.heap.size, 0, none⟩ = some (.int .i64 x0) := A0.out.cell 0
  have c1 : Y1.cell? ⟨w.heap.size, 1, none⟩ = some (.string x1) := A0.out.cell 1
  have c2 : Y1.cell? ⟨w.heap.size, 2, none⟩ = some (.string x2) := A0.out.cell 2
  have c3 : Y1.cell? ⟨w.heap.size, 3, none⟩ = some (.int .i64 x3) := A0.out.cell 3
  have c4 : Y1.cell? ⟨w.heap.size, 4, none⟩ = some (.slice a4 r4.length p4) := A0.out.cell 4
  have c5 : Y1.cell? ⟨w.heap.size, 5, none⟩ = some (.int .i64 x5) := A0.out.cell 5
  by_cases h0 : 1 ≤ x0 ∧ x0 ≤ 1000000000
  rotate_left
  · obtain rfl := HF.out (fun h => h0 h.1)
    have K := Lib.hid (inRange_no x0 1 1000000000 (by omega) Y1)
    go_wp2_with fail
    refine (K.out).mono ?_
    rintro e Z9 ⟨rfl, rfl⟩
    go_wp2_with fail
    go_ret
    exact ⟨rfl, B0.out⟩
  have K0 := Lib.hid (inRange_yes x0 1 1000000000 h0.1 h0.2 Y1)
  go_wp2_with fail
  refine (K0.out).mono ?_
  rintro e Z9 ⟨rfl, hz9⟩
  rw [hz9]
  clear hz9 Z9 K0
  by_cases h1 : (x1.size : Int) = 32
  rotate_left
  · obtain rfl := HF.out (fun h => h1 (by have := h.2.1; omega))
    have q1 := nat_no h1
    go_wp2_with fail
    go_ret
    exact ⟨rfl, B0.out⟩
  have q1 := nat_yes h1
  by_cases h2 : (x2.size : Int) = 32
  rotate_left
  · obtain rfl := HF.out (fun h => h2 (by have := h.2.2.1; omega))
    have q2 := nat_no h2
    go_wp2_with fail
    go_ret
    exact ⟨rfl, B0.out⟩
  have q2 := nat_yes h2
  by_cases h3 : 0 ≤ x3 ∧ x3 ≤ 12
  rotate_left
  · obtain rfl := HF.out (fun h => h3 h.2.2.2.1)
    have K := Lib.hid (inRange_no x3 0 12 (by omega) Y1)
    go_wp2_with fail
    refine (K.out).mono ?_
    rintro e Z9 ⟨rfl, rfl⟩
    go_wp2_with fail
    go_ret
    exact ⟨rfl, B0.out⟩
  have K3 := Lib.hid (inRange_yes x3 0 12 h3.1 h3.2 Y1)
  go_wp2_with fail
  refine (K3.out).mono ?_
  rintro e Z9 ⟨rfl, hz9⟩
  rw [hz9]
  clear hz9 Z9 K3
  by_cases h4 : SeenP r4
  rotate_left
  · obtain rfl := HF.out (fun h => h4 h.2.2.2.2.1)
    have K := Lib.hid (specSeenOk_bool r4 _ false ⟨fun e => (by cases e), fun e => absurd e h4⟩ hl Y1 HR.out)
    clear h4
    go_wp2_with fail
    refine (K.out).mono ?_
    rintro e Z ⟨rfl, hb⟩
    replace B0 := Lib.hid (B0.out.trans (hb.mono B0.out.size))
    clear hb K
    go_wp2_with fail
    go_ret
    exact ⟨rfl, B0.out⟩
  have K := Lib.hid (specSeenOk_bool r4 _ true ⟨fun _ => h4, fun _ => rfl⟩ hl Y1 HR.out)
  go_wp2_with fail
  refine (K.out).mono ?_
  rintro e Y2 ⟨rfl, hb⟩
  replace B0 := Lib.hid (B0.out.trans (hb.mono B0.out.size))
  replace A0 := Lib.hid (A0.out.next hb)
  clear hb K c0 c1 c2 c3 c4 c5
  have c0 : Y2.cell? ⟨w.heap.size, 0, none⟩ = some (.int .i64 x0) := A0.out.cell 0
  have c1 : Y2.cell? ⟨w.heap.size, 1, none⟩ = some (.string x1) := A0.out.cell 1
  have c2 : Y2.cell? ⟨w.heap.size, 2, none⟩ = some (.string x2) := A0.out.cell 2
  have c3 : Y2.cell? ⟨w.heap.size, 3, none⟩ = some (.int .i64 x3) := A0.out.cell 3
  have c4 : Y2.cell? ⟨w.heap.size, 4, none⟩ = some (.slice a4 r4.length p4) := A0.out.cell 4
  have c5 : Y2.cell? ⟨w.heap.size, 5, none⟩ = some (.int .i64 x5) := A0.out.cell 5
  by_cases h5 : 0 ≤ x5 ∧ x5 ≤ 1000000000
  rotate_left
  · obtain rfl := HF.out (fun h => h5 h.2.2.2.2.2)
    have K := Lib.hid (inRange_no x5 0 1000000000 (by omega) Y2)
    go_wp2_with fail
    refine (K.out).mono ?_
    rintro e Z9 ⟨rfl, rfl⟩
    go_wp2_with fail
    go_ret
    exact ⟨rfl, B0.out⟩
  have K5 := Lib.hid (inRange_yes x5 0 1000000000 h5.1 h5.2 Y2)
  go_wp2_with fail
  refine (K5.out).mono ?_
  rintro e Z9 ⟨rfl, hz9⟩
  rw [hz9]
  clear hz9 Z9 K5
  obtain rfl : b = true := HB.out.2 (.inr ⟨h0, by omega, by omega, h3, h4, h5⟩)
  go_wp2_with fail
  go_ret
  exact ⟨rfl, B0.out⟩
set_option maxRecDepth 100000 in
set_option maxHeartbeats 3200000 in
theorem specSlotsOk_bool (x0 : Int) (x1 x2 : ByteArray) (x3 : Int) (v4 : Value) (r4 : List Int) (x5 : Int) (y0 : Int) (y1 y2 : ByteArray) (y3 : Int) (u4 : Value) (s4 : List Int) (y5 : Int) (b : Bool) (hb : b = true ↔ SlotsP x0 x1 x2 x3 r4 x5 y0 y1 y2 y3 s4 y5) (hl : r4.length ≤ 100000000) (hk : s4.length ≤ 100000000) (w : World) (h : layIntS.rd w [v4] r4) (k : layIntS.rd w [u4] s4) :
    Calls Tryz.prog 44 #[.agg #[.int .i64 x0, .string x1, .string x2, .int .i64 x3, v4, .int .i64 x5, .int .i64 y0, .string y1, .string y2, .int .i64 y3, u4, .int .i64 y5]] w fun e w' => e = .returned (.bool b) ∧ Below w.heap.size w w' := by
  obtain ⟨a4, p4, rfl⟩ := rows_form h
  obtain ⟨b4, q4, rfl⟩ := rows_form k
  have A0 := Lib.hid (VarA.new w SlotsT #[.int .i64 x0, .string x1, .string x2, .int .i64 x3, .slice a4 r4.length p4, .int .i64 x5, .int .i64 y0, .string y1, .string y2, .int .i64 y3, .slice b4 s4.length q4, .int .i64 y5])
  have B0 := Lib.hid ((Below.refl w.heap.size w).alloc (Nat.le_refl _) (.cells #[.int .i64 x0, .string x1, .string x2, .int .i64 x3, .slice a4 r4.length p4, .int .i64 x5, .int .i64 y0, .string y1, .string y2, .int .i64 y3, .slice b4 s4.length q4, .int .i64 y5] SlotsT))
  have HR := Lib.hid (layIntS.below h B0.out)
  have HK := Lib.hid (layIntS.below k B0.out)
  have HB := Lib.hid hb
  have HF : Hid (¬ (SlotsP x0 x1 x2 x3 r4 x5 y0 y1 y2 y3 s4 y5) → b = false) := Lib.hid (fun h => by
    cases b with
    | false => rfl
    | true => exact absurd (hb.1 rfl) h)
  clear h k hb
  go_enter Tryz.func44, Tryz.ntmps44
  go_upto_region 1 with fail
  generalize w.alloc (.cells #[.int .i64 x0, .string x1, .string x2, .int .i64 x3, .slice a4 r4.length p4, .int .i64 x5, .int .i64 y0, .string y1, .string y2, .int .i64 y3, .slice b4 s4.length q4, .int .i64 y5] SlotsT) = Y at *
  have c0 : Y.cell? ⟨w.heap.size, 0, none⟩ = some (.int .i64 x0) := A0.out.cell 0
  have c1 : Y.cell? ⟨w.heap.size, 1, none⟩ = some (.string x1) := A0.out.cell 1
  have c2 : Y.cell? ⟨w.heap.size, 2, none⟩ = some (.string x2) := A0.out.cell 2
  have c3 : Y.cell? ⟨w.heap.size, 3, none⟩ = some (.int .i64 x3) := A0.out.cell 3
  have c4 : Y.cell? ⟨w.heap.size, 4, none⟩ = some (.slice a4 r4.length p4) := A0.out.cell 4
  have c5 : Y.cell? ⟨w.heap.size, 5, none⟩ = some (.int .i64 x5) := A0.out.cell 5
  have c6 : Y.cell? ⟨w.heap.size, 6, none⟩ = some (.int .i64 y0) := A0.out.cell 6
  have c7 : Y.cell? ⟨w.heap.size, 7, none⟩ = some (.string y1) := A0.out.cell 7
  have c8 : Y.cell? ⟨w.heap.size, 8, none⟩ = some (.string y2) := A0.out.cell 8
  have c9 : Y.cell? ⟨w.heap.size, 9, none⟩ = some (.int .i64 y3) := A0.out.cell 9
  have c10 : Y.cell? ⟨w.heap.size, 10, none⟩ = some (.slice b4 s4.length q4) := A0.out.cell 10
  have c11 : Y.cell? ⟨w.heap.size, 11, none⟩ = some (.int .i64 y5) := A0.out.cell 11
  by_cases hx : SlotP x0 x1 x2 x3 r4 x5
  rotate_left
  · obtain rfl := HF.out (fun h => hx h.1)
    have K := Lib.hid (specSlotOk_bool x0 x1 x2 x3 _ r4 x5 false ⟨fun e => (by cases e), fun e => absurd e hx⟩ hl Y HR.out)
    clear hx
    go_wp2_with fail
    refine (K.out).mono ?_
    rintro e Z ⟨rfl, hb⟩
    replace B0 := Lib.hid (B0.out.trans (hb.mono B0.out.size))
    clear hb K
    go_wp2_with fail
    go_ret
    exact ⟨rfl, B0.out⟩
  have K := Lib.hid (specSlotOk_bool x0 x1 x2 x3 _ r4 x5 true ⟨fun _ => hx, fun _ => rfl⟩ hl Y HR.out)
  go_wp2_with fail
  refine (K.out).mono ?_
  rintro e Y1 ⟨rfl, hb⟩
  replace B0 := Lib.hid (B0.out.trans (hb.mono B0.out.size))
  replace A0 := Lib.hid (A0.out.next hb)
  replace HR := Lib.hid (layIntS.below HR.out hb)
  replace HK := Lib.hid (layIntS.below HK.out hb)
  clear hb K c0 c1 c2 c3 c4 c5 c6 c7 c8 c9 c10 c11
  have c0 : Y1.cell? ⟨w.heap.size, 0, none⟩ = some (.int .i64 x0) := A0.out.cell 0
  have c1 : Y1.cell? ⟨w.heap.size, 1, none⟩ = some (.string x1) := A0.out.cell 1
  have c2 : Y1.cell? ⟨w.heap.size, 2, none⟩ = some (.string x2) := A0.out.cell 2
  have c3 : Y1.cell? ⟨w.heap.size, 3, none⟩ = some (.int .i64 x3) := A0.out.cell 3
  have c4 : Y1.cell? ⟨w.heap.size, 4, none⟩ = some (.slice a4 r4.length p4) := A0.out.cell 4
  have c5 : Y1.cell? ⟨w.heap.size, 5, none⟩ = some (.int .i64 x5) := A0.out.cell 5
  have c6 : Y1.cell? ⟨w.heap.size, 6, none⟩ = some (.int .i64 y0) := A0.out.cell 6
  have c7 : Y1.cell? ⟨w.heap.size, 7, none⟩ = some (.string y1) := A0.out.cell 7
  have c8 : Y1.cell? ⟨w.heap.size, 8, none⟩ = some (.string y2) := A0.out.cell 8
  have c9 : Y1.cell? ⟨w.heap.size, 9, none⟩ = some (.int .i64 y3) := A0.out.cell 9
  have c10 : Y1.cell? ⟨w.heap.size, 10, none⟩ = some (.slice b4 s4.length q4) := A0.out.cell 10
  have c11 : Y1.cell? ⟨w.heap.size, 11, none⟩ = some (.int .i64 y5) := A0.out.cell 11
  by_cases hy : SlotP y0 y1 y2 y3 s4 y5
  rotate_left
  · obtain rfl := HF.out (fun h => hy h.2.1)
    have K := Lib.hid (specSlotOk_bool y0 y1 y2 y3 _ s4 y5 false ⟨fun e => (by cases e), fun e => absurd e hy⟩ hk Y1 HK.out)
    clear hy
    go_wp2_with fail
    refine (K.out).mono ?_
    rintro e Z ⟨rfl, hb⟩
    replace B0 := Lib.hid (B0.out.trans (hb.mono B0.out.size))
    clear hb K
    go_wp2_with fail
    go_ret
    exact ⟨rfl, B0.out⟩
  have K := Lib.hid (specSlotOk_bool y0 y1 y2 y3 _ s4 y5 true ⟨fun _ => hy, fun _ => rfl⟩ hk Y1 HK.out)
  go_wp2_with fail
  refine (K.out).mono ?_
  rintro e Y2 ⟨rfl, hb⟩
  replace B0 := Lib.hid (B0.out.trans (hb.mono B0.out.size))
  replace A0 := Lib.hid (A0.out.next hb)
  replace HR := Lib.hid (layIntS.below HR.out hb)
  replace HK := Lib.hid (layIntS.below HK.out hb)
  clear hb K c0 c1 c2 c3 c4 c5 c6 c7 c8 c9 c10 c11
  have c0 : Y2.cell? ⟨w.heap.size, 0, none⟩ = some (.int .i64 x0) := A0.out.cell 0
  have c1 : Y2.cell? ⟨w.heap.size, 1, none⟩ = some (.string x1) := A0.out.cell 1
  have c2 : Y2.cell? ⟨w.heap.size, 2, none⟩ = some (.string x2) := A0.out.cell 2
  have c3 : Y2.cell? ⟨w.heap.size, 3, none⟩ = some (.int .i64 x3) := A0.out.cell 3
  have c4 : Y2.cell? ⟨w.heap.size, 4, none⟩ = some (.slice a4 r4.length p4) := A0.out.cell 4
  have c5 : Y2.cell? ⟨w.heap.size, 5, none⟩ = some (.int .i64 x5) := A0.out.cell 5
  have c6 : Y2.cell? ⟨w.heap.size, 6, none⟩ = some (.int .i64 y0) := A0.out.cell 6
  have c7 : Y2.cell? ⟨w.heap.size, 7, none⟩ = some (.string y1) := A0.out.cell 7
  have c8 : Y2.cell? ⟨w.heap.size, 8, none⟩ = some (.string y2) := A0.out.cell 8
  have c9 : Y2.cell? ⟨w.heap.size, 9, none⟩ = some (.int .i64 y3) := A0.out.cell 9
  have c10 : Y2.cell? ⟨w.heap.size, 10, none⟩ = some (.slice b4 s4.length q4) := A0.out.cell 10
  have c11 : Y2.cell? ⟨w.heap.size, 11, none⟩ = some (.int .i64 y5) := A0.out.cell 11
  by_cases hn : NoneP y0 y1 y2 y3 s4 y5
  · obtain rfl : b = true := HB.out.2 ⟨hx, hy, .inl hn⟩
    have K := Lib.hid (specNone_bool y0 y1 y2 y3 _ s4 y5 true ⟨fun _ => hn, fun _ => rfl⟩ Y2 HK.out)
    go_wp2_with fail
    refine (K.out).mono ?_
    rintro e Y3 ⟨rfl, hb⟩
    replace B0 := Lib.hid (B0.out.trans (hb.mono B0.out.size))
    replace A0 := Lib.hid (A0.out.next hb)
    replace HR := Lib.hid (layIntS.below HR.out hb)
    replace HK := Lib.hid (layIntS.below HK.out hb)
    clear hb K c0 c1 c2 c3 c4 c5 c6 c7 c8 c9 c10 c11
    have c0 : Y3.cell? ⟨w.heap.size, 0, none⟩ = some (.int .i64 x0) := A0.out.cell 0
    have c1 : Y3.cell? ⟨w.heap.size, 1, none⟩ = some (.string x1) := A0.out.cell 1
    have c2 : Y3.cell? ⟨w.heap.size, 2, none⟩ = some (.string x2) := A0.out.cell 2
    have c3 : Y3.cell? ⟨w.heap.size, 3, none⟩ = some (.int .i64 x3) := A0.out.cell 3
    have c4 : Y3.cell? ⟨w.heap.size, 4, none⟩ = some (.slice a4 r4.length p4) := A0.out.cell 4
    have c5 : Y3.cell? ⟨w.heap.size, 5, none⟩ = some (.int .i64 x5) := A0.out.cell 5
    have c6 : Y3.cell? ⟨w.heap.size, 6, none⟩ = some (.int .i64 y0) := A0.out.cell 6
    have c7 : Y3.cell? ⟨w.heap.size, 7, none⟩ = some (.string y1) := A0.out.cell 7
    have c8 : Y3.cell? ⟨w.heap.size, 8, none⟩ = some (.string y2) := A0.out.cell 8
    have c9 : Y3.cell? ⟨w.heap.size, 9, none⟩ = some (.int .i64 y3) := A0.out.cell 9
    have c10 : Y3.cell? ⟨w.heap.size, 10, none⟩ = some (.slice b4 s4.length q4) := A0.out.cell 10
    have c11 : Y3.cell? ⟨w.heap.size, 11, none⟩ = some (.int .i64 y5) := A0.out.cell 11
    go_wp2_with fail
    go_ret
    exact ⟨rfl, B0.out⟩
  have K := Lib.hid (specNone_bool y0 y1 y2 y3 _ s4 y5 false ⟨fun e => (by cases e), fun e => absurd e hn⟩ Y2 HK.out)
  go_wp2_with fail
  refine (K.out).mono ?_
  rintro e Y3 ⟨rfl, hb⟩
  replace B0 := Lib.hid (B0.out.trans (hb.mono B0.out.size))
  replace A0 := Lib.hid (A0.out.next hb)
  replace HR := Lib.hid (layIntS.below HR.out hb)
  replace HK := Lib.hid (layIntS.below HK.out hb)
  clear hb K c0 c1 c2 c3 c4 c5 c6 c7 c8 c9 c10 c11
  have c0 : Y3.cell? ⟨w.heap.size, 0, none⟩ = some (.int .i64 x0) := A0.out.cell 0
  have c1 : Y3.cell? ⟨w.heap.size, 1, none⟩ = some (.string x1) := A0.out.cell 1
  have c2 : Y3.cell? ⟨w.heap.size, 2, none⟩ = some (.string x2) := A0.out.cell 2
  have c3 : Y3.cell? ⟨w.heap.size, 3, none⟩ = some (.int .i64 x3) := A0.out.cell 3
  have c4 : Y3.cell? ⟨w.heap.size, 4, none⟩ = some (.slice a4 r4.length p4) := A0.out.cell 4
  have c5 : Y3.cell? ⟨w.heap.size, 5, none⟩ = some (.int .i64 x5) := A0.out.cell 5
  have c6 : Y3.cell? ⟨w.heap.size, 6, none⟩ = some (.int .i64 y0) := A0.out.cell 6
  have c7 : Y3.cell? ⟨w.heap.size, 7, none⟩ = some (.string y1) := A0.out.cell 7
  have c8 : Y3.cell? ⟨w.heap.size, 8, none⟩ = some (.string y2) := A0.out.cell 8
  have c9 : Y3.cell? ⟨w.heap.size, 9, none⟩ = some (.int .i64 y3) := A0.out.cell 9
  have c10 : Y3.cell? ⟨w.heap.size, 10, none⟩ = some (.slice b4 s4.length q4) := A0.out.cell 10
  have c11 : Y3.cell? ⟨w.heap.size, 11, none⟩ = some (.int .i64 y5) := A0.out.cell 11
  by_cases hlt : y0 < x0
  · obtain rfl : b = true := HB.out.2 ⟨hx, hy, .inr hlt⟩
    go_wp2_with fail
    go_ret
    exact ⟨rfl, B0.out⟩
  · obtain rfl := HF.out (fun h => h.2.2.elim hn hlt)
    have hd : decide (y0 < x0) = false := decide_eq_false hlt
    go_wp2_with fail
    go_ret
    exact ⟨rfl, B0.out⟩
set_option maxRecDepth 100000 in
set_option maxHeartbeats 3200000 in
theorem specSpent_bool (x0 : Int) (x1 x2 : ByteArray) (x3 : Int) (v4 : Value) (r4 : List Int) (x5 : Int) (y0 : Int) (y1 y2 : ByteArray) (y3 : Int) (u4 : Value) (s4 : List Int) (y5 : Int) (b : Bool) (hb : b = true ↔ NoneP x0 x1 x2 x3 r4 x5 ∨ x3 = 12) (w : World) (h : layIntS.rd w [v4] r4) (k : layIntS.rd w [u4] s4) :
    Calls Tryz.prog 45 #[.agg #[.int .i64 x0, .string x1, .string x2, .int .i64 x3, v4, .int .i64 x5, .int .i64 y0, .string y1, .string y2, .int .i64 y3, u4, .int .i64 y5]] w fun e w' => e = .returned (.bool b) ∧ Below w.heap.size w w' := by
  obtain ⟨a4, p4, rfl⟩ := rows_form h
  obtain ⟨b4, q4, rfl⟩ := rows_form k
  have A0 := Lib.hid (VarA.new w SlotsT #[.int .i64 x0, .string x1, .string x2, .int .i64 x3, .slice a4 r4.length p4, .int .i64 x5, .int .i64 y0, .string y1, .string y2, .int .i64 y3, .slice b4 s4.length q4, .int .i64 y5])
  have B0 := Lib.hid ((Below.refl w.heap.size w).alloc (Nat.le_refl _) (.cells #[.int .i64 x0, .string x1, .string x2, .int .i64 x3, .slice a4 r4.length p4, .int .i64 x5, .int .i64 y0, .string y1, .string y2, .int .i64 y3, .slice b4 s4.length q4, .int .i64 y5] SlotsT))
  have HR := Lib.hid (layIntS.below h B0.out)
  have HK := Lib.hid (layIntS.below k B0.out)
  have HB := Lib.hid hb
  have HF : Hid (¬ (NoneP x0 x1 x2 x3 r4 x5 ∨ x3 = 12) → b = false) := Lib.hid (fun h => by
    cases b with
    | false => rfl
    | true => exact absurd (hb.1 rfl) h)
  clear h k hb
  go_enter Tryz.func45, Tryz.ntmps45
  go_upto_region 1 with fail
  generalize w.alloc (.cells #[.int .i64 x0, .string x1, .string x2, .int .i64 x3, .slice a4 r4.length p4, .int .i64 x5, .int .i64 y0, .string y1, .string y2, .int .i64 y3, .slice b4 s4.length q4, .int .i64 y5] SlotsT) = Y at *
  have c0 : Y.cell? ⟨w.heap.size, 0, none⟩ = some (.int .i64 x0) := A0.out.cell 0
  have c1 : Y.cell? ⟨w.heap.size, 1, none⟩ = some (.string x1) := A0.out.cell 1
  have c2 : Y.cell? ⟨w.heap.size, 2, none⟩ = some (.string x2) := A0.out.cell 2
  have c3 : Y.cell? ⟨w.heap.size, 3, none⟩ = some (.int .i64 x3) := A0.out.cell 3
  have c4 : Y.cell? ⟨w.heap.size, 4, none⟩ = some (.slice a4 r4.length p4) := A0.out.cell 4
  have c5 : Y.cell? ⟨w.heap.size, 5, none⟩ = some (.int .i64 x5) := A0.out.cell 5
  have c6 : Y.cell? ⟨w.heap.size, 6, none⟩ = some (.int .i64 y0) := A0.out.cell 6
  have c7 : Y.cell? ⟨w.heap.size, 7, none⟩ = some (.string y1) := A0.out.cell 7
  have c8 : Y.cell? ⟨w.heap.size, 8, none⟩ = some (.string y2) := A0.out.cell 8
  have c9 : Y.cell? ⟨w.heap.size, 9, none⟩ = some (.int .i64 y3) := A0.out.cell 9
  have c10 : Y.cell? ⟨w.heap.size, 10, none⟩ = some (.slice b4 s4.length q4) := A0.out.cell 10
  have c11 : Y.cell? ⟨w.heap.size, 11, none⟩ = some (.int .i64 y5) := A0.out.cell 11
  by_cases hn : NoneP x0 x1 x2 x3 r4 x5
  · obtain rfl : b = true := HB.out.2 (.inl hn)
    have K := Lib.hid (specNone_bool x0 x1 x2 x3 _ r4 x5 true ⟨fun _ => hn, fun _ => rfl⟩ Y HR.out)
    go_wp2_with fail
    refine (K.out).mono ?_
    rintro e Y1 ⟨rfl, hb⟩
    replace B0 := Lib.hid (B0.out.trans (hb.mono B0.out.size))
    replace A0 := Lib.hid (A0.out.next hb)
    replace HR := Lib.hid (layIntS.below HR.out hb)
    replace HK := Lib.hid (layIntS.below HK.out hb)
    clear hb K c0 c1 c2 c3 c4 c5 c6 c7 c8 c9 c10 c11
    have c0 : Y1.cell? ⟨w.heap.size, 0, none⟩ = some (.int .i64 x0) := A0.out.cell 0
    have c1 : Y1.cell? ⟨w.heap.size, 1, none⟩ = some (.string x1) := A0.out.cell 1
    have c2 : Y1.cell? ⟨w.heap.size, 2, none⟩ = some (.string x2) := A0.out.cell 2
    have c3 : Y1.cell? ⟨w.heap.size, 3, none⟩ = some (.int .i64 x3) := A0.out.cell 3
    have c4 : Y1.cell? ⟨w.heap.size, 4, none⟩ = some (.slice a4 r4.length p4) := A0.out.cell 4
    have c5 : Y1.cell? ⟨w.heap.size, 5, none⟩ = some (.int .i64 x5) := A0.out.cell 5
    have c6 : Y1.cell? ⟨w.heap.size, 6, none⟩ = some (.int .i64 y0) := A0.out.cell 6
    have c7 : Y1.cell? ⟨w.heap.size, 7, none⟩ = some (.string y1) := A0.out.cell 7
    have c8 : Y1.cell? ⟨w.heap.size, 8, none⟩ = some (.string y2) := A0.out.cell 8
    have c9 : Y1.cell? ⟨w.heap.size, 9, none⟩ = some (.int .i64 y3) := A0.out.cell 9
    have c10 : Y1.cell? ⟨w.heap.size, 10, none⟩ = some (.slice b4 s4.length q4) := A0.out.cell 10
    have c11 : Y1.cell? ⟨w.heap.size, 11, none⟩ = some (.int .i64 y5) := A0.out.cell 11
    go_wp2_with fail
    go_ret
    exact ⟨rfl, B0.out⟩
  have K := Lib.hid (specNone_bool x0 x1 x2 x3 _ r4 x5 false ⟨fun e => (by cases e), fun e => absurd e hn⟩ Y HR.out)
  go_wp2_with fail
  refine (K.out).mono ?_
  rintro e Y1 ⟨rfl, hb⟩
  replace B0 := Lib.hid (B0.out.trans (hb.mono B0.out.size))
  replace A0 := Lib.hid (A0.out.next hb)
  replace HR := Lib.hid (layIntS.below HR.out hb)
  replace HK := Lib.hid (layIntS.below HK.out hb)
  clear hb K c0 c1 c2 c3 c4 c5 c6 c7 c8 c9 c10 c11
  have c0 : Y1.cell? ⟨w.heap.size, 0, none⟩ = some (.int .i64 x0) := A0.out.cell 0
  have c1 : Y1.cell? ⟨w.heap.size, 1, none⟩ = some (.string x1) := A0.out.cell 1
  have c2 : Y1.cell? ⟨w.heap.size, 2, none⟩ = some (.string x2) := A0.out.cell 2
  have c3 : Y1.cell? ⟨w.heap.size, 3, none⟩ = some (.int .i64 x3) := A0.out.cell 3
  have c4 : Y1.cell? ⟨w.heap.size, 4, none⟩ = some (.slice a4 r4.length p4) := A0.out.cell 4
  have c5 : Y1.cell? ⟨w.heap.size, 5, none⟩ = some (.int .i64 x5) := A0.out.cell 5
  have c6 : Y1.cell? ⟨w.heap.size, 6, none⟩ = some (.int .i64 y0) := A0.out.cell 6
  have c7 : Y1.cell? ⟨w.heap.size, 7, none⟩ = some (.string y1) := A0.out.cell 7
  have c8 : Y1.cell? ⟨w.heap.size, 8, none⟩ = some (.string y2) := A0.out.cell 8
  have c9 : Y1.cell? ⟨w.heap.size, 9, none⟩ = some (.int .i64 y3) := A0.out.cell 9
  have c10 : Y1.cell? ⟨w.heap.size, 10, none⟩ = some (.slice b4 s4.length q4) := A0.out.cell 10
  have c11 : Y1.cell? ⟨w.heap.size, 11, none⟩ = some (.int .i64 y5) := A0.out.cell 11
  by_cases h3 : x3 = 12
  · obtain rfl : b = true := HB.out.2 (.inr h3)
    have q3 := int_yes h3
    clear h3
    go_wp2_with fail
    go_ret
    exact ⟨rfl, B0.out⟩
  · obtain rfl := HF.out (fun h => h.elim hn h3)
    have q3 := int_no h3
    go_wp2_with fail
    go_ret
    exact ⟨rfl, B0.out⟩

end Go.Proofs.YtoaifgblbfdncaaGreatDoor
