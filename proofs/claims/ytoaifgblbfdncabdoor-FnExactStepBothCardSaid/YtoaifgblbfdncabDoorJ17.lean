/-
  The program's markOf, isKey, hasKeys and SlotOk.
  Two slots: the laws' own type.
  Two slots as an argument, opened.
-/
import Derived.Test.YtoaifgblbfdncabDoorJ14
import Derived.Test.YtoaifgblbfdncabDoorJ16
import Derived.Test.YtoaifgblbfdncabDoorJ09
import Derived.Laws.StructEq
import Derived.Test.YtoaifgblbfdncabDoorJ08
namespace Go.Proofs.YtoaifgblbfdncabDoor
open Go.RowKit

abbrev MarkT : TypeId := 90
theorem isKey_any (s : ByteArray) (b : Bool) (hb : b = true ↔ s.size = 32) (w : World) :
    Calls Tryd.prog 38 #[.string s] w fun e w' => e = .returned (.bool b) ∧ w' = w := by
  obtain rfl : ((s.size : Int) == 32) = b := by
    cases b with
    | true => have := hb.1 rfl; rw [beq_iff_eq]; omega
    | false => rw [beq_eq_false_iff_ne]; intro h; exact absurd (hb.2 (by omega)) (by simp)
  clear hb
  go_enter Tryd.func38, Tryd.ntmps38
  go_wp2_with fail
  go_ret
  exact ⟨rfl, rfl⟩
set_option maxRecDepth 100000 in
set_option maxHeartbeats 1600000 in
theorem markOf_any (x0 : Int) (x1 x2 : ByteArray) (x3 : Int) (v4 : Value) (r4 : List Int) (x5 : Int) (w : World) (h : layIntS.rd w [v4] r4) :
    Calls Tryd.prog 74 #[.agg #[.int .i64 x0, .string x1, .string x2, .int .i64 x3, v4, .int .i64 x5]] w fun e w' => e = .returned (.agg #[.int .i64 x0, .string x1, .string x2, .int .i64 x3, .int .i64 r4.length, .int .i64 x5]) ∧ Below w.heap.size w w' := by
  obtain ⟨a4, p4, rfl⟩ := rows_form h
  have e1 : (w.alloc (.cells #[.int .i64 x0, .string x1, .string x2, .int .i64 x3, .slice a4 r4.length p4, .int .i64 x5] SlotT)).heap.size = w.heap.size + 1 := by simp
  have h2 := VarA.new (w.alloc (.cells #[.int .i64 x0, .string x1, .string x2, .int .i64 x3, .slice a4 r4.length p4, .int .i64 x5] SlotT)) MarkT #[.int .i64 0, .string ⟨#[]⟩, .string ⟨#[]⟩, .int .i64 0, .int .i64 0, .int .i64 0]
  rw [e1] at h2
  have A0 := Lib.hid ((VarA.new w SlotT #[.int .i64 x0, .string x1, .string x2, .int .i64 x3, .slice a4 r4.length p4, .int .i64 x5]).alloc (.cells #[.int .i64 0, .string ⟨#[]⟩, .string ⟨#[]⟩, .int .i64 0, .int .i64 0, .int .i64 0] MarkT))
  have A1 := Lib.hid h2
  have BY := Lib.hid (((Below.refl w.heap.size w).alloc (Nat.le_refl _) (.cells #[.int .i64 x0, .string x1, .string x2, .int .i64 x3, .slice a4 r4.length p4, .int .i64 x5] SlotT)).alloc (by simp) (.cells #[.int .i64 0, .string ⟨#[]⟩, .string ⟨#[]⟩, .int .i64 0, .int .i64 0, .int .i64 0] MarkT))
  clear h h2 e1
  go_enter Tryd.func74, Tryd.ntmps74
  go_upto_region 1 with fail
  generalize ((w.alloc (.cells #[.int .i64 x0, .string x1, .string x2, .int .i64 x3, .slice a4 r4.length p4, .int .i64 x5] SlotT)).alloc (.cells #[.int .i64 0, .string ⟨#[]⟩, .string ⟨#[]⟩, .int .i64 0, .int .i64 0, .int .i64 0] MarkT)) = Y at *
  have c0 : Y.cell? ⟨w.heap.size, 0, none⟩ = some (.int .i64 x0) := A0.out.cell 0
  have c1 : Y.cell? ⟨w.heap.size, 1, none⟩ = some (.string x1) := A0.out.cell 1
  have c2 : Y.cell? ⟨w.heap.size, 2, none⟩ = some (.string x2) := A0.out.cell 2
  have c3 : Y.cell? ⟨w.heap.size, 3, none⟩ = some (.int .i64 x3) := A0.out.cell 3
  have c4 : Y.cell? ⟨w.heap.size, 4, none⟩ = some (.slice a4 r4.length p4) := A0.out.cell 4
  have c5 : Y.cell? ⟨w.heap.size, 5, none⟩ = some (.int .i64 x5) := A0.out.cell 5
  have d0 : Y.cell? ⟨w.heap.size + 1, 0, none⟩ = some (.int .i64 0) := A1.out.cell 0
  have d1 : Y.cell? ⟨w.heap.size + 1, 1, none⟩ = some (.string ⟨#[]⟩) := A1.out.cell 1
  have d2 : Y.cell? ⟨w.heap.size + 1, 2, none⟩ = some (.string ⟨#[]⟩) := A1.out.cell 2
  have d3 : Y.cell? ⟨w.heap.size + 1, 3, none⟩ = some (.int .i64 0) := A1.out.cell 3
  have d4 : Y.cell? ⟨w.heap.size + 1, 4, none⟩ = some (.int .i64 0) := A1.out.cell 4
  have d5 : Y.cell? ⟨w.heap.size + 1, 5, none⟩ = some (.int .i64 0) := A1.out.cell 5
  have g0 := A1.out.free 0
  have g1 := A1.out.free 1
  have g2 := A1.out.free 2
  have g3 := A1.out.free 3
  have g4 := A1.out.free 4
  have g5 := A1.out.free 5
  have S1 := putSix A1.out (.int .i64 x0) (.string x1) (.string x2) (.int .i64 x3) (.int .i64 r4.length) (.int .i64 x5)
  have j0 := S1.cell 0
  have j1 := S1.cell 1
  have j2 := S1.cell 2
  have j3 := S1.cell 3
  have j4 := S1.cell 4
  have j5 := S1.cell 5
  have E : Hid (Below w.heap.size w ((((((Y.setCell ⟨w.heap.size + 1, 0, none⟩ (.int .i64 x0)).setCell ⟨w.heap.size + 1, 1, none⟩ (.string x1)).setCell ⟨w.heap.size + 1, 2, none⟩ (.string x2)).setCell ⟨w.heap.size + 1, 3, none⟩ (.int .i64 x3)).setCell ⟨w.heap.size + 1, 4, none⟩ (.int .i64 r4.length)).setCell ⟨w.heap.size + 1, 5, none⟩ (.int .i64 x5))) := Lib.hid (putMain_below BY.out (show w.heap.size ≤ w.heap.size + 1 by omega) _ _ _ _ _ _)
  clear S1
  go_wp2_with fail
  try simp only [Exit.inBlock, Exit.then]
  exact bodyPost_ret (v := .agg #[.int .i64 x0, .string x1, .string x2, .int .i64 x3, .int .i64 r4.length, .int .i64 x5]) (by simp [results, Tryd.results74, go_sem, j0, j1, j2, j3, j4, j5]) rfl ⟨rfl, E.out⟩
theorem markFields : Tryd.prog.underlying MarkT = some (.struct (Tryd.prog.fieldsOf MarkT)) := by kernel_rfl
theorem markStood : Tryd.prog.stoodInHeld MarkT = false := by kernel_rfl
theorem markGuard : Tryd.prog.eqGuardType Tryd.prog.depth MarkT = false := by kernel_rfl
theorem noneK_iff (x0 : Int) (x1 x2 : ByteArray) (x3 : Int) (r4 : List Int) (x5 : Int) : NoneP x0 x1 x2 x3 r4 x5 ↔ (x0 == 0 && x1.toList == [] && x2.toList == [] && x3 == 0 && (r4.length : Int) == 0 && x5 == 0) = true := by
  unfold NoneP
  simp only [Bool.and_eq_true, beq_iff_eq, ByteArray.toList_eq, Array.toList_eq_nil_iff]
  constructor
  · rintro ⟨h0, h1, h2, h3, h4, h5⟩
    exact ⟨⟨⟨⟨⟨h0, by apply Array.eq_empty_of_size_eq_zero; exact h1⟩, by apply Array.eq_empty_of_size_eq_zero; exact h2⟩, h3⟩, by omega⟩, h5⟩
  · rintro ⟨⟨⟨⟨⟨h0, h1⟩, h2⟩, h3⟩, h4⟩, h5⟩
    exact ⟨h0, by show x1.data.size = 0; rw [h1]; rfl, by show x2.data.size = 0; rw [h2]; rfl, h3, by omega, h5⟩
/-- A mark held against nothing. -/
theorem mark_eq (d : Nat) (x0 : Int) (x1 x2 : ByteArray) (x3 : Int) (r4 : List Int) (x5 : Int) (b : Bool) (hb : b = true ↔ NoneP x0 x1 x2 x3 r4 x5) (w : World) : (Op.equalIn (d + 2) MarkT (.agg #[.int .i64 x0, .string x1, .string x2, .int .i64 x3, .int .i64 r4.length, .int .i64 x5]) (.agg #[.int .i64 0, .string ⟨#[]⟩, .string ⟨#[]⟩, .int .i64 0, .int .i64 0, .int .i64 0])).run Tryd.prog w = .ok b w := by
  rw [noneK_iff] at hb
  have hb' : (x0 == 0 && x1.toList == [] && x2.toList == [] && x3 == 0 && (r4.length : Int) == 0 && x5 == 0) = b := by
    cases b with
    | true => exact hb.1 rfl
    | false => rw [Bool.eq_false_iff]; exact fun h => absurd (hb.2 h) (by simp)
  clear hb
  have u3 := Tryd.underlying3
  have a3 := Tryd.isAgg3
  have z3 := Tryd.sizeOf3
  have u9 := Tryd.underlying9
  have a9 := Tryd.isAgg9
  have z9 := Tryd.sizeOf9
  rw [run_equalIn_agg w (d + 1) MarkT _ _ markFields markStood]
  simp only [Program.fieldsOf, Tryd.underlying90]
  go_simp
  rw [← hb']
  generalize x1.toList = l1
  generalize x2.toList = l2
  by_cases h0 : x0 = 0 <;> by_cases h1 : l1 = [] <;> by_cases h2 : l2 = [] <;> by_cases h3 : x3 = 0 <;> by_cases h4 : r4 = [] <;> by_cases h5 : x5 = 0 <;> simp [h0, h1, h2, h3, h4, h5]
set_option maxRecDepth 100000 in
set_option maxHeartbeats 3200000 in
theorem hasKeys_bool (G : Nat) (x0 : Int) (x1 x2 : ByteArray) (x3 : Int) (v4 : Value) (r4 : List Int) (x5 : Int) (b : Bool) (hb : b = true ↔ KeysP x0 x1 x2 x3 r4 x5) (hl : r4.length ≤ 100000000) (hwf : ∀ x ∈ r4, IntZ x) (w : World) (h : layIntS.rd w [v4] r4)
    (c0 : w.cell? ⟨G, 0, none⟩ = some (.int .i64 x0)) (c1 : w.cell? ⟨G, 1, none⟩ = some (.string x1)) (c2 : w.cell? ⟨G, 2, none⟩ = some (.string x2)) (c3 : w.cell? ⟨G, 3, none⟩ = some (.int .i64 x3)) (c4 : w.cell? ⟨G, 4, none⟩ = some v4) (c5 : w.cell? ⟨G, 5, none⟩ = some (.int .i64 x5)) :
    Calls Tryd.prog 39 #[.pointer (some ⟨G, 0, none⟩)] w fun e w' => e = .returned (.bool b) ∧ Below w.heap.size w w' := by
  obtain ⟨a4, p4, rfl⟩ := rows_form h
  have HR := Lib.hid h
  have HB := Lib.hid hb
  have HF : Hid (¬ KeysP x0 x1 x2 x3 r4 x5 → b = false) := Lib.hid (fun h => by
    cases b with
    | false => rfl
    | true => exact absurd (hb.1 rfl) h)
  clear h hb
  go_enter Tryd.func39, Tryd.ntmps39
  by_cases h0a : 1 ≤ x0
  rotate_left
  · obtain rfl := HF.out (fun h => h0a (by exact h.1.1))
    have k0a : decide (x0 < 1) = true := decide_eq_true (by omega)
    go_wp2_with fail
    go_ret
    exact ⟨rfl, Below.refl _ _⟩
  have k0a : decide (x0 < 1) = false := decide_eq_false (by omega)
  by_cases h0b : x0 ≤ 1000000000
  rotate_left
  · obtain rfl := HF.out (fun h => h0b (by exact h.1.2))
    have k0b : decide (1000000000 < x0) = true := decide_eq_true (by omega)
    go_wp2_with fail
    go_ret
    exact ⟨rfl, Below.refl _ _⟩
  have k0b : decide (1000000000 < x0) = false := decide_eq_false (by omega)
  by_cases h1 : x1.size = 32
  rotate_left
  · obtain rfl := HF.out (fun h => h1 (by exact h.2.1))
    have K1 := Lib.hid (isKey_any x1 false ⟨fun e => (by cases e), fun e => absurd e h1⟩ w)
    clear h1
    go_wp2_with fail
    refine (K1.out).mono ?_
    rintro e Z9 ⟨rfl, hz9⟩
    rw [hz9]
    clear hz9 Z9 K1
    go_wp2_with fail
    go_ret
    exact ⟨rfl, Below.refl _ _⟩
  have K1 := Lib.hid (isKey_any x1 true ⟨fun _ => h1, fun _ => rfl⟩ w)
  go_wp2_with fail
  refine (K1.out).mono ?_
  rintro e Z9 ⟨rfl, hz9⟩
  rw [hz9]
  clear hz9 Z9 K1
  by_cases h2 : x2.size = 32
  rotate_left
  · obtain rfl := HF.out (fun h => h2 (by exact h.2.2.1))
    have K2 := Lib.hid (isKey_any x2 false ⟨fun e => (by cases e), fun e => absurd e h2⟩ w)
    clear h2
    go_wp2_with fail
    refine (K2.out).mono ?_
    rintro e Z9 ⟨rfl, hz9⟩
    rw [hz9]
    clear hz9 Z9 K2
    go_wp2_with fail
    go_ret
    exact ⟨rfl, Below.refl _ _⟩
  have K2 := Lib.hid (isKey_any x2 true ⟨fun _ => h2, fun _ => rfl⟩ w)
  go_wp2_with fail
  refine (K2.out).mono ?_
  rintro e Z9 ⟨rfl, hz9⟩
  rw [hz9]
  clear hz9 Z9 K2
  by_cases h3a : 0 ≤ x3
  rotate_left
  · obtain rfl := HF.out (fun h => h3a (by exact h.2.2.2.1.1))
    have k3a : decide (x3 < 0) = true := decide_eq_true (by omega)
    go_wp2_with fail
    go_ret
    exact ⟨rfl, Below.refl _ _⟩
  have k3a : decide (x3 < 0) = false := decide_eq_false (by omega)
  by_cases h3b : x3 ≤ 12
  rotate_left
  · obtain rfl := HF.out (fun h => h3b (by exact h.2.2.2.1.2))
    have k3b : decide (12 < x3) = true := decide_eq_true (by omega)
    go_wp2_with fail
    go_ret
    exact ⟨rfl, Below.refl _ _⟩
  have k3b : decide (12 < x3) = false := decide_eq_false (by omega)
  by_cases h5a : 0 ≤ x5
  rotate_left
  · obtain rfl := HF.out (fun h => h5a (by exact h.2.2.2.2.2.1))
    have k5a : decide (x5 < 0) = true := decide_eq_true (by omega)
    go_wp2_with fail
    go_ret
    exact ⟨rfl, Below.refl _ _⟩
  have k5a : decide (x5 < 0) = false := decide_eq_false (by omega)
  by_cases h5b : x5 ≤ 1000000000
  rotate_left
  · obtain rfl := HF.out (fun h => h5b (by exact h.2.2.2.2.2.2))
    have k5b : decide (1000000000 < x5) = true := decide_eq_true (by omega)
    go_wp2_with fail
    go_ret
    exact ⟨rfl, Below.refl _ _⟩
  have k5b : decide (1000000000 < x5) = false := decide_eq_false (by omega)
  have K := Lib.hid (implSeenOk_bool r4 _ b ⟨fun e => (HB.out.1 e).2.2.2.2.1, fun e => HB.out.2 ⟨⟨h0a, h0b⟩, h1, h2, ⟨h3a, h3b⟩, e, ⟨h5a, h5b⟩⟩⟩ hl hwf w HR.out)
  go_wp2_with fail
  refine (K.out).mono ?_
  rintro e Z ⟨rfl, hb⟩
  go_wp2_with fail
  go_ret
  exact ⟨rfl, hb⟩
set_option maxRecDepth 100000 in
set_option maxHeartbeats 3200000 in
theorem implSlotOk_any (x0 : Int) (x1 x2 : ByteArray) (x3 : Int) (v4 : Value) (r4 : List Int) (x5 : Int) (b : Bool) (hb : b = true ↔ SlotP x0 x1 x2 x3 r4 x5) (hl : r4.length ≤ 100000000) (hwf : ∀ x ∈ r4, IntZ x) (w : World) (h : layIntS.rd w [v4] r4) :
    Calls Tryd.prog 61 #[.agg #[.int .i64 x0, .string x1, .string x2, .int .i64 x3, v4, .int .i64 x5]] w fun e w' => e = .returned (.bool b) ∧ Below w.heap.size w w' := by
  obtain ⟨a4, p4, rfl⟩ := rows_form h
  have A0 := Lib.hid (VarA.new w SlotT #[.int .i64 x0, .string x1, .string x2, .int .i64 x3, .slice a4 r4.length p4, .int .i64 x5])
  have B0 := Lib.hid ((Below.refl w.heap.size w).alloc (Nat.le_refl _) (.cells #[.int .i64 x0, .string x1, .string x2, .int .i64 x3, .slice a4 r4.length p4, .int .i64 x5] SlotT))
  have HR := Lib.hid (layIntS.below h B0.out)
  have HB := Lib.hid hb
  clear h hb
  have gd := markGuard
  go_enter Tryd.func61, Tryd.ntmps61
  go_upto_region 1 with fail
  generalize (w.alloc (.cells #[.int .i64 x0, .string x1, .string x2, .int .i64 x3, .slice a4 r4.length p4, .int .i64 x5] SlotT)) = Y at *
  have c0 : Y.cell? ⟨w.heap.size, 0, none⟩ = some (.int .i64 x0) := A0.out.cell 0
  have c1 : Y.cell? ⟨w.heap.size, 1, none⟩ = some (.string x1) := A0.out.cell 1
  have c2 : Y.cell? ⟨w.heap.size, 2, none⟩ = some (.string x2) := A0.out.cell 2
  have c3 : Y.cell? ⟨w.heap.size, 3, none⟩ = some (.int .i64 x3) := A0.out.cell 3
  have c4 : Y.cell? ⟨w.heap.size, 4, none⟩ = some (.slice a4 r4.length p4) := A0.out.cell 4
  have c5 : Y.cell? ⟨w.heap.size, 5, none⟩ = some (.int .i64 x5) := A0.out.cell 5
  have K := Lib.hid (markOf_any x0 x1 x2 x3 _ r4 x5 Y HR.out)
  by_cases hn : NoneP x0 x1 x2 x3 r4 x5
  · obtain rfl : b = true := HB.out.2 (.inl hn)
    have Q := mark_eq 9998 x0 x1 x2 x3 r4 x5 true ⟨fun _ => hn, fun _ => rfl⟩
    clear hn
    go_wp2_with fail
    refine (K.out).mono ?_
    rintro e Z ⟨rfl, hb⟩
    replace B0 := Lib.hid (B0.out.trans (hb.mono B0.out.size))
    clear hb K c0 c1 c2 c3 c4 c5
    go_wp2_with fail
    go_ret
    exact ⟨rfl, B0.out⟩
  · have Q := mark_eq 9998 x0 x1 x2 x3 r4 x5 false ⟨fun e => (by cases e), fun e => absurd e hn⟩
    go_wp2_with fail
    refine (K.out).mono ?_
    rintro e Z ⟨rfl, hb⟩
    replace B0 := Lib.hid (B0.out.trans (hb.mono B0.out.size))
    replace A0 := Lib.hid (A0.out.next hb)
    replace HR := Lib.hid (layIntS.below HR.out hb)
    clear hb K c0 c1 c2 c3 c4 c5
    have K := Lib.hid (hasKeys_bool w.heap.size x0 x1 x2 x3 _ r4 x5 b ⟨fun e => (HB.out.1 e).elim (fun k => absurd k hn) id, fun e => HB.out.2 (.inr e)⟩ hl hwf Z HR.out (A0.out.cell 0) (A0.out.cell 1) (A0.out.cell 2) (A0.out.cell 3) (A0.out.cell 4) (A0.out.cell 5))
    go_wp2_with fail
    refine (K.out).mono ?_
    rintro e Z2 ⟨rfl, hb⟩
    replace B0 := Lib.hid (B0.out.trans (hb.mono B0.out.size))
    clear hb K
    go_wp2_with fail
    go_ret
    exact ⟨rfl, B0.out⟩
end Go.Proofs.YtoaifgblbfdncabDoor
namespace Go.Proofs.YtoaifgblbfdncabDoor

abbrev LSsT : TypeId := 34

end Go.Proofs.YtoaifgblbfdncabDoor
namespace Go.Proofs.YtoaifgblbfdncabDoor
open Go.ChangeShapes Go.WideShapes Go.RowKit

set_option maxRecDepth 100000 in
theorem opensSsA {H : Type} (enc : TypeId × Value → H) (W : World) : Opens enc Tryd.prog W laySlots LSsT (fun x => SlW x.1 ∧ SlW x.2) := by
  refine Opens.struct (A := laySlots) Tryd.underlying34 (by kernel_rfl) ?_
  refine OpensF.cons (A := laySlot) (B := laySlot) (G := SlW) (K := SlW) rfl (by kernel_rfl) (opensSlA enc W) ?_
  exact OpensF.last (A := laySlot) rfl (by kernel_rfl) (opensSlA enc W)
set_option maxRecDepth 100000 in
theorem open_slots {H : Type} {enc : TypeId × Value → H} {W : World} {r : Reach} {base : Nat} {v : Value} {d : DataW H} {p : List MemPlace} (hok : Value.okWide Tryd.prog W r base LSsT v) (h : DataW.Trod enc Tryd.prog W 0 (fun _ => true) true LSsT v d p) :
    ∃ (x0 : Int) (x1 x2 : ByteArray) (x3 : Int) (v4 : Value) (r4 : List Int) (x5 : Int) (y0 : Int) (y1 y2 : ByteArray) (y3 : Int) (u4 : Value) (s4 : List Int) (y5 : Int), v = .agg #[.int .i64 x0, .string x1, .string x2, .int .i64 x3, v4, .int .i64 x5, .int .i64 y0, .string y1, .string y2, .int .i64 y3, u4, .int .i64 y5] ∧ layIntS.rd W [v4] r4 ∧ layIntS.rd W [u4] s4 ∧ SlG x0 x1 x2 x3 r4 x5 ∧ SlG y0 y1 y2 y3 s4 y5 := by
  obtain ⟨cs, x, rfl, hx, hg⟩ := Opens.agg (opensSsA enc W) Tryd.underlying34 hok h
  obtain ⟨v4, u4, rfl, h2, h3⟩ := laySlots_rd.1 hx
  exact ⟨_, _, _, _, v4, _, _, _, _, _, _, u4, _, _, rfl, h2, h3, hg.1.good, hg.2.good⟩

end Go.Proofs.YtoaifgblbfdncabDoor
