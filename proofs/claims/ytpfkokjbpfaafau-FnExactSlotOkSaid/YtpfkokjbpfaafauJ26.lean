/-
  The exact law on SlotOk, out of one answer that both give.
  The exact law on SlotOk, at every argument.
-/
import Derived.Test.YtpfkokjbpfaafauJ18
import Derived.Deep.RegionHeld3
import Derived.Test.YtpfkokjbpfaafauJ19
import Derived.Test.YtpfkokjbpfaafauJ16
namespace Go.Proofs.Ytpfkokjbpfaafau
open Go.RowKit

set_option maxRecDepth 100000 in
set_option maxHeartbeats 6400000 in
theorem lawSlotOkF (x0 : Int) (x1 x2 : ByteArray) (x3 : Int) (v4 : Value) (r4 : List Int) (x5 : Int) (m1 : x1.size ≤ 9223372036854775807) (m2 : x2.size ≤ 9223372036854775807) (m4 : RoomInt r4) (b : Bool) (hI : FitsSlot x1 x2 r4 → ∀ (v4 : Value) (X : World), layIntS.rd X [v4] r4 → Calls Try.prog 9 #[.agg #[.int .i64 x0, .string x1, .string x2, .int .i64 x3, v4, .int .i64 x5]] X fun e Y => e = .returned (.bool b) ∧ Below X.heap.size X Y) (hS : FitsSlot x1 x2 r4 → ∀ (v4 : Value) (X : World), layIntS.rd X [v4] r4 → Calls Try.prog 7 #[.agg #[.int .i64 x0, .string x1, .string x2, .int .i64 x3, v4, .int .i64 x5]] X fun e Y => e = .returned (.bool b) ∧ Below X.heap.size X Y)
    (w : World) (ha : layIntS.rd w [v4] r4) :
    Calls Try.prog 3 #[.agg #[.int .i64 x0, .string x1, .string x2, .int .i64 x3, v4, .int .i64 x5]] w fun e w' => e = .returned (.bool true) ∧ Below w.heap.size w w' := by
  obtain ⟨a4, p4, rfl⟩ := rows_form ha
  have HA := Lib.hid ha
  have HI := Lib.hid hI
  have HS := Lib.hid hS
  have hbb : (b != b) = false := by cases b <;> rfl
  have A0 := Lib.hid (VarA.new w LSlT #[.int .i64 x0, .string x1, .string x2, .int .i64 x3, .slice a4 r4.length p4, .int .i64 x5])
  have B0 := Lib.hid ((Below.refl w.heap.size w).alloc (Nat.le_refl _) (.cells #[.int .i64 x0, .string x1, .string x2, .int .i64 x3, .slice a4 r4.length p4, .int .i64 x5] LSlT))
  clear hI hS ha
  go_enter Try.func3, Try.ntmps3
  go_upto_region 1 with fail
  generalize w.alloc (.cells #[.int .i64 x0, .string x1, .string x2, .int .i64 x3, .slice a4 r4.length p4, .int .i64 x5] LSlT) = Y0 at *
  have c0 : Y0.cell? ⟨w.heap.size, 0, none⟩ = some (.int .i64 x0) := A0.out.cell 0
  have c1 : Y0.cell? ⟨w.heap.size, 1, none⟩ = some (.string x1) := A0.out.cell 1
  have c2 : Y0.cell? ⟨w.heap.size, 2, none⟩ = some (.string x2) := A0.out.cell 2
  have c3 : Y0.cell? ⟨w.heap.size, 3, none⟩ = some (.int .i64 x3) := A0.out.cell 3
  have c4 : Y0.cell? ⟨w.heap.size, 4, none⟩ = some (.slice a4 r4.length p4) := A0.out.cell 4
  have c5 : Y0.cell? ⟨w.heap.size, 5, none⟩ = some (.int .i64 x5) := A0.out.cell 5
  have KZ := Lib.hid (szSlot_any x0 x1 x2 x3 _ r4 x5 1048576 (by omega) (by omega) m1 m2 m4 Y0 (layIntS.below HA.out B0.out))
  go_wp2_with fail
  refine (KZ.out).mono ?_
  rintro e Y1 ⟨⟨z, rfl, hz⟩, hb⟩
  replace A0 := Lib.hid (A0.out.next hb)
  replace B0 := Lib.hid (B0.out.trans (hb.mono B0.out.size))
  clear hb KZ c0 c1 c2 c3 c4 c5
  rcases hz with rfl | ⟨hz0, hz1, hfit⟩
  · go_wp2_with fail
    go_ret
    exact ⟨rfl, B0.out⟩
  have hz2 : ¬ (z < 0) := by omega
  have HF1 := Lib.hid hfit
  have TT : Hid (∀ X, Below w.heap.size w X → Calls Try.prog 8 #[.agg #[.int .i64 x0, .string x1, .string x2, .int .i64 x3, .slice a4 r4.length p4, .int .i64 x5]] X (SlotMade x0 x1 x2 x3 r4 x5 X)) := Lib.hid (fun X hX => toSlot_made x0 x1 x2 x3 _ r4 x5 X (layIntS.below HA.out hX) HF1.out.2.2)
  clear hfit hz0 hz1
  have c0 : Y1.cell? ⟨w.heap.size, 0, none⟩ = some (.int .i64 x0) := A0.out.cell 0
  have c1 : Y1.cell? ⟨w.heap.size, 1, none⟩ = some (.string x1) := A0.out.cell 1
  have c2 : Y1.cell? ⟨w.heap.size, 2, none⟩ = some (.string x2) := A0.out.cell 2
  have c3 : Y1.cell? ⟨w.heap.size, 3, none⟩ = some (.int .i64 x3) := A0.out.cell 3
  have c4 : Y1.cell? ⟨w.heap.size, 4, none⟩ = some (.slice a4 r4.length p4) := A0.out.cell 4
  have c5 : Y1.cell? ⟨w.heap.size, 5, none⟩ = some (.int .i64 x5) := A0.out.cell 5
  go_wp2_with fail
  refine (TT.out Y1 B0.out).mono ?_
  rintro e Y2 ⟨v5, f5, rfl, hd, o1, hb⟩
  obtain ⟨ta, tk, rfl⟩ := rows_form (layIntS.read o1)
  have KS := Lib.hid (HS.out HF1.out _ Y2 (layIntS.read o1))
  replace A0 := Lib.hid (A0.out.next hb)
  replace B0 := Lib.hid (B0.out.trans (hb.mono B0.out.size))
  clear hb o1 hd f5 c0 c1 c2 c3 c4 c5
  go_wp2_with fail
  refine (KS.out).mono ?_
  rintro e Y3 ⟨rfl, hb⟩
  replace A0 := Lib.hid (A0.out.next hb)
  replace B0 := Lib.hid (B0.out.trans (hb.mono B0.out.size))
  clear hb KS
  go_upto_region 6 with fail
  have c0 : Y3.cell? ⟨w.heap.size, 0, none⟩ = some (.int .i64 x0) := A0.out.cell 0
  have c1 : Y3.cell? ⟨w.heap.size, 1, none⟩ = some (.string x1) := A0.out.cell 1
  have c2 : Y3.cell? ⟨w.heap.size, 2, none⟩ = some (.string x2) := A0.out.cell 2
  have c3 : Y3.cell? ⟨w.heap.size, 3, none⟩ = some (.int .i64 x3) := A0.out.cell 3
  have c4 : Y3.cell? ⟨w.heap.size, 4, none⟩ = some (.slice a4 r4.length p4) := A0.out.cell 4
  have c5 : Y3.cell? ⟨w.heap.size, 5, none⟩ = some (.int .i64 x5) := A0.out.cell 5
  go_wp2_with fail
  refine (TT.out Y3 B0.out).mono ?_
  rintro e Y4 ⟨v5, f5, rfl, hd, o1, hb⟩
  obtain ⟨xa, xk, rfl⟩ := rows_form (layIntS.read o1)
  have hal : Below Y4.heap.size Y4 (Y4.alloc (.cells #[.int .i64 x0, .string x1, .string x2, .int .i64 x3, .slice xa r4.length xk, .int .i64 x5] SlotT)) := (Below.refl _ _).alloc (Nat.le_refl _) _
  have RX := Lib.hid (layIntS.below (layIntS.read o1) hal)
  have VX := Lib.hid (VarA.new Y4 SlotT #[.int .i64 x0, .string x1, .string x2, .int .i64 x3, .slice xa r4.length xk, .int .i64 x5])
  replace A0 := Lib.hid ((A0.out.next hb).next hal)
  replace B0 := Lib.hid ((B0.out.trans (hb.mono B0.out.size)).trans (hal.mono (Nat.le_trans B0.out.size hb.size)))
  clear hb hal o1 hd f5 c0 c1 c2 c3 c4 c5
  go_upto_region 7 with fail
  generalize Y4.alloc (.cells #[.int .i64 x0, .string x1, .string x2, .int .i64 x3, .slice xa r4.length xk, .int .i64 x5] SlotT) = Y5 at *
  generalize Y4.heap.size = gx at *
  have c0 : Y5.cell? ⟨gx, 0, none⟩ = some (.int .i64 x0) := VX.out.cell 0
  have c1 : Y5.cell? ⟨gx, 1, none⟩ = some (.string x1) := VX.out.cell 1
  have c2 : Y5.cell? ⟨gx, 2, none⟩ = some (.string x2) := VX.out.cell 2
  have c3 : Y5.cell? ⟨gx, 3, none⟩ = some (.int .i64 x3) := VX.out.cell 3
  have c4 : Y5.cell? ⟨gx, 4, none⟩ = some (.slice xa r4.length xk) := VX.out.cell 4
  have c5 : Y5.cell? ⟨gx, 5, none⟩ = some (.int .i64 x5) := VX.out.cell 5
  have KI := Lib.hid (HI.out HF1.out _ Y5 RX.out)
  go_wp2_with fail
  refine (KI.out).mono ?_
  rintro e Y6 ⟨rfl, hb⟩
  replace A0 := Lib.hid (A0.out.next hb)
  replace B0 := Lib.hid (B0.out.trans (hb.mono B0.out.size))
  replace VX := Lib.hid (VX.out.next hb)
  replace RX := Lib.hid (layIntS.below RX.out hb)
  clear hb KI c0 c1 c2 c3 c4 c5
  have qv : ∀ X Y, (Hid (VarA w.heap.size LSlT #[.int .i64 x0, .string x1, .string x2, .int .i64 x3, .slice a4 r4.length p4, .int .i64 x5] X ∧ VarA gx SlotT #[.int .i64 x0, .string x1, .string x2, .int .i64 x3, .slice xa r4.length xk, .int .i64 x5] X ∧ Below w.heap.size w X ∧ (layIntS.rd X [.slice xa r4.length xk] r4))) → Below X.heap.size X Y → (Hid (VarA w.heap.size LSlT #[.int .i64 x0, .string x1, .string x2, .int .i64 x3, .slice a4 r4.length p4, .int .i64 x5] Y ∧ VarA gx SlotT #[.int .i64 x0, .string x1, .string x2, .int .i64 x3, .slice xa r4.length xk, .int .i64 x5] Y ∧ Below w.heap.size w Y ∧ (layIntS.rd Y [.slice xa r4.length xk] r4))) := fun X Y h hb => Lib.hid ⟨h.out.1.next hb, h.out.2.1.next hb, h.out.2.2.1.trans (hb.mono h.out.2.2.1.size), layIntS.below h.out.2.2.2 hb⟩
  have hdr : Below Y6.heap.size Y6 Y6.drew := (Below.refl _ _).drew
  have E0 : Hid (VarA w.heap.size LSlT #[.int .i64 x0, .string x1, .string x2, .int .i64 x3, .slice a4 r4.length p4, .int .i64 x5] Y6.drew ∧ VarA gx SlotT #[.int .i64 x0, .string x1, .string x2, .int .i64 x3, .slice xa r4.length xk, .int .i64 x5] Y6.drew ∧ Below w.heap.size w Y6.drew ∧ (layIntS.rd Y6.drew [.slice xa r4.length xk] r4)) := Lib.hid ⟨A0.out.drew, VX.out.drew, B0.out.drew, layIntS.below RX.out hdr⟩
  go_wp2_with fail
  clear hdr A0 VX B0 RX
  refine wp_region_held_drew (S := fun X => Hid (VarA w.heap.size LSlT #[.int .i64 x0, .string x1, .string x2, .int .i64 x3, .slice a4 r4.length p4, .int .i64 x5] X ∧ VarA gx SlotT #[.int .i64 x0, .string x1, .string x2, .int .i64 x3, .slice xa r4.length xk, .int .i64 x5] X ∧ Below w.heap.size w X ∧ (layIntS.rd X [.slice xa r4.length xk] r4))) (by kernel_rfl) E0 (fun hHeld => ?_)
  clear E0
  generalize Y6.drew = X0 at *
  refine wpAnyH_take (i := 0) (v := ?_) rfl (by kernel_rfl) (by kernel_rfl) (by kernel_rfl) (fun _ _ _ h => h) (Or.inl ⟨by kernel_rfl, ?_⟩) hHeld ?_
  rotate_left
  · intro X hX
    have yy0 : X.cell? ⟨gx, 0, none⟩ = some (.int .i64 x0) := hX.out.2.1.cell 0
    have yy1 : X.cell? ⟨gx, 1, none⟩ = some (.string x1) := hX.out.2.1.cell 1
    have yy2 : X.cell? ⟨gx, 2, none⟩ = some (.string x2) := hX.out.2.1.cell 2
    have yy3 : X.cell? ⟨gx, 3, none⟩ = some (.int .i64 x3) := hX.out.2.1.cell 3
    have yy4 : X.cell? ⟨gx, 4, none⟩ = some (.slice xa r4.length xk) := hX.out.2.1.cell 4
    have yy5 : X.cell? ⟨gx, 5, none⟩ = some (.int .i64 x5) := hX.out.2.1.cell 5
    first | (go_simp; done) | (go_simp; with_reducible rfl)
  try simp only [Act.put, List.getElem_toArray, List.getElem_cons_zero, List.setIfInBounds_toArray, List.set_cons_zero, List.set_cons_succ]
  refine wpAnyH_take (i := 1) (v := ?_) rfl (by kernel_rfl) (by kernel_rfl) (by kernel_rfl) (fun _ _ _ h => h) (Or.inl ⟨by kernel_rfl, ?_⟩) hHeld ?_
  rotate_left
  · intro X hX
    have yy0 : X.cell? ⟨w.heap.size, 0, none⟩ = some (.int .i64 x0) := hX.out.1.cell 0
    have yy1 : X.cell? ⟨w.heap.size, 1, none⟩ = some (.string x1) := hX.out.1.cell 1
    have yy2 : X.cell? ⟨w.heap.size, 2, none⟩ = some (.string x2) := hX.out.1.cell 2
    have yy3 : X.cell? ⟨w.heap.size, 3, none⟩ = some (.int .i64 x3) := hX.out.1.cell 3
    have yy4 : X.cell? ⟨w.heap.size, 4, none⟩ = some (.slice a4 r4.length p4) := hX.out.1.cell 4
    have yy5 : X.cell? ⟨w.heap.size, 5, none⟩ = some (.int .i64 x5) := hX.out.1.cell 5
    first | (go_simp; done) | (go_simp; with_reducible rfl)
  try simp only [Act.put, List.getElem_toArray, List.getElem_cons_succ, List.getElem_cons_zero, List.setIfInBounds_toArray, List.set_cons_zero, List.set_cons_succ]
  refine wpAnyH_ready (rs := [2]) (by kernel_rfl) (by simp) ?_
  refine AllReadyH.cons rfl (fun K hK => ?_) AllReadyH.nil
  go_simp
  go_wp2_with (go_at_call 8; refine (TT.out X0 hHeld.out.2.2.1).mono ?_; rintro e X1 ⟨v5, f5, rfl, hd, o1, hb⟩; obtain ⟨ta, tk, rfl⟩ := rows_form (layIntS.read o1); have hS := qv _ _ hHeld hb; have R1 := Lib.hid (layIntS.read o1); clear hb o1 hd f5)
  refine hK.out _ _ hS (fun hHeld => ?_)
  clear hK K hS
  try simp only [Act.put, List.getElem_toArray, List.getElem_cons_succ, List.getElem_cons_zero, List.setIfInBounds_toArray, List.set_cons_zero, List.set_cons_succ]
  refine wpAnyH_ready (rs := [3]) (by kernel_rfl) (by simp) ?_
  refine AllReadyH.cons rfl (fun K hK => ?_) AllReadyH.nil
  have KE := Lib.hid (eqSlot_same x0 x1 x2 x3 _ _ r4 x5 X1 hHeld.out.2.2.2 R1.out (by have := HF1.out.2.2; unfold FitsInt at this; omega))
  go_simp
  go_wp2_with (go_at_call 10; refine (KE.out).mono ?_; rintro e X2 ⟨rfl, hb⟩; have hS := qv _ _ hHeld hb; clear hb)
  refine hK.out _ _ hS (fun hHeld => ?_)
  clear hK K hS KE R1
  try simp only [Act.put, List.getElem_toArray, List.getElem_cons_succ, List.getElem_cons_zero, List.setIfInBounds_toArray, List.set_cons_zero, List.set_cons_succ]
  refine wpAnyH_take (i := 4) (v := ?_) rfl (by kernel_rfl) (by kernel_rfl) (by kernel_rfl) (fun _ _ _ h => h) (Or.inl ⟨by kernel_rfl, ?_⟩) hHeld ?_
  rotate_left
  · intro X hX
    first | (go_simp; done) | (go_simp; with_reducible rfl)
  try simp only [Act.put, List.getElem_toArray, List.getElem_cons_succ, List.getElem_cons_zero, List.setIfInBounds_toArray, List.set_cons_zero, List.set_cons_succ]
  refine wpAnyH_done (by kernel_rfl) ?_ _
  have hz9 := hHeld.out.2.2.1
  clear hHeld
  go_wp2_with fail
  go_ret
  exact ⟨rfl, hz9⟩

end Go.Proofs.Ytpfkokjbpfaafau
namespace Go.Proofs.Ytpfkokjbpfaafau
open Go.RowKit

theorem lawSlotOk (x0 : Int) (x1 x2 : ByteArray) (x3 : Int) (v4 : Value) (r4 : List Int) (x5 : Int) (gx : SlG x0 x1 x2 x3 r4 x5) (w : World) (ha : layIntS.rd w [v4] r4) :
    Calls Try.prog 3 #[.agg #[.int .i64 x0, .string x1, .string x2, .int .i64 x3, v4, .int .i64 x5]] w fun e w' => e = .returned (.bool true) ∧ Below w.heap.size w w' := by
  obtain ⟨b, hbb⟩ : ∃ b : Bool, b = true ↔ SlotP x0 x1 x2 x3 r4 x5 := by
    by_cases h : SlotP x0 x1 x2 x3 r4 x5
    · exact ⟨true, fun _ => h, fun _ => rfl⟩
    · exact ⟨false, fun e => (by cases e), fun e => absurd e h⟩
  exact lawSlotOkF x0 x1 x2 x3 v4 r4 x5 gx.s1 gx.s2 gx.r b (fun f1 v X h => implSlotOk_bool x0 x1 x2 x3 v r4 x5 b hbb f1 gx X h) (fun f1 v X h => specSlotOk_bool x0 x1 x2 x3 v r4 x5 b hbb (by have := f1.2.2; unfold FitsInt at this; omega) X h) w ha

end Go.Proofs.Ytpfkokjbpfaafau
