/-
  The exact laws on PacketOk and PacketText, out of one answer that both give.
  The exact law on PacketText, at every argument.
-/
import Derived.Test.YtdhacjpdlmnlmaqDoorJ18
import Derived.Deep.RegionHeld3
import Derived.Test.YtdhacjpdlmnlmaqDoorJ12
import Derived.Test.YtdhacjpdlmnlmaqDoorJ15
namespace Go.Proofs.YtdhacjpdlmnlmaqDoor
open Go.RowKit

/-- The law's own variables: the argument's, and the one of its copy. -/
structure EK (w : World) (op key fr dst num : Int) (va vx : Value) (gx : Nat) (xs : List Int) (body : ByteArray) (X : World) : Prop where
  box : VarA w.heap.size LPkT #[.int .i64 op, .int .i64 key, .int .i64 fr, .int .i64 dst, .int .i64 num, va, .string body] X
  var : VarA gx PkT #[.int .i64 op, .int .i64 key, .int .i64 fr, .int .i64 dst, .int .i64 num, vx, .string body] X
  row : layIntS.rd X [vx] xs
  below : Below w.heap.size w X
theorem EK.next {w : World} {op key fr dst num : Int} {va vx : Value} {gx : Nat} {xs : List Int} {body : ByteArray} {X Y : World} (h : EK w op key fr dst num va vx gx xs body X) (hb : Below X.heap.size X Y) : EK w op key fr dst num va vx gx xs body Y := ⟨h.box.next hb, h.var.next hb, layIntS.below h.row hb, h.below.trans (hb.mono h.below.size)⟩

set_option maxRecDepth 100000 in
set_option maxHeartbeats 3200000 in
/-- The exact law on PacketText, out of one answer that both give. -/
theorem lawPacketTextF (L : World → Prop) (stays : ∀ X Y, L X → Below X.heap.size X Y → L Y) (op key fr dst num : Int) (va : Value) (xs : List Int) (body : ByteArray) (s : ByteArray) (b : Bool) (hl : xs.length + body.size ≤ 1048576)
    (hI : ∀ (v : Value) (X : World), L X → layIntS.rd X [v] xs → Calls Tryd.prog 7 #[.agg #[.int .i64 op, .int .i64 key, .int .i64 fr, .int .i64 dst, .int .i64 num, v, .string body]] X fun e X' => e = .returned (.tuple #[.string s, .bool b]) ∧ Below X.heap.size X X')
    (hS : ∀ (v : Value) (X : World), layIntS.rd X [v] xs → Calls Tryd.prog 5 #[.agg #[.int .i64 op, .int .i64 key, .int .i64 fr, .int .i64 dst, .int .i64 num, v, .string body]] X fun e X' => e = .returned (.tuple #[.string s, .bool b]) ∧ Below X.heap.size X X')
    (w : World) (ha : layIntS.rd w [va] xs) (ht : L w) :
    Calls Tryd.prog 3 #[.agg #[.int .i64 op, .int .i64 key, .int .i64 fr, .int .i64 dst, .int .i64 num, va, .string body]] w fun e w' => e = .returned (.bool true) ∧ Below w.heap.size w w' := by
  obtain ⟨a, cp, rfl⟩ := rows_form ha
  have HI := Lib.hid hI
  have HS := Lib.hid hS
  have HT : Hid (∀ X, Below w.heap.size w X → L X) := fun X hX => stays w X ht hX
  have TT : Hid (∀ X : World, Below w.heap.size w X → Calls Tryd.prog 6 #[.agg #[.int .i64 op, .int .i64 key, .int .i64 fr, .int .i64 dst, .int .i64 num, .slice a xs.length cp, .string body]] X (PkMade op key fr dst num xs body X)) := fun X hX => toPacket_any op key fr dst num _ xs body (by omega) X (layIntS.below ha hX)
  have H0 := Lib.hid (szPacket_any op key fr dst num a xs.length cp body (by omega) (by omega))
  rw [if_neg (by omega)] at H0
  have hneg : ¬ ((1048576 : Int) - (xs.length : Int) - (body.size : Int) < 0) := by omega
  have A0 := Lib.hid (VarA.new w LPkT #[.int .i64 op, .int .i64 key, .int .i64 fr, .int .i64 dst, .int .i64 num, .slice a xs.length cp, .string body])
  have B0 := Lib.hid ((Below.refl w.heap.size w).alloc (Nat.le_refl _) (.cells #[.int .i64 op, .int .i64 key, .int .i64 fr, .int .i64 dst, .int .i64 num, .slice a xs.length cp, .string body] LPkT))
  clear hI hS ha ht stays
  go_enter Tryd.func3, Tryd.ntmps3
  go_upto_region 1 with fail
  generalize w.alloc (.cells #[.int .i64 op, .int .i64 key, .int .i64 fr, .int .i64 dst, .int .i64 num, .slice a xs.length cp, .string body] LPkT) = Y0 at *
  have c0 : Y0.cell? ⟨w.heap.size, 0, none⟩ = some (.int .i64 op) := A0.out.cell 0
  have c1 : Y0.cell? ⟨w.heap.size, 1, none⟩ = some (.int .i64 key) := A0.out.cell 1
  have c2 : Y0.cell? ⟨w.heap.size, 2, none⟩ = some (.int .i64 fr) := A0.out.cell 2
  have c3 : Y0.cell? ⟨w.heap.size, 3, none⟩ = some (.int .i64 dst) := A0.out.cell 3
  have c4 : Y0.cell? ⟨w.heap.size, 4, none⟩ = some (.int .i64 num) := A0.out.cell 4
  have c5 : Y0.cell? ⟨w.heap.size, 5, none⟩ = some (.slice a xs.length cp) := A0.out.cell 5
  have c6 : Y0.cell? ⟨w.heap.size, 6, none⟩ = some (.string body) := A0.out.cell 6
  go_wp2_with fail
  refine (H0.out _).mono ?_
  rintro e Y1 ⟨rfl, hb1⟩
  replace A0 := Lib.hid (A0.out.next hb1)
  replace B0 := Lib.hid (B0.out.trans (hb1.mono B0.out.size))
  clear hb1 c0 c1 c2 c3 c4 c5 c6
  have c0 : Y1.cell? ⟨w.heap.size, 0, none⟩ = some (.int .i64 op) := A0.out.cell 0
  have c1 : Y1.cell? ⟨w.heap.size, 1, none⟩ = some (.int .i64 key) := A0.out.cell 1
  have c2 : Y1.cell? ⟨w.heap.size, 2, none⟩ = some (.int .i64 fr) := A0.out.cell 2
  have c3 : Y1.cell? ⟨w.heap.size, 3, none⟩ = some (.int .i64 dst) := A0.out.cell 3
  have c4 : Y1.cell? ⟨w.heap.size, 4, none⟩ = some (.int .i64 num) := A0.out.cell 4
  have c5 : Y1.cell? ⟨w.heap.size, 5, none⟩ = some (.slice a xs.length cp) := A0.out.cell 5
  have c6 : Y1.cell? ⟨w.heap.size, 6, none⟩ = some (.string body) := A0.out.cell 6
  go_wp2_with fail
  refine (TT.out _ B0.out).mono ?_
  rintro e Y2 ⟨a2, c2', f2', rfl, _, hr2, hb2⟩
  replace A0 := Lib.hid (A0.out.next hb2)
  replace B0 := Lib.hid (B0.out.trans (hb2.mono B0.out.size))
  have R2 := Lib.hid (layIntS.read hr2)
  clear hb2 c0 c1 c2 c3 c4 c5 c6 hr2
  go_wp2_with fail
  refine (HS.out _ _ R2.out).mono ?_
  rintro e Y3 ⟨rfl, hb3⟩
  replace A0 := Lib.hid (A0.out.next hb3)
  replace B0 := Lib.hid (B0.out.trans (hb3.mono B0.out.size))
  clear hb3 R2
  have c0 : Y3.cell? ⟨w.heap.size, 0, none⟩ = some (.int .i64 op) := A0.out.cell 0
  have c1 : Y3.cell? ⟨w.heap.size, 1, none⟩ = some (.int .i64 key) := A0.out.cell 1
  have c2 : Y3.cell? ⟨w.heap.size, 2, none⟩ = some (.int .i64 fr) := A0.out.cell 2
  have c3 : Y3.cell? ⟨w.heap.size, 3, none⟩ = some (.int .i64 dst) := A0.out.cell 3
  have c4 : Y3.cell? ⟨w.heap.size, 4, none⟩ = some (.int .i64 num) := A0.out.cell 4
  have c5 : Y3.cell? ⟨w.heap.size, 5, none⟩ = some (.slice a xs.length cp) := A0.out.cell 5
  have c6 : Y3.cell? ⟨w.heap.size, 6, none⟩ = some (.string body) := A0.out.cell 6
  go_wp2_with fail
  refine (TT.out _ B0.out).mono ?_
  rintro e Y4 ⟨x4, p4, f4, rfl, _, hr4, hb4⟩
  have hb5 : Below Y4.heap.size Y4 (Y4.alloc (.cells #[.int .i64 op, .int .i64 key, .int .i64 fr, .int .i64 dst, .int .i64 num, .slice x4 xs.length p4, .string body] PkT)) := (Below.refl _ _).alloc (Nat.le_refl _) _
  have E5 : Hid (EK w op key fr dst num (.slice a xs.length cp) (.slice x4 xs.length p4) Y4.heap.size xs body (Y4.alloc (.cells #[.int .i64 op, .int .i64 key, .int .i64 fr, .int .i64 dst, .int .i64 num, .slice x4 xs.length p4, .string body] PkT))) := ⟨(A0.out.next hb4).next hb5, VarA.new Y4 _ _, layIntS.below (layIntS.read hr4) hb5, (B0.out.trans (hb4.mono B0.out.size)).trans (hb5.mono (B0.out.trans (hb4.mono B0.out.size)).size)⟩
  clear hb4 hb5 c0 c1 c2 c3 c4 c5 c6 hr4 A0 B0
  go_upto_region 7 with fail
  generalize Y4.alloc (.cells #[.int .i64 op, .int .i64 key, .int .i64 fr, .int .i64 dst, .int .i64 num, .slice x4 xs.length p4, .string body] PkT) = Y5 at *
  generalize Y4.heap.size = gx at *
  have d0 : Y5.cell? ⟨gx, 0, none⟩ = some (.int .i64 op) := E5.out.var.cell 0
  have d1 : Y5.cell? ⟨gx, 1, none⟩ = some (.int .i64 key) := E5.out.var.cell 1
  have d2 : Y5.cell? ⟨gx, 2, none⟩ = some (.int .i64 fr) := E5.out.var.cell 2
  have d3 : Y5.cell? ⟨gx, 3, none⟩ = some (.int .i64 dst) := E5.out.var.cell 3
  have d4 : Y5.cell? ⟨gx, 4, none⟩ = some (.int .i64 num) := E5.out.var.cell 4
  have d5 : Y5.cell? ⟨gx, 5, none⟩ = some (.slice x4 xs.length p4) := E5.out.var.cell 5
  have d6 : Y5.cell? ⟨gx, 6, none⟩ = some (.string body) := E5.out.var.cell 6
  go_wp2_with fail
  refine (HI.out _ _ (HT.out _ E5.out.below) E5.out.row).mono ?_
  rintro e Y6 ⟨rfl, hb6⟩
  have E6 := Lib.hid (E5.out.next hb6)
  clear hb6 d0 d1 d2 d3 d4 d5 d6 E5
  have two : ∀ X, EK w op key fr dst num (.slice a xs.length cp) (.slice x4 xs.length p4) gx xs body X → (X.cell? ⟨w.heap.size, 0, none⟩ = some (.int .i64 op) ∧ X.cell? ⟨w.heap.size, 1, none⟩ = some (.int .i64 key) ∧ X.cell? ⟨w.heap.size, 2, none⟩ = some (.int .i64 fr) ∧ X.cell? ⟨w.heap.size, 3, none⟩ = some (.int .i64 dst) ∧ X.cell? ⟨w.heap.size, 4, none⟩ = some (.int .i64 num) ∧ X.cell? ⟨w.heap.size, 5, none⟩ = some (.slice a xs.length cp) ∧ X.cell? ⟨w.heap.size, 6, none⟩ = some (.string body) ∧ X.cell? ⟨gx, 0, none⟩ = some (.int .i64 op) ∧ X.cell? ⟨gx, 1, none⟩ = some (.int .i64 key) ∧ X.cell? ⟨gx, 2, none⟩ = some (.int .i64 fr) ∧ X.cell? ⟨gx, 3, none⟩ = some (.int .i64 dst) ∧ X.cell? ⟨gx, 4, none⟩ = some (.int .i64 num) ∧ X.cell? ⟨gx, 5, none⟩ = some (.slice x4 xs.length p4) ∧ X.cell? ⟨gx, 6, none⟩ = some (.string body) ∧ EK w op key fr dst num (.slice a xs.length cp) (.slice x4 xs.length p4) gx xs body X) := fun X h => ⟨h.box.cell 0, h.box.cell 1, h.box.cell 2, h.box.cell 3, h.box.cell 4, h.box.cell 5, h.box.cell 6, h.var.cell 0, h.var.cell 1, h.var.cell 2, h.var.cell 3, h.var.cell 4, h.var.cell 5, h.var.cell 6, h⟩
  have K1 : Hid (∀ X, (X.cell? ⟨w.heap.size, 0, none⟩ = some (.int .i64 op) ∧ X.cell? ⟨w.heap.size, 1, none⟩ = some (.int .i64 key) ∧ X.cell? ⟨w.heap.size, 2, none⟩ = some (.int .i64 fr) ∧ X.cell? ⟨w.heap.size, 3, none⟩ = some (.int .i64 dst) ∧ X.cell? ⟨w.heap.size, 4, none⟩ = some (.int .i64 num) ∧ X.cell? ⟨w.heap.size, 5, none⟩ = some (.slice a xs.length cp) ∧ X.cell? ⟨w.heap.size, 6, none⟩ = some (.string body) ∧ X.cell? ⟨gx, 0, none⟩ = some (.int .i64 op) ∧ X.cell? ⟨gx, 1, none⟩ = some (.int .i64 key) ∧ X.cell? ⟨gx, 2, none⟩ = some (.int .i64 fr) ∧ X.cell? ⟨gx, 3, none⟩ = some (.int .i64 dst) ∧ X.cell? ⟨gx, 4, none⟩ = some (.int .i64 num) ∧ X.cell? ⟨gx, 5, none⟩ = some (.slice x4 xs.length p4) ∧ X.cell? ⟨gx, 6, none⟩ = some (.string body) ∧ EK w op key fr dst num (.slice a xs.length cp) (.slice x4 xs.length p4) gx xs body X) → Calls Tryd.prog 6 #[.agg #[.int .i64 op, .int .i64 key, .int .i64 fr, .int .i64 dst, .int .i64 num, .slice a xs.length cp, .string body]] X fun e Y => ∃ (a7 : Option Addr) (c7 : Nat), e = .returned (.agg #[.int .i64 op, .int .i64 key, .int .i64 fr, .int .i64 dst, .int .i64 num, .slice a7 xs.length c7, .string body]) ∧ layIntS.rd Y [.slice a7 xs.length c7] xs ∧ (Y.cell? ⟨w.heap.size, 0, none⟩ = some (.int .i64 op) ∧ Y.cell? ⟨w.heap.size, 1, none⟩ = some (.int .i64 key) ∧ Y.cell? ⟨w.heap.size, 2, none⟩ = some (.int .i64 fr) ∧ Y.cell? ⟨w.heap.size, 3, none⟩ = some (.int .i64 dst) ∧ Y.cell? ⟨w.heap.size, 4, none⟩ = some (.int .i64 num) ∧ Y.cell? ⟨w.heap.size, 5, none⟩ = some (.slice a xs.length cp) ∧ Y.cell? ⟨w.heap.size, 6, none⟩ = some (.string body) ∧ Y.cell? ⟨gx, 0, none⟩ = some (.int .i64 op) ∧ Y.cell? ⟨gx, 1, none⟩ = some (.int .i64 key) ∧ Y.cell? ⟨gx, 2, none⟩ = some (.int .i64 fr) ∧ Y.cell? ⟨gx, 3, none⟩ = some (.int .i64 dst) ∧ Y.cell? ⟨gx, 4, none⟩ = some (.int .i64 num) ∧ Y.cell? ⟨gx, 5, none⟩ = some (.slice x4 xs.length p4) ∧ Y.cell? ⟨gx, 6, none⟩ = some (.string body) ∧ EK w op key fr dst num (.slice a xs.length cp) (.slice x4 xs.length p4) gx xs body Y)) := fun X hX => by
    have hX2 := hX.2.2.2.2.2.2.2.2.2.2.2.2.2.2
    refine (TT.out X hX2.below).mono ?_
    rintro e Y ⟨a7, c7, f7, rfl, _, hr, hb⟩
    exact ⟨a7, c7, rfl, layIntS.read hr, two Y (hX2.next hb)⟩
  have K2 : Hid (∀ (a7 : Option Addr) (c7 : Nat) (X : World), (X.cell? ⟨w.heap.size, 0, none⟩ = some (.int .i64 op) ∧ X.cell? ⟨w.heap.size, 1, none⟩ = some (.int .i64 key) ∧ X.cell? ⟨w.heap.size, 2, none⟩ = some (.int .i64 fr) ∧ X.cell? ⟨w.heap.size, 3, none⟩ = some (.int .i64 dst) ∧ X.cell? ⟨w.heap.size, 4, none⟩ = some (.int .i64 num) ∧ X.cell? ⟨w.heap.size, 5, none⟩ = some (.slice a xs.length cp) ∧ X.cell? ⟨w.heap.size, 6, none⟩ = some (.string body) ∧ X.cell? ⟨gx, 0, none⟩ = some (.int .i64 op) ∧ X.cell? ⟨gx, 1, none⟩ = some (.int .i64 key) ∧ X.cell? ⟨gx, 2, none⟩ = some (.int .i64 fr) ∧ X.cell? ⟨gx, 3, none⟩ = some (.int .i64 dst) ∧ X.cell? ⟨gx, 4, none⟩ = some (.int .i64 num) ∧ X.cell? ⟨gx, 5, none⟩ = some (.slice x4 xs.length p4) ∧ X.cell? ⟨gx, 6, none⟩ = some (.string body) ∧ EK w op key fr dst num (.slice a xs.length cp) (.slice x4 xs.length p4) gx xs body X) → layIntS.rd X [.slice a7 xs.length c7] xs → Calls Tryd.prog 8 #[.agg #[.int .i64 op, .int .i64 key, .int .i64 fr, .int .i64 dst, .int .i64 num, .slice x4 xs.length p4, .string body], .agg #[.int .i64 op, .int .i64 key, .int .i64 fr, .int .i64 dst, .int .i64 num, .slice a7 xs.length c7, .string body]] X fun e Y => e = .returned (.bool true) ∧ (Y.cell? ⟨w.heap.size, 0, none⟩ = some (.int .i64 op) ∧ Y.cell? ⟨w.heap.size, 1, none⟩ = some (.int .i64 key) ∧ Y.cell? ⟨w.heap.size, 2, none⟩ = some (.int .i64 fr) ∧ Y.cell? ⟨w.heap.size, 3, none⟩ = some (.int .i64 dst) ∧ Y.cell? ⟨w.heap.size, 4, none⟩ = some (.int .i64 num) ∧ Y.cell? ⟨w.heap.size, 5, none⟩ = some (.slice a xs.length cp) ∧ Y.cell? ⟨w.heap.size, 6, none⟩ = some (.string body) ∧ Y.cell? ⟨gx, 0, none⟩ = some (.int .i64 op) ∧ Y.cell? ⟨gx, 1, none⟩ = some (.int .i64 key) ∧ Y.cell? ⟨gx, 2, none⟩ = some (.int .i64 fr) ∧ Y.cell? ⟨gx, 3, none⟩ = some (.int .i64 dst) ∧ Y.cell? ⟨gx, 4, none⟩ = some (.int .i64 num) ∧ Y.cell? ⟨gx, 5, none⟩ = some (.slice x4 xs.length p4) ∧ Y.cell? ⟨gx, 6, none⟩ = some (.string body) ∧ EK w op key fr dst num (.slice a xs.length cp) (.slice x4 xs.length p4) gx xs body Y)) := fun a7 c7 X hX hr => by
    have hX2 := hX.2.2.2.2.2.2.2.2.2.2.2.2.2.2
    refine (eqPacket_same op key fr dst num _ _ xs body (by omega) X hX2.row hr).mono ?_
    rintro e Y ⟨rfl, hb⟩
    exact ⟨rfl, two Y (hX2.next hb)⟩
  have E7 := Lib.hid (two _ (E6.out.next (Below.refl Y6.heap.size Y6).drew))
  clear two
  go_wp2_with fail
  go_region_held3 (fun X => X.cell? ⟨w.heap.size, 0, none⟩ = some (.int .i64 op) ∧ X.cell? ⟨w.heap.size, 1, none⟩ = some (.int .i64 key) ∧ X.cell? ⟨w.heap.size, 2, none⟩ = some (.int .i64 fr) ∧ X.cell? ⟨w.heap.size, 3, none⟩ = some (.int .i64 dst) ∧ X.cell? ⟨w.heap.size, 4, none⟩ = some (.int .i64 num) ∧ X.cell? ⟨w.heap.size, 5, none⟩ = some (.slice a xs.length cp) ∧ X.cell? ⟨w.heap.size, 6, none⟩ = some (.string body) ∧ X.cell? ⟨gx, 0, none⟩ = some (.int .i64 op) ∧ X.cell? ⟨gx, 1, none⟩ = some (.int .i64 key) ∧ X.cell? ⟨gx, 2, none⟩ = some (.int .i64 fr) ∧ X.cell? ⟨gx, 3, none⟩ = some (.int .i64 dst) ∧ X.cell? ⟨gx, 4, none⟩ = some (.int .i64 num) ∧ X.cell? ⟨gx, 5, none⟩ = some (.slice x4 xs.length p4) ∧ X.cell? ⟨gx, 6, none⟩ = some (.string body) ∧ EK w op key fr dst num (.slice a xs.length cp) (.slice x4 xs.length p4) gx xs body X) (first | (with_reducible assumption) | (with_reducible exact E7.out)) (first | (go_at_call 6; refine (K1.out _ (by assumption)).mono ?_; rintro e v1 ⟨a7, c7, rfl, hr7, hS⟩) | (go_at_call 8; refine (K2.out a7 c7 _ (by assumption) hr7).mono ?_; rintro e v2 ⟨rfl, hS⟩))
  all_goals
    have HZ := Lib.hid hS.2.2.2.2.2.2.2.2.2.2.2.2.2.2.below
    clear hS
    go_wp2_with fail
    go_ret
    exact ⟨rfl, HZ.out⟩

set_option maxRecDepth 100000 in
set_option maxHeartbeats 400000 in
theorem lawPacketText_big (op key fr dst num : Int) (a : Option Addr) (n cp : Nat) (body : ByteArray) (hn : n ≤ 9223372036854775807) (hb : body.size ≤ 9223372036854775807) (h : 1048576 < n + body.size) (w : World) :
    Calls Tryd.prog 3 #[.agg #[.int .i64 op, .int .i64 key, .int .i64 fr, .int .i64 dst, .int .i64 num, .slice a n cp, .string body]] w fun e w' => e = .returned (.bool true) ∧ Below w.heap.size w w' := by
  have H0 := Lib.hid (szPacket_any op key fr dst num a n cp body hn hb)
  rw [if_pos h] at H0
  have B0 := Lib.hid ((Below.refl w.heap.size w).alloc (Nat.le_refl _) (.cells #[.int .i64 op, .int .i64 key, .int .i64 fr, .int .i64 dst, .int .i64 num, .slice a n cp, .string body] LPkT))
  have A0 := Lib.hid (VarA.new w LPkT #[.int .i64 op, .int .i64 key, .int .i64 fr, .int .i64 dst, .int .i64 num, .slice a n cp, .string body])
  go_enter Tryd.func3, Tryd.ntmps3
  go_upto_region 1 with fail
  generalize w.alloc (.cells #[.int .i64 op, .int .i64 key, .int .i64 fr, .int .i64 dst, .int .i64 num, .slice a n cp, .string body] LPkT) = Y0 at *
  have c0 : Y0.cell? ⟨w.heap.size, 0, none⟩ = some (.int .i64 op) := A0.out.cell 0
  have c1 : Y0.cell? ⟨w.heap.size, 1, none⟩ = some (.int .i64 key) := A0.out.cell 1
  have c2 : Y0.cell? ⟨w.heap.size, 2, none⟩ = some (.int .i64 fr) := A0.out.cell 2
  have c3 : Y0.cell? ⟨w.heap.size, 3, none⟩ = some (.int .i64 dst) := A0.out.cell 3
  have c4 : Y0.cell? ⟨w.heap.size, 4, none⟩ = some (.int .i64 num) := A0.out.cell 4
  have c5 : Y0.cell? ⟨w.heap.size, 5, none⟩ = some (.slice a n cp) := A0.out.cell 5
  have c6 : Y0.cell? ⟨w.heap.size, 6, none⟩ = some (.string body) := A0.out.cell 6
  go_wp2_with fail
  refine (H0.out _).mono ?_
  rintro e Y1 ⟨rfl, hb1⟩
  have B1 := Lib.hid (B0.out.trans (hb1.mono B0.out.size))
  clear hb1 c0 c1 c2 c3 c4 c5 c6
  go_wp2_with fail
  go_ret
  exact ⟨rfl, B1.out⟩

end Go.Proofs.YtdhacjpdlmnlmaqDoor
namespace Go.Proofs.YtdhacjpdlmnlmaqDoor
open Go.RowKit

theorem lawPacketTextA (op key fr dst num : Int) (u : Value) (xs : List Int) (body : ByteArray) (hx : xs.length ≤ maxLen) (hb : body.size ≤ maxLen) (w : World) (h : layIntS.rd w [u] xs) (ht : Laid w) :
    Calls Tryd.prog 3 #[.agg #[.int .i64 op, .int .i64 key, .int .i64 fr, .int .i64 dst, .int .i64 num, u, .string body]] w fun e w' => e = .returned (.bool true) ∧ Below w.heap.size w w' := by
  unfold maxLen at hx hb
  by_cases hbig : 1048576 < xs.length + body.size
  · obtain ⟨a, cp, rfl⟩ := rows_form h
    exact lawPacketText_big op key fr dst num a xs.length cp body (by omega) (by omega) hbig w
  by_cases hy : PkOkP op key fr dst num xs body
  · exact lawPacketTextF Laid (fun _ _ h hb => h.stays hb (Nat.le_refl _)) op key fr dst num u xs body _ true (by omega) (fun v X hX hr => implPacketText_yes strGives op key fr dst num v xs body X hr hX hy) (fun v X hr => specPacketText_yes op key fr dst num v xs body X hr hy) w h ht
  · exact lawPacketTextF Laid (fun _ _ h hb => h.stays hb (Nat.le_refl _)) op key fr dst num u xs body _ false (by omega) (fun v X _ hr => implPacketText_no op key fr dst num v xs body (by omega) (by omega) X hr hy) (fun v X hr => specPacketText_no op key fr dst num v xs body (by omega) (by omega) X hr hy) w h ht

end Go.Proofs.YtdhacjpdlmnlmaqDoor
