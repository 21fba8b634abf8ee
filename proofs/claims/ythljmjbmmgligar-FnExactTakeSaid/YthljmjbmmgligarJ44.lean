/-
  The exact law on Take, out of one answer that both give.
-/
import Derived.Test.YthljmjbmmgligarJ43
namespace Go.Proofs.Ythljmjbmmgligar
open Go.RowKit

set_option maxRecDepth 100000 in
set_option maxHeartbeats 25600000 in
/-- The exact law on Take, out of one answer that both give. -/
theorem lawTakeF (n0 n1 n2 n5 : Int) (v3 v4 v6 v7 v8 : Value) (p3 : List ByteArray) (p4 : List PendingD) (p6 : List EarlyD) (p7 : List Int) (p8 : List ByteArray) (op key fr dst num : Int) (vp : Value) (acks : List Int) (body : ByteArray) (ga : acks.length ≤ 9223372036854775807) (gb : body.size ≤ 9223372036854775807) (k3 : RoomString p3) (k4 : RoomPending p4) (k6 : RoomEarly p6) (k7 : RoomInt p7) (k8 : RoomString p8) (m0 m1 m2 m5 : Int) (r3 : List ByteArray) (r4 : List PendingD) (r6 : List EarlyD) (r7 : List Int) (r8 : List ByteArray) (b : Bool) (hr : FitsChan p3 p4 p6 p7 p8 → acks.length ≤ 1048576 → body.size ≤ 1048576 → Few5 10000000 r3 r4 r6 r7 r8)
    (hI : FitsChan p3 p4 p6 p7 p8 → acks.length ≤ 1048576 → body.size ≤ 1048576 → ∀ (v3 v4 v6 v7 v8 vp : Value) (X : World), ChanRd v3 v4 v6 v7 v8 p3 p4 p6 p7 p8 X → layIntS.rd X [vp] acks → Calls Try.prog 27 #[.agg #[.int .i64 n0, .int .i64 n1, .int .i64 n2, v3, v4, .int .i64 n5, v6, v7, v8], .agg #[.int .i64 op, .int .i64 key, .int .i64 fr, .int .i64 dst, .int .i64 num, vp, .string body]] X fun e Y => ∃ v, e = .returned (.tuple #[v, .bool b]) ∧ ChanVal X m0 m1 m2 m5 r3 r4 r6 r7 r8 v Y)
    (hS : FitsChan p3 p4 p6 p7 p8 → acks.length ≤ 1048576 → body.size ≤ 1048576 → ∀ (v3 v4 v6 v7 v8 vp : Value) (X : World), ChanRd v3 v4 v6 v7 v8 p3 p4 p6 p7 p8 X → layIntS.rd X [vp] acks → Calls Try.prog 25 #[.agg #[.int .i64 n0, .int .i64 n1, .int .i64 n2, v3, v4, .int .i64 n5, v6, v7, v8], .agg #[.int .i64 op, .int .i64 key, .int .i64 fr, .int .i64 dst, .int .i64 num, vp, .string body]] X fun e Y => ∃ v, e = .returned (.tuple #[v, .bool b]) ∧ ChanVal X m0 m1 m2 m5 r3 r4 r6 r7 r8 v Y)
    (w : World) (ha : ChanRd v3 v4 v6 v7 v8 p3 p4 p6 p7 p8 w) (hp : layIntS.rd w [vp] acks) :
    Calls Try.prog 7 #[.agg #[.int .i64 n0, .int .i64 n1, .int .i64 n2, v3, v4, .int .i64 n5, v6, v7, v8], .agg #[.int .i64 op, .int .i64 key, .int .i64 fr, .int .i64 dst, .int .i64 num, vp, .string body]] w fun e w' => e = .returned (.bool true) ∧ Below w.heap.size w w' := by
  obtain ⟨b3, bc3, rfl⟩ := rows_form ha.h3
  obtain ⟨b4, bc4, rfl⟩ := rows_form ha.h4
  obtain ⟨b6, bc6, rfl⟩ := rows_form ha.h6
  obtain ⟨b7, bc7, rfl⟩ := rows_form ha.h7
  obtain ⟨b8, bc8, rfl⟩ := rows_form ha.h8
  obtain ⟨pb, pbc, rfl⟩ := rows_form hp
  have HA := Lib.hid ha
  have HP := Lib.hid hp
  have HI := Lib.hid hI
  have HS := Lib.hid hS
  have e1 : (w.alloc (.cells #[.int .i64 n0, .int .i64 n1, .int .i64 n2, .slice b3 p3.length bc3, .slice b4 p4.length bc4, .int .i64 n5, .slice b6 p6.length bc6, .slice b7 p7.length bc7, .slice b8 p8.length bc8] 36)).heap.size = w.heap.size + 1 := by simp
  have hA1 := VarA.new (w.alloc (.cells #[.int .i64 n0, .int .i64 n1, .int .i64 n2, .slice b3 p3.length bc3, .slice b4 p4.length bc4, .int .i64 n5, .slice b6 p6.length bc6, .slice b7 p7.length bc7, .slice b8 p8.length bc8] 36)) LPkT #[.int .i64 op, .int .i64 key, .int .i64 fr, .int .i64 dst, .int .i64 num, .slice pb acks.length pbc, .string body]
  rw [e1] at hA1
  have Z0 : Hid (VarA w.heap.size 36 #[.int .i64 n0, .int .i64 n1, .int .i64 n2, .slice b3 p3.length bc3, .slice b4 p4.length bc4, .int .i64 n5, .slice b6 p6.length bc6, .slice b7 p7.length bc7, .slice b8 p8.length bc8] ((w.alloc (.cells #[.int .i64 n0, .int .i64 n1, .int .i64 n2, .slice b3 p3.length bc3, .slice b4 p4.length bc4, .int .i64 n5, .slice b6 p6.length bc6, .slice b7 p7.length bc7, .slice b8 p8.length bc8] 36)).alloc (.cells #[.int .i64 op, .int .i64 key, .int .i64 fr, .int .i64 dst, .int .i64 num, .slice pb acks.length pbc, .string body] LPkT)) ∧ VarA (w.heap.size + 1) LPkT #[.int .i64 op, .int .i64 key, .int .i64 fr, .int .i64 dst, .int .i64 num, .slice pb acks.length pbc, .string body] ((w.alloc (.cells #[.int .i64 n0, .int .i64 n1, .int .i64 n2, .slice b3 p3.length bc3, .slice b4 p4.length bc4, .int .i64 n5, .slice b6 p6.length bc6, .slice b7 p7.length bc7, .slice b8 p8.length bc8] 36)).alloc (.cells #[.int .i64 op, .int .i64 key, .int .i64 fr, .int .i64 dst, .int .i64 num, .slice pb acks.length pbc, .string body] LPkT)) ∧ Below w.heap.size w ((w.alloc (.cells #[.int .i64 n0, .int .i64 n1, .int .i64 n2, .slice b3 p3.length bc3, .slice b4 p4.length bc4, .int .i64 n5, .slice b6 p6.length bc6, .slice b7 p7.length bc7, .slice b8 p8.length bc8] 36)).alloc (.cells #[.int .i64 op, .int .i64 key, .int .i64 fr, .int .i64 dst, .int .i64 num, .slice pb acks.length pbc, .string body] LPkT))) := Lib.hid ⟨(VarA.new w 36 #[.int .i64 n0, .int .i64 n1, .int .i64 n2, .slice b3 p3.length bc3, .slice b4 p4.length bc4, .int .i64 n5, .slice b6 p6.length bc6, .slice b7 p7.length bc7, .slice b8 p8.length bc8]).alloc (.cells #[.int .i64 op, .int .i64 key, .int .i64 fr, .int .i64 dst, .int .i64 num, .slice pb acks.length pbc, .string body] LPkT), hA1, ((Below.refl w.heap.size w).alloc (Nat.le_refl _) (.cells #[.int .i64 n0, .int .i64 n1, .int .i64 n2, .slice b3 p3.length bc3, .slice b4 p4.length bc4, .int .i64 n5, .slice b6 p6.length bc6, .slice b7 p7.length bc7, .slice b8 p8.length bc8] 36)).alloc (by simp) (.cells #[.int .i64 op, .int .i64 key, .int .i64 fr, .int .i64 dst, .int .i64 num, .slice pb acks.length pbc, .string body] LPkT)⟩
  have q0n : ∀ X Y, (VarA w.heap.size 36 #[.int .i64 n0, .int .i64 n1, .int .i64 n2, .slice b3 p3.length bc3, .slice b4 p4.length bc4, .int .i64 n5, .slice b6 p6.length bc6, .slice b7 p7.length bc7, .slice b8 p8.length bc8] X ∧ VarA (w.heap.size + 1) LPkT #[.int .i64 op, .int .i64 key, .int .i64 fr, .int .i64 dst, .int .i64 num, .slice pb acks.length pbc, .string body] X ∧ Below w.heap.size w X) → Below X.heap.size X Y → (VarA w.heap.size 36 #[.int .i64 n0, .int .i64 n1, .int .i64 n2, .slice b3 p3.length bc3, .slice b4 p4.length bc4, .int .i64 n5, .slice b6 p6.length bc6, .slice b7 p7.length bc7, .slice b8 p8.length bc8] Y ∧ VarA (w.heap.size + 1) LPkT #[.int .i64 op, .int .i64 key, .int .i64 fr, .int .i64 dst, .int .i64 num, .slice pb acks.length pbc, .string body] Y ∧ Below w.heap.size w Y) := fun X Y h hb => ⟨h.1.next hb, h.2.1.next hb, h.2.2.trans (hb.mono h.2.2.size)⟩
  clear hI hS ha hp hA1 e1
  go_enter Try.func7, Try.ntmps7
  go_upto_region 1 with fail
  generalize (w.alloc (.cells #[.int .i64 n0, .int .i64 n1, .int .i64 n2, .slice b3 p3.length bc3, .slice b4 p4.length bc4, .int .i64 n5, .slice b6 p6.length bc6, .slice b7 p7.length bc7, .slice b8 p8.length bc8] 36)).alloc (.cells #[.int .i64 op, .int .i64 key, .int .i64 fr, .int .i64 dst, .int .i64 num, .slice pb acks.length pbc, .string body] LPkT) = Y0 at *
  have c0 : Y0.cell? ⟨w.heap.size, 0, none⟩ = some (.int .i64 n0) := Z0.out.1.cell 0
  have c1 : Y0.cell? ⟨w.heap.size, 1, none⟩ = some (.int .i64 n1) := Z0.out.1.cell 1
  have c2 : Y0.cell? ⟨w.heap.size, 2, none⟩ = some (.int .i64 n2) := Z0.out.1.cell 2
  have c3 : Y0.cell? ⟨w.heap.size, 3, none⟩ = some (.slice b3 p3.length bc3) := Z0.out.1.cell 3
  have c4 : Y0.cell? ⟨w.heap.size, 4, none⟩ = some (.slice b4 p4.length bc4) := Z0.out.1.cell 4
  have c5 : Y0.cell? ⟨w.heap.size, 5, none⟩ = some (.int .i64 n5) := Z0.out.1.cell 5
  have c6 : Y0.cell? ⟨w.heap.size, 6, none⟩ = some (.slice b6 p6.length bc6) := Z0.out.1.cell 6
  have c7 : Y0.cell? ⟨w.heap.size, 7, none⟩ = some (.slice b7 p7.length bc7) := Z0.out.1.cell 7
  have c8 : Y0.cell? ⟨w.heap.size, 8, none⟩ = some (.slice b8 p8.length bc8) := Z0.out.1.cell 8
  have HA0 := Lib.hid (HA.out.next Z0.out.2.2)
  have KZ := Lib.hid (szChan_any n0 n1 n2 _ p3 _ p4 n5 _ p6 _ p7 _ p8 1048576 (by omega) (by omega) k3 k4 k6 k7 k8 Y0 HA0.out.h3 HA0.out.h4 HA0.out.h6 HA0.out.h7 HA0.out.h8)
  go_wp2_with fail
  refine (KZ.out).mono ?_
  rintro e Y1 ⟨⟨z, rfl, hz⟩, hb1⟩
  have Z1 := Lib.hid (q0n _ _ Z0.out hb1)
  clear hb1 Z0 KZ HA0 c0 c1 c2 c3 c4 c5 c6 c7 c8
  rcases hz with rfl | ⟨hz0, hz1, hfit⟩
  · go_wp2_with fail
    go_ret
    exact ⟨rfl, Z1.out.2.2⟩
  have hz2 : ¬ (z < 0) := by omega
  have KY := Lib.hid (szPacket_left op key fr dst num pb acks.length pbc body ga gb z hz0 hz1)
  have c0 : Y1.cell? ⟨w.heap.size + 1, 0, none⟩ = some (.int .i64 op) := Z1.out.2.1.cell 0
  have c1 : Y1.cell? ⟨w.heap.size + 1, 1, none⟩ = some (.int .i64 key) := Z1.out.2.1.cell 1
  have c2 : Y1.cell? ⟨w.heap.size + 1, 2, none⟩ = some (.int .i64 fr) := Z1.out.2.1.cell 2
  have c3 : Y1.cell? ⟨w.heap.size + 1, 3, none⟩ = some (.int .i64 dst) := Z1.out.2.1.cell 3
  have c4 : Y1.cell? ⟨w.heap.size + 1, 4, none⟩ = some (.int .i64 num) := Z1.out.2.1.cell 4
  have c5 : Y1.cell? ⟨w.heap.size + 1, 5, none⟩ = some (.slice pb acks.length pbc) := Z1.out.2.1.cell 5
  have c6 : Y1.cell? ⟨w.heap.size + 1, 6, none⟩ = some (.string body) := Z1.out.2.1.cell 6
  go_wp2_with fail
  refine (KY.out _).mono ?_
  rintro e V1 ⟨⟨y, rfl, hy⟩, hb2⟩
  have Z2 := Lib.hid (q0n _ _ Z1.out hb2)
  clear hb2 Z1 KY c0 c1 c2 c3 c4 c5 c6 hz0 hz1 hz2
  rcases hy with rfl | ⟨hy0, la, lb⟩
  · go_wp2_with fail
    go_ret
    exact ⟨rfl, Z2.out.2.2⟩
  have hy2 : ¬ (y < 0) := by omega
  clear hy0 q0n
  have HF := Lib.hid hfit
  have HFP := Lib.hid ((fits_few hfit).mono (show 1048576 ≤ 10000000 by omega))
  have HFR := Lib.hid (hr hfit la lb)
  have TT : Hid (∀ X, Below w.heap.size w X → Calls Try.prog 15 #[.agg #[.int .i64 n0, .int .i64 n1, .int .i64 n2, .slice b3 p3.length bc3, .slice b4 p4.length bc4, .int .i64 n5, .slice b6 p6.length bc6, .slice b7 p7.length bc7, .slice b8 p8.length bc8]] X fun e Y => ∃ v, e = .returned v ∧ ChanVal X n0 n1 n2 n5 p3 p4 p6 p7 p8 v Y) := Lib.hid (fun X hX => chan_to (HA.out.next hX) (fits_few HF.out))
  have TP : Hid (∀ X, Below w.heap.size w X → Calls Try.prog 26 #[.agg #[.int .i64 op, .int .i64 key, .int .i64 fr, .int .i64 dst, .int .i64 num, .slice pb acks.length pbc, .string body]] X (PkMade op key fr dst num acks body X)) := Lib.hid (fun X hX => toPacket_any op key fr dst num _ acks body la X (layIntS.below HP.out hX))
  have hbb : (b != b) = false := by cases b <;> rfl
  clear hfit hr
  have qv : ∀ X Y, (Hid (VarA w.heap.size 36 #[.int .i64 n0, .int .i64 n1, .int .i64 n2, .slice b3 p3.length bc3, .slice b4 p4.length bc4, .int .i64 n5, .slice b6 p6.length bc6, .slice b7 p7.length bc7, .slice b8 p8.length bc8] X ∧ VarA (w.heap.size + 1) LPkT #[.int .i64 op, .int .i64 key, .int .i64 fr, .int .i64 dst, .int .i64 num, .slice pb acks.length pbc, .string body] X ∧ Below w.heap.size w X ∧ Below V1.heap.size V1 X)) → Below X.heap.size X Y → (Hid (VarA w.heap.size 36 #[.int .i64 n0, .int .i64 n1, .int .i64 n2, .slice b3 p3.length bc3, .slice b4 p4.length bc4, .int .i64 n5, .slice b6 p6.length bc6, .slice b7 p7.length bc7, .slice b8 p8.length bc8] Y ∧ VarA (w.heap.size + 1) LPkT #[.int .i64 op, .int .i64 key, .int .i64 fr, .int .i64 dst, .int .i64 num, .slice pb acks.length pbc, .string body] Y ∧ Below w.heap.size w Y ∧ Below V1.heap.size V1 Y)) := fun X Y h hb => Lib.hid ⟨h.out.1.next hb, h.out.2.1.next hb, h.out.2.2.1.trans (hb.mono h.out.2.2.1.size), h.out.2.2.2.trans (hb.mono h.out.2.2.2.size)⟩
  have E0 : Hid (VarA w.heap.size 36 #[.int .i64 n0, .int .i64 n1, .int .i64 n2, .slice b3 p3.length bc3, .slice b4 p4.length bc4, .int .i64 n5, .slice b6 p6.length bc6, .slice b7 p7.length bc7, .slice b8 p8.length bc8] V1.drew ∧ VarA (w.heap.size + 1) LPkT #[.int .i64 op, .int .i64 key, .int .i64 fr, .int .i64 dst, .int .i64 num, .slice pb acks.length pbc, .string body] V1.drew ∧ Below w.heap.size w V1.drew ∧ Below V1.heap.size V1 V1.drew) := qv _ _ (Lib.hid ⟨Z2.out.1, Z2.out.2.1, Z2.out.2.2, Below.refl _ _⟩) ((Below.refl _ _).drew)
  have hbx : w.heap.size + 1 < V1.heap.size := Z2.out.2.1.lt
  have SN : Hid (∀ (X : World) (G : Nat) (sv0 sv1 sv2 sv3 sv4 sv5 sv6 sv7 sv8 : Value), V1.heap.size ≤ G → (Hid (VarA w.heap.size 36 #[.int .i64 n0, .int .i64 n1, .int .i64 n2, .slice b3 p3.length bc3, .slice b4 p4.length bc4, .int .i64 n5, .slice b6 p6.length bc6, .slice b7 p7.length bc7, .slice b8 p8.length bc8] X ∧ VarA (w.heap.size + 1) LPkT #[.int .i64 op, .int .i64 key, .int .i64 fr, .int .i64 dst, .int .i64 num, .slice pb acks.length pbc, .string body] X ∧ Below w.heap.size w X ∧ Below V1.heap.size V1 X)) → (Hid (VarA w.heap.size 36 #[.int .i64 n0, .int .i64 n1, .int .i64 n2, .slice b3 p3.length bc3, .slice b4 p4.length bc4, .int .i64 n5, .slice b6 p6.length bc6, .slice b7 p7.length bc7, .slice b8 p8.length bc8] ((((((((((X.setCell ⟨G, 0, none⟩ sv0).setCell ⟨G, 1, none⟩ sv1).setCell ⟨G, 2, none⟩ sv2).setCell ⟨G, 3, none⟩ sv3).setCell ⟨G, 4, none⟩ sv4).setCell ⟨G, 5, none⟩ sv5).setCell ⟨G, 6, none⟩ sv6).setCell ⟨G, 7, none⟩ sv7).setCell ⟨G, 8, none⟩ sv8)) ∧ VarA (w.heap.size + 1) LPkT #[.int .i64 op, .int .i64 key, .int .i64 fr, .int .i64 dst, .int .i64 num, .slice pb acks.length pbc, .string body] ((((((((((X.setCell ⟨G, 0, none⟩ sv0).setCell ⟨G, 1, none⟩ sv1).setCell ⟨G, 2, none⟩ sv2).setCell ⟨G, 3, none⟩ sv3).setCell ⟨G, 4, none⟩ sv4).setCell ⟨G, 5, none⟩ sv5).setCell ⟨G, 6, none⟩ sv6).setCell ⟨G, 7, none⟩ sv7).setCell ⟨G, 8, none⟩ sv8)) ∧ Below w.heap.size w ((((((((((X.setCell ⟨G, 0, none⟩ sv0).setCell ⟨G, 1, none⟩ sv1).setCell ⟨G, 2, none⟩ sv2).setCell ⟨G, 3, none⟩ sv3).setCell ⟨G, 4, none⟩ sv4).setCell ⟨G, 5, none⟩ sv5).setCell ⟨G, 6, none⟩ sv6).setCell ⟨G, 7, none⟩ sv7).setCell ⟨G, 8, none⟩ sv8)) ∧ Below V1.heap.size V1 ((((((((((X.setCell ⟨G, 0, none⟩ sv0).setCell ⟨G, 1, none⟩ sv1).setCell ⟨G, 2, none⟩ sv2).setCell ⟨G, 3, none⟩ sv3).setCell ⟨G, 4, none⟩ sv4).setCell ⟨G, 5, none⟩ sv5).setCell ⟨G, 6, none⟩ sv6).setCell ⟨G, 7, none⟩ sv7).setCell ⟨G, 8, none⟩ sv8))))) := Lib.hid (fun X G sv0 sv1 sv2 sv3 sv4 sv5 sv6 sv7 sv8 hG h => by
    have ho := only_nine X G sv0 sv1 sv2 sv3 sv4 sv5 sv6 sv7 sv8
    have hq := h.out
    exact Lib.hid ⟨hq.1.only ho (by omega), hq.2.1.only ho (by omega), hq.2.2.1.trans (only_below ho (by omega) hq.2.2.1.size), hq.2.2.2.trans (only_below ho hG hq.2.2.2.size)⟩)
  have KT : Hid (∀ X, (Hid (VarA w.heap.size 36 #[.int .i64 n0, .int .i64 n1, .int .i64 n2, .slice b3 p3.length bc3, .slice b4 p4.length bc4, .int .i64 n5, .slice b6 p6.length bc6, .slice b7 p7.length bc7, .slice b8 p8.length bc8] X ∧ VarA (w.heap.size + 1) LPkT #[.int .i64 op, .int .i64 key, .int .i64 fr, .int .i64 dst, .int .i64 num, .slice pb acks.length pbc, .string body] X ∧ Below w.heap.size w X ∧ Below V1.heap.size V1 X)) → Calls Try.prog 15 #[.agg #[.int .i64 n0, .int .i64 n1, .int .i64 n2, .slice b3 p3.length bc3, .slice b4 p4.length bc4, .int .i64 n5, .slice b6 p6.length bc6, .slice b7 p7.length bc7, .slice b8 p8.length bc8]] X fun e Y => ∃ (t3 : Option Addr) (tc3 : Nat) (t4 : Option Addr) (tc4 : Nat) (t6 : Option Addr) (tc6 : Nat) (t7 : Option Addr) (tc7 : Nat) (t8 : Option Addr) (tc8 : Nat), e = .returned (.agg #[.int .i64 n0, .int .i64 n1, .int .i64 n2, .slice t3 p3.length tc3, .slice t4 p4.length tc4, .int .i64 n5, .slice t6 p6.length tc6, .slice t7 p7.length tc7, .slice t8 p8.length tc8]) ∧ Hid (ChanRd (.slice t3 p3.length tc3) (.slice t4 p4.length tc4) (.slice t6 p6.length tc6) (.slice t7 p7.length tc7) (.slice t8 p8.length tc8) p3 p4 p6 p7 p8 Y) ∧ (Hid (VarA w.heap.size 36 #[.int .i64 n0, .int .i64 n1, .int .i64 n2, .slice b3 p3.length bc3, .slice b4 p4.length bc4, .int .i64 n5, .slice b6 p6.length bc6, .slice b7 p7.length bc7, .slice b8 p8.length bc8] Y ∧ VarA (w.heap.size + 1) LPkT #[.int .i64 op, .int .i64 key, .int .i64 fr, .int .i64 dst, .int .i64 num, .slice pb acks.length pbc, .string body] Y ∧ Below w.heap.size w Y ∧ Below V1.heap.size V1 Y)) ∧ Hid (Below X.heap.size X Y)) := Lib.hid (fun X hX => by
    have hq := hX.out
    refine (TT.out X hq.2.2.1).mono ?_
    rintro e Y ⟨v, rfl, hv⟩
    obtain ⟨t3, tc3, t4, tc4, t6, tc6, t7, tc7, t8, tc8, f3, f4, f6, f7, f8, rfl, hco, hb⟩ := hv
    exact ⟨t3, tc3, t4, tc4, t6, tc6, t7, tc7, t8, tc8, rfl, Lib.hid hco.rd, qv _ _ hX hb, Lib.hid hb⟩)
  have KP : Hid (∀ X, (Hid (VarA w.heap.size 36 #[.int .i64 n0, .int .i64 n1, .int .i64 n2, .slice b3 p3.length bc3, .slice b4 p4.length bc4, .int .i64 n5, .slice b6 p6.length bc6, .slice b7 p7.length bc7, .slice b8 p8.length bc8] X ∧ VarA (w.heap.size + 1) LPkT #[.int .i64 op, .int .i64 key, .int .i64 fr, .int .i64 dst, .int .i64 num, .slice pb acks.length pbc, .string body] X ∧ Below w.heap.size w X ∧ Below V1.heap.size V1 X)) → Calls Try.prog 26 #[.agg #[.int .i64 op, .int .i64 key, .int .i64 fr, .int .i64 dst, .int .i64 num, .slice pb acks.length pbc, .string body]] X fun e Y => ∃ (ta : Option Addr) (tc : Nat), e = .returned (.agg #[.int .i64 op, .int .i64 key, .int .i64 fr, .int .i64 dst, .int .i64 num, .slice ta acks.length tc, .string body]) ∧ Hid (layIntS.rd Y [.slice ta acks.length tc] acks) ∧ (Hid (VarA w.heap.size 36 #[.int .i64 n0, .int .i64 n1, .int .i64 n2, .slice b3 p3.length bc3, .slice b4 p4.length bc4, .int .i64 n5, .slice b6 p6.length bc6, .slice b7 p7.length bc7, .slice b8 p8.length bc8] Y ∧ VarA (w.heap.size + 1) LPkT #[.int .i64 op, .int .i64 key, .int .i64 fr, .int .i64 dst, .int .i64 num, .slice pb acks.length pbc, .string body] Y ∧ Below w.heap.size w Y ∧ Below V1.heap.size V1 Y)) ∧ Hid (Below X.heap.size X Y)) := Lib.hid (fun X hX => by
    have hq := hX.out
    refine (TP.out X hq.2.2.1).mono ?_
    rintro e Y ⟨ta, tc, f, rfl, hd, hown, hb⟩
    exact ⟨ta, tc, rfl, Lib.hid (layIntS.read hown), qv _ _ hX hb, Lib.hid hb⟩)
  have KU : Hid (∀ (t3 : Option Addr) (tc3 : Nat) (t4 : Option Addr) (tc4 : Nat) (t6 : Option Addr) (tc6 : Nat) (t7 : Option Addr) (tc7 : Nat) (t8 : Option Addr) (tc8 : Nat) (ta : Option Addr) (tc : Nat) (X : World), (Hid (VarA w.heap.size 36 #[.int .i64 n0, .int .i64 n1, .int .i64 n2, .slice b3 p3.length bc3, .slice b4 p4.length bc4, .int .i64 n5, .slice b6 p6.length bc6, .slice b7 p7.length bc7, .slice b8 p8.length bc8] X ∧ VarA (w.heap.size + 1) LPkT #[.int .i64 op, .int .i64 key, .int .i64 fr, .int .i64 dst, .int .i64 num, .slice pb acks.length pbc, .string body] X ∧ Below w.heap.size w X ∧ Below V1.heap.size V1 X)) → Hid (ChanRd (.slice t3 p3.length tc3) (.slice t4 p4.length tc4) (.slice t6 p6.length tc6) (.slice t7 p7.length tc7) (.slice t8 p8.length tc8) p3 p4 p6 p7 p8 X) → Hid (layIntS.rd X [.slice ta acks.length tc] acks) → Calls Try.prog 25 #[.agg #[.int .i64 n0, .int .i64 n1, .int .i64 n2, .slice t3 p3.length tc3, .slice t4 p4.length tc4, .int .i64 n5, .slice t6 p6.length tc6, .slice t7 p7.length tc7, .slice t8 p8.length tc8], .agg #[.int .i64 op, .int .i64 key, .int .i64 fr, .int .i64 dst, .int .i64 num, .slice ta acks.length tc, .string body]] X fun e Y => ∃ (u3 : Option Addr) (uc3 : Nat) (u4 : Option Addr) (uc4 : Nat) (u6 : Option Addr) (uc6 : Nat) (u7 : Option Addr) (uc7 : Nat) (u8 : Option Addr) (uc8 : Nat) (f3 f4 f6 f7 f8 : List Nat), e = .returned (.tuple #[.agg #[.int .i64 m0, .int .i64 m1, .int .i64 m2, .slice u3 r3.length uc3, .slice u4 r4.length uc4, .int .i64 m5, .slice u6 r6.length uc6, .slice u7 r7.length uc7, .slice u8 r8.length uc8], .bool b]) ∧ Hid (COT V1.heap.size (.slice u3 r3.length uc3) (.slice u4 r4.length uc4) (.slice u6 r6.length uc6) (.slice u7 r7.length uc7) (.slice u8 r8.length uc8) f3 f4 f6 f7 f8 r3 r4 r6 r7 r8 Y) ∧ (Hid (VarA w.heap.size 36 #[.int .i64 n0, .int .i64 n1, .int .i64 n2, .slice b3 p3.length bc3, .slice b4 p4.length bc4, .int .i64 n5, .slice b6 p6.length bc6, .slice b7 p7.length bc7, .slice b8 p8.length bc8] Y ∧ VarA (w.heap.size + 1) LPkT #[.int .i64 op, .int .i64 key, .int .i64 fr, .int .i64 dst, .int .i64 num, .slice pb acks.length pbc, .string body] Y ∧ Below w.heap.size w Y ∧ Below V1.heap.size V1 Y)) ∧ Hid (Below X.heap.size X Y)) := Lib.hid (fun t3 tc3 t4 tc4 t6 tc6 t7 tc7 t8 tc8 ta tc X hX hrd hrp => by
    have hq := hX.out
    refine (HS.out HF.out la lb _ _ _ _ _ _ X hrd.out hrp.out).mono ?_
    rintro e Y ⟨v, rfl, hv⟩
    obtain ⟨u3, uc3, u4, uc4, u6, uc6, u7, uc7, u8, uc8, f3, f4, f6, f7, f8, rfl, hco, hb⟩ := hv
    exact ⟨u3, uc3, u4, uc4, u6, uc6, u7, uc7, u8, uc8, f3, f4, f6, f7, f8, rfl, Lib.hid (hco.lower hq.2.2.2.size), qv _ _ hX hb, Lib.hid hb⟩)
  go_wp2_with fail
  go_cut [6, 7] (fun x y wx => ∃ (gu : Nat) (u3 : Option Addr) (uc3 : Nat) (u4 : Option Addr) (uc4 : Nat) (u6 : Option Addr) (uc6 : Nat) (u7 : Option Addr) (uc7 : Nat) (u8 : Option Addr) (uc8 : Nat), x = .pointer (some ⟨gu, 0, none⟩) ∧ y = .bool b ∧ NC V1 m0 m1 m2 m5 (.slice u3 r3.length uc3) (.slice u4 r4.length uc4) (.slice u6 r6.length uc6) (.slice u7 r7.length uc7) (.slice u8 r8.length uc8) r3 r4 r6 r7 r8 gu wx)
  case first =>
    refine wp_region_held_drew (S := fun X => Hid (VarA w.heap.size 36 #[.int .i64 n0, .int .i64 n1, .int .i64 n2, .slice b3 p3.length bc3, .slice b4 p4.length bc4, .int .i64 n5, .slice b6 p6.length bc6, .slice b7 p7.length bc7, .slice b8 p8.length bc8] X ∧ VarA (w.heap.size + 1) LPkT #[.int .i64 op, .int .i64 key, .int .i64 fr, .int .i64 dst, .int .i64 num, .slice pb acks.length pbc, .string body] X ∧ Below w.heap.size w X ∧ Below V1.heap.size V1 X)) (by kernel_rfl) E0 (fun hHeld => ?_)
    clear E0
    generalize V1.drew = X0 at *
    refine wpAnyH_take (i := 0) (v := ?_) rfl (by kernel_rfl) (by kernel_rfl) (by kernel_rfl) (fun _ _ _ h => h) (Or.inl ⟨by kernel_rfl, ?_⟩) hHeld ?_
    rotate_left
    · intro X hX
      have y0 : X.cell? ⟨w.heap.size, 0, none⟩ = some (.int .i64 n0) := hX.out.1.cell 0
      have y1 : X.cell? ⟨w.heap.size, 1, none⟩ = some (.int .i64 n1) := hX.out.1.cell 1
      have y2 : X.cell? ⟨w.heap.size, 2, none⟩ = some (.int .i64 n2) := hX.out.1.cell 2
      have y3 : X.cell? ⟨w.heap.size, 3, none⟩ = some (.slice b3 p3.length bc3) := hX.out.1.cell 3
      have y4 : X.cell? ⟨w.heap.size, 4, none⟩ = some (.slice b4 p4.length bc4) := hX.out.1.cell 4
      have y5 : X.cell? ⟨w.heap.size, 5, none⟩ = some (.int .i64 n5) := hX.out.1.cell 5
      have y6 : X.cell? ⟨w.heap.size, 6, none⟩ = some (.slice b6 p6.length bc6) := hX.out.1.cell 6
      have y7 : X.cell? ⟨w.heap.size, 7, none⟩ = some (.slice b7 p7.length bc7) := hX.out.1.cell 7
      have y8 : X.cell? ⟨w.heap.size, 8, none⟩ = some (.slice b8 p8.length bc8) := hX.out.1.cell 8
      first | (go_simp; done) | (go_simp; with_reducible rfl)
    try simp only [Act.put, List.getElem_toArray, List.getElem_cons_zero, List.setIfInBounds_toArray, List.set_cons_zero, List.set_cons_succ]
    refine wpAnyH_take (i := 2) (v := ?_) rfl (by kernel_rfl) (by kernel_rfl) (by kernel_rfl) (fun _ _ _ h => h) (Or.inl ⟨by kernel_rfl, ?_⟩) hHeld ?_
    rotate_left
    · intro X hX
      have y0 : X.cell? ⟨w.heap.size + 1, 0, none⟩ = some (.int .i64 op) := hX.out.2.1.cell 0
      have y1 : X.cell? ⟨w.heap.size + 1, 1, none⟩ = some (.int .i64 key) := hX.out.2.1.cell 1
      have y2 : X.cell? ⟨w.heap.size + 1, 2, none⟩ = some (.int .i64 fr) := hX.out.2.1.cell 2
      have y3 : X.cell? ⟨w.heap.size + 1, 3, none⟩ = some (.int .i64 dst) := hX.out.2.1.cell 3
      have y4 : X.cell? ⟨w.heap.size + 1, 4, none⟩ = some (.int .i64 num) := hX.out.2.1.cell 4
      have y5 : X.cell? ⟨w.heap.size + 1, 5, none⟩ = some (.slice pb acks.length pbc) := hX.out.2.1.cell 5
      have y6 : X.cell? ⟨w.heap.size + 1, 6, none⟩ = some (.string body) := hX.out.2.1.cell 6
      first | (go_simp; done) | (go_simp; with_reducible rfl)
    try simp only [Act.put, List.getElem_toArray, List.getElem_cons_succ, List.getElem_cons_zero, List.setIfInBounds_toArray, List.set_cons_zero, List.set_cons_succ]
    refine wpAnyH_ready (rs := [1, 8]) (by kernel_rfl) (by simp) ?_
    refine AllReadyH.cons rfl (fun K hK => ?_) (AllReadyH.cons rfl (fun K hK => ?_) AllReadyH.nil)
    · go_simp
      go_wp2_with ((go_at_call 15; refine (KT.out _ hHeld).mono ?_; rintro e X1 ⟨t3, tc3, t4, tc4, t6, tc6, t7, tc7, t8, tc8, rfl, hq, hS, hb⟩))
      refine hK.out _ _ hS (fun hHeld => ?_)
      clear hK K hS
      clear hb
      try simp only [Act.put, List.getElem_toArray, List.getElem_cons_succ, List.getElem_cons_zero, List.setIfInBounds_toArray, List.set_cons_zero, List.set_cons_succ]
      refine wpAnyH_ready (rs := [3, 8]) (by kernel_rfl) (by simp) ?_
      refine AllReadyH.cons rfl (fun K hK => ?_) (AllReadyH.cons rfl (fun K hK => ?_) AllReadyH.nil)
      · go_simp
        go_wp2_with ((go_at_call 26; refine (KP.out _ hHeld).mono ?_; rintro e X2 ⟨ta, tc, rfl, hp, hS, hb⟩))
        refine hK.out _ _ hS (fun hHeld => ?_)
        clear hK K hS
        replace hq := Lib.hid (hq.out.next hb.out)
        clear hb
        try simp only [Act.put, List.getElem_toArray, List.getElem_cons_succ, List.getElem_cons_zero, List.setIfInBounds_toArray, List.set_cons_zero, List.set_cons_succ]
        refine wpAnyH_ready (rs := [4, 8]) (by kernel_rfl) (by simp) ?_
        refine AllReadyH.cons rfl (fun K hK => ?_) (AllReadyH.cons rfl (fun K hK => ?_) AllReadyH.nil)
        · go_simp
          go_wp2_with ((go_at_call 25; refine (KU.out _ _ _ _ _ _ _ _ _ _ _ _ _ hHeld hq hp).mono ?_; rintro e X3 ⟨u3, uc3, u4, uc4, u6, uc6, u7, uc7, u8, uc8, f3, f4, f6, f7, f8, rfl, hou, hS, hb⟩))
          refine hK.out _ _ hS (fun hHeld => ?_)
          clear hK K hS
          clear hq hp
          clear hb
          try simp only [Act.put, List.getElem_toArray, List.getElem_cons_succ, List.getElem_cons_zero, List.setIfInBounds_toArray, List.set_cons_zero, List.set_cons_succ]
          refine wpAnyH_take (i := 5) (v := ?_) rfl (by kernel_rfl) (by kernel_rfl) (by kernel_rfl) (fun _ _ _ h => h) (Or.inl ⟨by kernel_rfl, ?_⟩) hHeld ?_
          rotate_left
          · intro X hX
            first | (go_simp; done) | (go_simp; with_reducible rfl)
          try simp only [Act.put, List.getElem_toArray, List.getElem_cons_succ, List.getElem_cons_zero, List.setIfInBounds_toArray, List.set_cons_zero, List.set_cons_succ]
          refine wpAnyH_take (i := 6) (v := ?_) rfl (by kernel_rfl) (by kernel_rfl) (by kernel_rfl) (fun _ _ _ h => h) (Or.inl ⟨by kernel_rfl, ?_⟩) hHeld ?_
          rotate_left
          · intro X hX
            first | (go_simp; done) | (go_simp; with_reducible rfl)
          try simp only [Act.put, List.getElem_toArray, List.getElem_cons_succ, List.getElem_cons_zero, List.setIfInBounds_toArray, List.set_cons_zero, List.set_cons_succ]
          refine wpAnyH_take (i := 7) (v := ?_) rfl (by kernel_rfl) (by kernel_rfl) (by kernel_rfl) (fun _ _ _ h => h) (Or.inl ⟨by kernel_rfl, ?_⟩) hHeld ?_
          rotate_left
          · intro X hX
            first | (go_simp; done) | (go_simp; with_reducible rfl)
          try simp only [Act.put, List.getElem_toArray, List.getElem_cons_succ, List.getElem_cons_zero, List.setIfInBounds_toArray, List.set_cons_zero, List.set_cons_succ]
          refine wpAnyH_ready (rs := [8]) (by kernel_rfl) (by simp) ?_
          refine AllReadyH.cons rfl (fun K hK => ?_) AllReadyH.nil
          · go_simp
            have hlo : V1.heap.size ≤ X3.heap.size := hHeld.out.2.2.2.size
            have hal : Below X3.heap.size X3 (X3.alloc (.cells #[.int .i64 0, .int .i64 0, .int .i64 0, .slice none 0 0, .slice none 0 0, .int .i64 0, .slice none 0 0, .slice none 0 0, .slice none 0 0] ChanT)) := ((Below.refl _ _).alloc (Nat.le_refl _) _)
            refine hK.out _ _ (qv _ _ hHeld hal) (fun hHeld => ?_)
            clear hK K
            have rr := Lib.hid (VarA.new X3 ChanT #[.int .i64 0, .int .i64 0, .int .i64 0, .slice none 0 0, .slice none 0 0, .int .i64 0, .slice none 0 0, .slice none 0 0, .slice none 0 0])
            replace hou := Lib.hid (hou.out.next hal)
            clear hal
            generalize X3.alloc (.cells #[.int .i64 0, .int .i64 0, .int .i64 0, .slice none 0 0, .slice none 0 0, .int .i64 0, .slice none 0 0, .slice none 0 0, .slice none 0 0] ChanT) = X4 at *
            generalize X3.heap.size = G at *
            try simp only [Act.put, List.getElem_toArray, List.getElem_cons_succ, List.getElem_cons_zero, List.setIfInBounds_toArray, List.set_cons_zero, List.set_cons_succ]
            refine wpAnyH_ready (rs := [9]) (by kernel_rfl) (by simp) ?_
            refine AllReadyH.cons rfl (fun K hK => ?_) AllReadyH.nil
            · have r0_ : X4.cell? ⟨G, 0, none⟩ = some (.int .i64 0) := rr.out.cell 0
              have g0_ := rr.out.free 0
              have r1_ : X4.cell? ⟨G, 1, none⟩ = some (.int .i64 0) := rr.out.cell 1
              have g1_ := rr.out.free 1
              have r2_ : X4.cell? ⟨G, 2, none⟩ = some (.int .i64 0) := rr.out.cell 2
              have g2_ := rr.out.free 2
              have r3_ : X4.cell? ⟨G, 3, none⟩ = some (.slice none 0 0) := rr.out.cell 3
              have g3_ := rr.out.free 3
              have r4_ : X4.cell? ⟨G, 4, none⟩ = some (.slice none 0 0) := rr.out.cell 4
              have g4_ := rr.out.free 4
              have r5_ : X4.cell? ⟨G, 5, none⟩ = some (.int .i64 0) := rr.out.cell 5
              have g5_ := rr.out.free 5
              have r6_ : X4.cell? ⟨G, 6, none⟩ = some (.slice none 0 0) := rr.out.cell 6
              have g6_ := rr.out.free 6
              have r7_ : X4.cell? ⟨G, 7, none⟩ = some (.slice none 0 0) := rr.out.cell 7
              have g7_ := rr.out.free 7
              have r8_ : X4.cell? ⟨G, 8, none⟩ = some (.slice none 0 0) := rr.out.cell 8
              have g8_ := rr.out.free 8
              go_simp
              have nc := Lib.hid (NC.stored (m0 := m0) (m1 := m1) (m2 := m2) (m5 := m5) rr.out hlo hou.out hHeld.out.2.2.2)
              refine hK.out _ _ (SN.out _ _ _ _ _ _ _ _ _ _ _ hlo hHeld) (fun hHeld => ?_)
              clear hK K hou rr r0_ g0_ r1_ g1_ r2_ g2_ r3_ g3_ r4_ g4_ r5_ g5_ r6_ g6_ r7_ g7_ r8_ g8_
              try simp only [Act.put, List.getElem_toArray, List.getElem_cons_succ, List.getElem_cons_zero, List.setIfInBounds_toArray, List.set_cons_zero, List.set_cons_succ]
              refine wpAnyH_take (i := 10) (v := ?_) rfl (by kernel_rfl) (by kernel_rfl) (by kernel_rfl) (fun _ _ _ h => h) (Or.inl ⟨by kernel_rfl, ?_⟩) hHeld ?_
              rotate_left
              · intro X hX
                first | (go_simp; done) | (go_simp; with_reducible rfl)
              try simp only [Act.put, List.getElem_toArray, List.getElem_cons_succ, List.getElem_cons_zero, List.setIfInBounds_toArray, List.set_cons_zero, List.set_cons_succ]
              refine wpAnyH_done (by kernel_rfl) ?_ _
              have hz := hHeld.out.2.2.2
              clear hHeld
              go_wp2_with fail
              go_meet
              exact ⟨_, u3, uc3, u4, uc4, u6, uc6, u7, uc7, u8, uc8, rfl, rfl, nc.out⟩
        · go_simp
          have hlo : V1.heap.size ≤ X2.heap.size := hHeld.out.2.2.2.size
          have hal : Below X2.heap.size X2 (X2.alloc (.cells #[.int .i64 0, .int .i64 0, .int .i64 0, .slice none 0 0, .slice none 0 0, .int .i64 0, .slice none 0 0, .slice none 0 0, .slice none 0 0] ChanT)) := ((Below.refl _ _).alloc (Nat.le_refl _) _)
          refine hK.out _ _ (qv _ _ hHeld hal) (fun hHeld => ?_)
          clear hK K
          have rr := Lib.hid (VarA.new X2 ChanT #[.int .i64 0, .int .i64 0, .int .i64 0, .slice none 0 0, .slice none 0 0, .int .i64 0, .slice none 0 0, .slice none 0 0, .slice none 0 0])
          replace hq := Lib.hid (hq.out.next hal)
          replace hp := Lib.hid (layIntS.below hp.out hal)
          clear hal
          generalize X2.alloc (.cells #[.int .i64 0, .int .i64 0, .int .i64 0, .slice none 0 0, .slice none 0 0, .int .i64 0, .slice none 0 0, .slice none 0 0, .slice none 0 0] ChanT) = X3 at *
          generalize X2.heap.size = G at *
          try simp only [Act.put, List.getElem_toArray, List.getElem_cons_succ, List.getElem_cons_zero, List.setIfInBounds_toArray, List.set_cons_zero, List.set_cons_succ]
          refine wpAnyH_ready (rs := [4]) (by kernel_rfl) (by simp) ?_
          refine AllReadyH.cons rfl (fun K hK => ?_) AllReadyH.nil
          · go_simp
            go_wp2_with ((go_at_call 25; refine (KU.out _ _ _ _ _ _ _ _ _ _ _ _ _ hHeld hq hp).mono ?_; rintro e X4 ⟨u3, uc3, u4, uc4, u6, uc6, u7, uc7, u8, uc8, f3, f4, f6, f7, f8, rfl, hou, hS, hb⟩))
            refine hK.out _ _ hS (fun hHeld => ?_)
            clear hK K hS
            replace rr := Lib.hid (rr.out.next hb.out)
            clear hq hp
            clear hb
            try simp only [Act.put, List.getElem_toArray, List.getElem_cons_succ, List.getElem_cons_zero, List.setIfInBounds_toArray, List.set_cons_zero, List.set_cons_succ]
            refine wpAnyH_take (i := 5) (v := ?_) rfl (by kernel_rfl) (by kernel_rfl) (by kernel_rfl) (fun _ _ _ h => h) (Or.inl ⟨by kernel_rfl, ?_⟩) hHeld ?_
            rotate_left
            · intro X hX
              first | (go_simp; done) | (go_simp; with_reducible rfl)
            try simp only [Act.put, List.getElem_toArray, List.getElem_cons_succ, List.getElem_cons_zero, List.setIfInBounds_toArray, List.set_cons_zero, List.set_cons_succ]
            refine wpAnyH_take (i := 6) (v := ?_) rfl (by kernel_rfl) (by kernel_rfl) (by kernel_rfl) (fun _ _ _ h => h) (Or.inl ⟨by kernel_rfl, ?_⟩) hHeld ?_
            rotate_left
            · intro X hX
              first | (go_simp; done) | (go_simp; with_reducible rfl)
            try simp only [Act.put, List.getElem_toArray, List.getElem_cons_succ, List.getElem_cons_zero, List.setIfInBounds_toArray, List.set_cons_zero, List.set_cons_succ]
            refine wpAnyH_take (i := 7) (v := ?_) rfl (by kernel_rfl) (by kernel_rfl) (by kernel_rfl) (fun _ _ _ h => h) (Or.inl ⟨by kernel_rfl, ?_⟩) hHeld ?_
            rotate_left
            · intro X hX
              first | (go_simp; done) | (go_simp; with_reducible rfl)
            try simp only [Act.put, List.getElem_toArray, List.getElem_cons_succ, List.getElem_cons_zero, List.setIfInBounds_toArray, List.set_cons_zero, List.set_cons_succ]
            refine wpAnyH_ready (rs := [9]) (by kernel_rfl) (by simp) ?_
            refine AllReadyH.cons rfl (fun K hK => ?_) AllReadyH.nil
            · have r0_ : X4.cell? ⟨G, 0, none⟩ = some (.int .i64 0) := rr.out.cell 0
              have g0_ := rr.out.free 0
              have r1_ : X4.cell? ⟨G, 1, none⟩ = some (.int .i64 0) := rr.out.cell 1
              have g1_ := rr.out.free 1
              have r2_ : X4.cell? ⟨G, 2, none⟩ = some (.int .i64 0) := rr.out.cell 2
              have g2_ := rr.out.free 2
              have r3_ : X4.cell? ⟨G, 3, none⟩ = some (.slice none 0 0) := rr.out.cell 3
              have g3_ := rr.out.free 3
              have r4_ : X4.cell? ⟨G, 4, none⟩ = some (.slice none 0 0) := rr.out.cell 4
              have g4_ := rr.out.free 4
              have r5_ : X4.cell? ⟨G, 5, none⟩ = some (.int .i64 0) := rr.out.cell 5
              have g5_ := rr.out.free 5
              have r6_ : X4.cell? ⟨G, 6, none⟩ = some (.slice none 0 0) := rr.out.cell 6
              have g6_ := rr.out.free 6
              have r7_ : X4.cell? ⟨G, 7, none⟩ = some (.slice none 0 0) := rr.out.cell 7
              have g7_ := rr.out.free 7
              have r8_ : X4.cell? ⟨G, 8, none⟩ = some (.slice none 0 0) := rr.out.cell 8
              have g8_ := rr.out.free 8
              go_simp
              have nc := Lib.hid (NC.stored (m0 := m0) (m1 := m1) (m2 := m2) (m5 := m5) rr.out hlo hou.out hHeld.out.2.2.2)
              refine hK.out _ _ (SN.out _ _ _ _ _ _ _ _ _ _ _ hlo hHeld) (fun hHeld => ?_)
              clear hK K hou rr r0_ g0_ r1_ g1_ r2_ g2_ r3_ g3_ r4_ g4_ r5_ g5_ r6_ g6_ r7_ g7_ r8_ g8_
              try simp only [Act.put, List.getElem_toArray, List.getElem_cons_succ, List.getElem_cons_zero, List.setIfInBounds_toArray, List.set_cons_zero, List.set_cons_succ]
              refine wpAnyH_take (i := 10) (v := ?_) rfl (by kernel_rfl) (by kernel_rfl) (by kernel_rfl) (fun _ _ _ h => h) (Or.inl ⟨by kernel_rfl, ?_⟩) hHeld ?_
              rotate_left
              · intro X hX
                first | (go_simp; done) | (go_simp; with_reducible rfl)
              try simp only [Act.put, List.getElem_toArray, List.getElem_cons_succ, List.getElem_cons_zero, List.setIfInBounds_toArray, List.set_cons_zero, List.set_cons_succ]
              refine wpAnyH_done (by kernel_rfl) ?_ _
              have hz := hHeld.out.2.2.2
              clear hHeld
              go_wp2_with fail
              go_meet
              exact ⟨_, u3, uc3, u4, uc4, u6, uc6, u7, uc7, u8, uc8, rfl, rfl, nc.out⟩
      · go_simp
        have hlo : V1.heap.size ≤ X1.heap.size := hHeld.out.2.2.2.size
        have hal : Below X1.heap.size X1 (X1.alloc (.cells #[.int .i64 0, .int .i64 0, .int .i64 0, .slice none 0 0, .slice none 0 0, .int .i64 0, .slice none 0 0, .slice none 0 0, .slice none 0 0] ChanT)) := ((Below.refl _ _).alloc (Nat.le_refl _) _)
        refine hK.out _ _ (qv _ _ hHeld hal) (fun hHeld => ?_)
        clear hK K
        have rr := Lib.hid (VarA.new X1 ChanT #[.int .i64 0, .int .i64 0, .int .i64 0, .slice none 0 0, .slice none 0 0, .int .i64 0, .slice none 0 0, .slice none 0 0, .slice none 0 0])
        replace hq := Lib.hid (hq.out.next hal)
        clear hal
        generalize X1.alloc (.cells #[.int .i64 0, .int .i64 0, .int .i64 0, .slice none 0 0, .slice none 0 0, .int .i64 0, .slice none 0 0, .slice none 0 0, .slice none 0 0] ChanT) = X2 at *
        generalize X1.heap.size = G at *
        try simp only [Act.put, List.getElem_toArray, List.getElem_cons_succ, List.getElem_cons_zero, List.setIfInBounds_toArray, List.set_cons_zero, List.set_cons_succ]
        refine wpAnyH_ready (rs := [3]) (by kernel_rfl) (by simp) ?_
        refine AllReadyH.cons rfl (fun K hK => ?_) AllReadyH.nil
        · go_simp
          go_wp2_with ((go_at_call 26; refine (KP.out _ hHeld).mono ?_; rintro e X3 ⟨ta, tc, rfl, hp, hS, hb⟩))
          refine hK.out _ _ hS (fun hHeld => ?_)
          clear hK K hS
          replace hq := Lib.hid (hq.out.next hb.out)
          replace rr := Lib.hid (rr.out.next hb.out)
          clear hb
          try simp only [Act.put, List.getElem_toArray, List.getElem_cons_succ, List.getElem_cons_zero, List.setIfInBounds_toArray, List.set_cons_zero, List.set_cons_succ]
          refine wpAnyH_ready (rs := [4]) (by kernel_rfl) (by simp) ?_
          refine AllReadyH.cons rfl (fun K hK => ?_) AllReadyH.nil
          · go_simp
            go_wp2_with ((go_at_call 25; refine (KU.out _ _ _ _ _ _ _ _ _ _ _ _ _ hHeld hq hp).mono ?_; rintro e X4 ⟨u3, uc3, u4, uc4, u6, uc6, u7, uc7, u8, uc8, f3, f4, f6, f7, f8, rfl, hou, hS, hb⟩))
            refine hK.out _ _ hS (fun hHeld => ?_)
            clear hK K hS
            replace rr := Lib.hid (rr.out.next hb.out)
            clear hq hp
            clear hb
            try simp only [Act.put, List.getElem_toArray, List.getElem_cons_succ, List.getElem_cons_zero, List.setIfInBounds_toArray, List.set_cons_zero, List.set_cons_succ]
            refine wpAnyH_take (i := 5) (v := ?_) rfl (by kernel_rfl) (by kernel_rfl) (by kernel_rfl) (fun _ _ _ h => h) (Or.inl ⟨by kernel_rfl, ?_⟩) hHeld ?_
            rotate_left
            · intro X hX
              first | (go_simp; done) | (go_simp; with_reducible rfl)
            try simp only [Act.put, List.getElem_toArray, List.getElem_cons_succ, List.getElem_cons_zero, List.setIfInBounds_toArray, List.set_cons_zero, List.set_cons_succ]
            refine wpAnyH_take (i := 6) (v := ?_) rfl (by kernel_rfl) (by kernel_rfl) (by kernel_rfl) (fun _ _ _ h => h) (Or.inl ⟨by kernel_rfl, ?_⟩) hHeld ?_
            rotate_left
            · intro X hX
              first | (go_simp; done) | (go_simp; with_reducible rfl)
            try simp only [Act.put, List.getElem_toArray, List.getElem_cons_succ, List.getElem_cons_zero, List.setIfInBounds_toArray, List.set_cons_zero, List.set_cons_succ]
            refine wpAnyH_take (i := 7) (v := ?_) rfl (by kernel_rfl) (by kernel_rfl) (by kernel_rfl) (fun _ _ _ h => h) (Or.inl ⟨by kernel_rfl, ?_⟩) hHeld ?_
            rotate_left
            · intro X hX
              first | (go_simp; done) | (go_simp; with_reducible rfl)
            try simp only [Act.put, List.getElem_toArray, List.getElem_cons_succ, List.getElem_cons_zero, List.setIfInBounds_toArray, List.set_cons_zero, List.set_cons_succ]
            refine wpAnyH_ready (rs := [9]) (by kernel_rfl) (by simp) ?_
            refine AllReadyH.cons rfl (fun K hK => ?_) AllReadyH.nil
            · have r0_ : X4.cell? ⟨G, 0, none⟩ = some (.int .i64 0) := rr.out.cell 0
              have g0_ := rr.out.free 0
              have r1_ : X4.cell? ⟨G, 1, none⟩ = some (.int .i64 0) := rr.out.cell 1
              have g1_ := rr.out.free 1
              have r2_ : X4.cell? ⟨G, 2, none⟩ = some (.int .i64 0) := rr.out.cell 2
              have g2_ := rr.out.free 2
              have r3_ : X4.cell? ⟨G, 3, none⟩ = some (.slice none 0 0) := rr.out.cell 3
              have g3_ := rr.out.free 3
              have r4_ : X4.cell? ⟨G, 4, none⟩ = some (.slice none 0 0) := rr.out.cell 4
              have g4_ := rr.out.free 4
              have r5_ : X4.cell? ⟨G, 5, none⟩ = some (.int .i64 0) := rr.out.cell 5
              have g5_ := rr.out.free 5
              have r6_ : X4.cell? ⟨G, 6, none⟩ = some (.slice none 0 0) := rr.out.cell 6
              have g6_ := rr.out.free 6
              have r7_ : X4.cell? ⟨G, 7, none⟩ = some (.slice none 0 0) := rr.out.cell 7
              have g7_ := rr.out.free 7
              have r8_ : X4.cell? ⟨G, 8, none⟩ = some (.slice none 0 0) := rr.out.cell 8
              have g8_ := rr.out.free 8
              go_simp
              have nc := Lib.hid (NC.stored (m0 := m0) (m1 := m1) (m2 := m2) (m5 := m5) rr.out hlo hou.out hHeld.out.2.2.2)
              refine hK.out _ _ (SN.out _ _ _ _ _ _ _ _ _ _ _ hlo hHeld) (fun hHeld => ?_)
              clear hK K hou rr r0_ g0_ r1_ g1_ r2_ g2_ r3_ g3_ r4_ g4_ r5_ g5_ r6_ g6_ r7_ g7_ r8_ g8_
              try simp only [Act.put, List.getElem_toArray, List.getElem_cons_succ, List.getElem_cons_zero, List.setIfInBounds_toArray, List.set_cons_zero, List.set_cons_succ]
              refine wpAnyH_take (i := 10) (v := ?_) rfl (by kernel_rfl) (by kernel_rfl) (by kernel_rfl) (fun _ _ _ h => h) (Or.inl ⟨by kernel_rfl, ?_⟩) hHeld ?_
              rotate_left
              · intro X hX
                first | (go_simp; done) | (go_simp; with_reducible rfl)
              try simp only [Act.put, List.getElem_toArray, List.getElem_cons_succ, List.getElem_cons_zero, List.setIfInBounds_toArray, List.set_cons_zero, List.set_cons_succ]
              refine wpAnyH_done (by kernel_rfl) ?_ _
              have hz := hHeld.out.2.2.2
              clear hHeld
              go_wp2_with fail
              go_meet
              exact ⟨_, u3, uc3, u4, uc4, u6, uc6, u7, uc7, u8, uc8, rfl, rfl, nc.out⟩
    · go_simp
      have hlo : V1.heap.size ≤ X0.heap.size := hHeld.out.2.2.2.size
      have hal : Below X0.heap.size X0 (X0.alloc (.cells #[.int .i64 0, .int .i64 0, .int .i64 0, .slice none 0 0, .slice none 0 0, .int .i64 0, .slice none 0 0, .slice none 0 0, .slice none 0 0] ChanT)) := ((Below.refl _ _).alloc (Nat.le_refl _) _)
      refine hK.out _ _ (qv _ _ hHeld hal) (fun hHeld => ?_)
      clear hK K
      have rr := Lib.hid (VarA.new X0 ChanT #[.int .i64 0, .int .i64 0, .int .i64 0, .slice none 0 0, .slice none 0 0, .int .i64 0, .slice none 0 0, .slice none 0 0, .slice none 0 0])
      clear hal
      generalize X0.alloc (.cells #[.int .i64 0, .int .i64 0, .int .i64 0, .slice none 0 0, .slice none 0 0, .int .i64 0, .slice none 0 0, .slice none 0 0, .slice none 0 0] ChanT) = X1 at *
      generalize X0.heap.size = G at *
      try simp only [Act.put, List.getElem_toArray, List.getElem_cons_succ, List.getElem_cons_zero, List.setIfInBounds_toArray, List.set_cons_zero, List.set_cons_succ]
      refine wpAnyH_ready (rs := [1]) (by kernel_rfl) (by simp) ?_
      refine AllReadyH.cons rfl (fun K hK => ?_) AllReadyH.nil
      · go_simp
        go_wp2_with ((go_at_call 15; refine (KT.out _ hHeld).mono ?_; rintro e X2 ⟨t3, tc3, t4, tc4, t6, tc6, t7, tc7, t8, tc8, rfl, hq, hS, hb⟩))
        refine hK.out _ _ hS (fun hHeld => ?_)
        clear hK K hS
        replace rr := Lib.hid (rr.out.next hb.out)
        clear hb
        try simp only [Act.put, List.getElem_toArray, List.getElem_cons_succ, List.getElem_cons_zero, List.setIfInBounds_toArray, List.set_cons_zero, List.set_cons_succ]
        refine wpAnyH_ready (rs := [3]) (by kernel_rfl) (by simp) ?_
        refine AllReadyH.cons rfl (fun K hK => ?_) AllReadyH.nil
        · go_simp
          go_wp2_with ((go_at_call 26; refine (KP.out _ hHeld).mono ?_; rintro e X3 ⟨ta, tc, rfl, hp, hS, hb⟩))
          refine hK.out _ _ hS (fun hHeld => ?_)
          clear hK K hS
          replace hq := Lib.hid (hq.out.next hb.out)
          replace rr := Lib.hid (rr.out.next hb.out)
          clear hb
          try simp only [Act.put, List.getElem_toArray, List.getElem_cons_succ, List.getElem_cons_zero, List.setIfInBounds_toArray, List.set_cons_zero, List.set_cons_succ]
          refine wpAnyH_ready (rs := [4]) (by kernel_rfl) (by simp) ?_
          refine AllReadyH.cons rfl (fun K hK => ?_) AllReadyH.nil
          · go_simp
            go_wp2_with ((go_at_call 25; refine (KU.out _ _ _ _ _ _ _ _ _ _ _ _ _ hHeld hq hp).mono ?_; rintro e X4 ⟨u3, uc3, u4, uc4, u6, uc6, u7, uc7, u8, uc8, f3, f4, f6, f7, f8, rfl, hou, hS, hb⟩))
            refine hK.out _ _ hS (fun hHeld => ?_)
            clear hK K hS
            replace rr := Lib.hid (rr.out.next hb.out)
            clear hq hp
            clear hb
            try simp only [Act.put, List.getElem_toArray, List.getElem_cons_succ, List.getElem_cons_zero, List.setIfInBounds_toArray, List.set_cons_zero, List.set_cons_succ]
            refine wpAnyH_take (i := 5) (v := ?_) rfl (by kernel_rfl) (by kernel_rfl) (by kernel_rfl) (fun _ _ _ h => h) (Or.inl ⟨by kernel_rfl, ?_⟩) hHeld ?_
            rotate_left
            · intro X hX
              first | (go_simp; done) | (go_simp; with_reducible rfl)
            try simp only [Act.put, List.getElem_toArray, List.getElem_cons_succ, List.getElem_cons_zero, List.setIfInBounds_toArray, List.set_cons_zero, List.set_cons_succ]
            refine wpAnyH_take (i := 6) (v := ?_) rfl (by kernel_rfl) (by kernel_rfl) (by kernel_rfl) (fun _ _ _ h => h) (Or.inl ⟨by kernel_rfl, ?_⟩) hHeld ?_
            rotate_left
            · intro X hX
              first | (go_simp; done) | (go_simp; with_reducible rfl)
            try simp only [Act.put, List.getElem_toArray, List.getElem_cons_succ, List.getElem_cons_zero, List.setIfInBounds_toArray, List.set_cons_zero, List.set_cons_succ]
            refine wpAnyH_take (i := 7) (v := ?_) rfl (by kernel_rfl) (by kernel_rfl) (by kernel_rfl) (fun _ _ _ h => h) (Or.inl ⟨by kernel_rfl, ?_⟩) hHeld ?_
            rotate_left
            · intro X hX
              first | (go_simp; done) | (go_simp; with_reducible rfl)
            try simp only [Act.put, List.getElem_toArray, List.getElem_cons_succ, List.getElem_cons_zero, List.setIfInBounds_toArray, List.set_cons_zero, List.set_cons_succ]
            refine wpAnyH_ready (rs := [9]) (by kernel_rfl) (by simp) ?_
            refine AllReadyH.cons rfl (fun K hK => ?_) AllReadyH.nil
            · have r0_ : X4.cell? ⟨G, 0, none⟩ = some (.int .i64 0) := rr.out.cell 0
              have g0_ := rr.out.free 0
              have r1_ : X4.cell? ⟨G, 1, none⟩ = some (.int .i64 0) := rr.out.cell 1
              have g1_ := rr.out.free 1
              have r2_ : X4.cell? ⟨G, 2, none⟩ = some (.int .i64 0) := rr.out.cell 2
              have g2_ := rr.out.free 2
              have r3_ : X4.cell? ⟨G, 3, none⟩ = some (.slice none 0 0) := rr.out.cell 3
              have g3_ := rr.out.free 3
              have r4_ : X4.cell? ⟨G, 4, none⟩ = some (.slice none 0 0) := rr.out.cell 4
              have g4_ := rr.out.free 4
              have r5_ : X4.cell? ⟨G, 5, none⟩ = some (.int .i64 0) := rr.out.cell 5
              have g5_ := rr.out.free 5
              have r6_ : X4.cell? ⟨G, 6, none⟩ = some (.slice none 0 0) := rr.out.cell 6
              have g6_ := rr.out.free 6
              have r7_ : X4.cell? ⟨G, 7, none⟩ = some (.slice none 0 0) := rr.out.cell 7
              have g7_ := rr.out.free 7
              have r8_ : X4.cell? ⟨G, 8, none⟩ = some (.slice none 0 0) := rr.out.cell 8
              have g8_ := rr.out.free 8
              go_simp
              have nc := Lib.hid (NC.stored (m0 := m0) (m1 := m1) (m2 := m2) (m5 := m5) rr.out hlo hou.out hHeld.out.2.2.2)
              refine hK.out _ _ (SN.out _ _ _ _ _ _ _ _ _ _ _ hlo hHeld) (fun hHeld => ?_)
              clear hK K hou rr r0_ g0_ r1_ g1_ r2_ g2_ r3_ g3_ r4_ g4_ r5_ g5_ r6_ g6_ r7_ g7_ r8_ g8_
              try simp only [Act.put, List.getElem_toArray, List.getElem_cons_succ, List.getElem_cons_zero, List.setIfInBounds_toArray, List.set_cons_zero, List.set_cons_succ]
              refine wpAnyH_take (i := 10) (v := ?_) rfl (by kernel_rfl) (by kernel_rfl) (by kernel_rfl) (fun _ _ _ h => h) (Or.inl ⟨by kernel_rfl, ?_⟩) hHeld ?_
              rotate_left
              · intro X hX
                first | (go_simp; done) | (go_simp; with_reducible rfl)
              try simp only [Act.put, List.getElem_toArray, List.getElem_cons_succ, List.getElem_cons_zero, List.setIfInBounds_toArray, List.set_cons_zero, List.set_cons_succ]
              refine wpAnyH_done (by kernel_rfl) ?_ _
              have hz := hHeld.out.2.2.2
              clear hHeld
              go_wp2_with fail
              go_meet
              exact ⟨_, u3, uc3, u4, uc4, u6, uc6, u7, uc7, u8, uc8, rfl, rfl, nc.out⟩
  case rest =>
    obtain ⟨gu, u3, uc3, u4, uc4, u6, uc6, u7, uc7, u8, uc8, rfl, rfl, hnc⟩ := hcut
    generalize wc = V4 at *
    have A4 : Hid (VarA w.heap.size 36 #[.int .i64 n0, .int .i64 n1, .int .i64 n2, .slice b3 p3.length bc3, .slice b4 p4.length bc4, .int .i64 n5, .slice b6 p6.length bc6, .slice b7 p7.length bc7, .slice b8 p8.length bc8] V4 ∧ VarA (w.heap.size + 1) LPkT #[.int .i64 op, .int .i64 key, .int .i64 fr, .int .i64 dst, .int .i64 num, .slice pb acks.length pbc, .string body] V4 ∧ Below w.heap.size w V4) := Lib.hid ⟨Z2.out.1.next hnc.below, Z2.out.2.1.next hnc.below, Z2.out.2.2.trans (hnc.below.mono Z2.out.2.2.size)⟩
    have U4 := Lib.hid hnc.cu
    have o1 : w.heap.size + 1 < V1.heap.size := hbx
    have o2 : V1.heap.size ≤ gu := hnc.low
    have o3 : gu < V4.heap.size := hnc.cu.var.lt
    have o4 : V1.heap.size ≤ V4.heap.size := hnc.below.size
    clear hnc hbx Z2 E0 SN KT KP KU qv
    generalize V1.heap.size = lu at *
    clear V1
    generalize hlx : V4.heap.size = lx at U4 o3 o4
    have c0 : V4.cell? ⟨w.heap.size, 0, none⟩ = some (.int .i64 n0) := A4.out.1.cell 0
    have c1 : V4.cell? ⟨w.heap.size, 1, none⟩ = some (.int .i64 n1) := A4.out.1.cell 1
    have c2 : V4.cell? ⟨w.heap.size, 2, none⟩ = some (.int .i64 n2) := A4.out.1.cell 2
    have c3 : V4.cell? ⟨w.heap.size, 3, none⟩ = some (.slice b3 p3.length bc3) := A4.out.1.cell 3
    have c4 : V4.cell? ⟨w.heap.size, 4, none⟩ = some (.slice b4 p4.length bc4) := A4.out.1.cell 4
    have c5 : V4.cell? ⟨w.heap.size, 5, none⟩ = some (.int .i64 n5) := A4.out.1.cell 5
    have c6 : V4.cell? ⟨w.heap.size, 6, none⟩ = some (.slice b6 p6.length bc6) := A4.out.1.cell 6
    have c7 : V4.cell? ⟨w.heap.size, 7, none⟩ = some (.slice b7 p7.length bc7) := A4.out.1.cell 7
    have c8 : V4.cell? ⟨w.heap.size, 8, none⟩ = some (.slice b8 p8.length bc8) := A4.out.1.cell 8
    go_wp2_with fail
    refine (TT.out V4 A4.out.2.2).mono ?_
    rintro e Y5 ⟨v, rfl, hv⟩
    obtain ⟨x3, xc3, x4, xc4, x6, xc6, x7, xc7, x8, xc8, f3, f4, f6, f7, f8, rfl, hco5, hb5⟩ := hv
    have hal : Below Y5.heap.size Y5 (Y5.alloc (.cells #[.int .i64 n0, .int .i64 n1, .int .i64 n2, .slice x3 p3.length xc3, .slice x4 p4.length xc4, .int .i64 n5, .slice x6 p6.length xc6, .slice x7 p7.length xc7, .slice x8 p8.length xc8] ChanT)) := (Below.refl _ _).alloc (Nat.le_refl _) _
    have X6 := Lib.hid (CV.new (m0 := n0) (m1 := n1) (m2 := n2) (m5 := n5) hco5)
    rw [hlx] at X6
    have U6 := Lib.hid ((U4.out.next hb5).next hal)
    have A6 : Hid (VarA w.heap.size 36 #[.int .i64 n0, .int .i64 n1, .int .i64 n2, .slice b3 p3.length bc3, .slice b4 p4.length bc4, .int .i64 n5, .slice b6 p6.length bc6, .slice b7 p7.length bc7, .slice b8 p8.length bc8] (Y5.alloc (.cells #[.int .i64 n0, .int .i64 n1, .int .i64 n2, .slice x3 p3.length xc3, .slice x4 p4.length xc4, .int .i64 n5, .slice x6 p6.length xc6, .slice x7 p7.length xc7, .slice x8 p8.length xc8] ChanT)) ∧ VarA (w.heap.size + 1) LPkT #[.int .i64 op, .int .i64 key, .int .i64 fr, .int .i64 dst, .int .i64 num, .slice pb acks.length pbc, .string body] (Y5.alloc (.cells #[.int .i64 n0, .int .i64 n1, .int .i64 n2, .slice x3 p3.length xc3, .slice x4 p4.length xc4, .int .i64 n5, .slice x6 p6.length xc6, .slice x7 p7.length xc7, .slice x8 p8.length xc8] ChanT)) ∧ Below w.heap.size w (Y5.alloc (.cells #[.int .i64 n0, .int .i64 n1, .int .i64 n2, .slice x3 p3.length xc3, .slice x4 p4.length xc4, .int .i64 n5, .slice x6 p6.length xc6, .slice x7 p7.length xc7, .slice x8 p8.length xc8] ChanT))) := Lib.hid ⟨(A4.out.1.next hb5).next hal, (A4.out.2.1.next hb5).next hal, (A4.out.2.2.trans (hb5.mono A4.out.2.2.size)).trans (hal.mono (A4.out.2.2.trans (hb5.mono A4.out.2.2.size)).size)⟩
    have o5 : lx ≤ Y5.heap.size := hlx ▸ hb5.size
    have hs6 : (Y5.alloc (.cells #[.int .i64 n0, .int .i64 n1, .int .i64 n2, .slice x3 p3.length xc3, .slice x4 p4.length xc4, .int .i64 n5, .slice x6 p6.length xc6, .slice x7 p7.length xc7, .slice x8 p8.length xc8] ChanT)).heap.size = Y5.heap.size + 1 := by simp
    clear hco5 hb5 hal U4 A4 c0 c1 c2 c3 c4 c5 c6 c7 c8 f3 f4 f6 f7 f8 hlx
    go_upto_region 10 with fail
    generalize Y5.alloc (.cells #[.int .i64 n0, .int .i64 n1, .int .i64 n2, .slice x3 p3.length xc3, .slice x4 p4.length xc4, .int .i64 n5, .slice x6 p6.length xc6, .slice x7 p7.length xc7, .slice x8 p8.length xc8] ChanT) = V6 at *
    generalize Y5.heap.size = gx at *
    clear V4 Y5
    have c0 : V6.cell? ⟨w.heap.size + 1, 0, none⟩ = some (.int .i64 op) := A6.out.2.1.cell 0
    have c1 : V6.cell? ⟨w.heap.size + 1, 1, none⟩ = some (.int .i64 key) := A6.out.2.1.cell 1
    have c2 : V6.cell? ⟨w.heap.size + 1, 2, none⟩ = some (.int .i64 fr) := A6.out.2.1.cell 2
    have c3 : V6.cell? ⟨w.heap.size + 1, 3, none⟩ = some (.int .i64 dst) := A6.out.2.1.cell 3
    have c4 : V6.cell? ⟨w.heap.size + 1, 4, none⟩ = some (.int .i64 num) := A6.out.2.1.cell 4
    have c5 : V6.cell? ⟨w.heap.size + 1, 5, none⟩ = some (.slice pb acks.length pbc) := A6.out.2.1.cell 5
    have c6 : V6.cell? ⟨w.heap.size + 1, 6, none⟩ = some (.string body) := A6.out.2.1.cell 6
    go_wp2_with fail
    refine (TP.out V6 A6.out.2.2).mono ?_
    rintro e Y7 ⟨px, pxc, f, rfl, hd7, hco7, hb7⟩
    have hal : Below Y7.heap.size Y7 (Y7.alloc (.cells #[.int .i64 op, .int .i64 key, .int .i64 fr, .int .i64 dst, .int .i64 num, .slice px acks.length pxc, .string body] PkT)) := (Below.refl _ _).alloc (Nat.le_refl _) _
    have P8 := Lib.hid (PU.new (op := op) (key := key) (fr := fr) (dst := dst) (num := num) (body := body) hd7 hco7)
    rw [hs6] at P8
    have U8 := Lib.hid ((U6.out.next hb7).next hal)
    have X8 := Lib.hid ((X6.out.next hb7).next hal)
    have A8 : Hid (VarA w.heap.size 36 #[.int .i64 n0, .int .i64 n1, .int .i64 n2, .slice b3 p3.length bc3, .slice b4 p4.length bc4, .int .i64 n5, .slice b6 p6.length bc6, .slice b7 p7.length bc7, .slice b8 p8.length bc8] (Y7.alloc (.cells #[.int .i64 op, .int .i64 key, .int .i64 fr, .int .i64 dst, .int .i64 num, .slice px acks.length pxc, .string body] PkT)) ∧ VarA (w.heap.size + 1) LPkT #[.int .i64 op, .int .i64 key, .int .i64 fr, .int .i64 dst, .int .i64 num, .slice pb acks.length pbc, .string body] (Y7.alloc (.cells #[.int .i64 op, .int .i64 key, .int .i64 fr, .int .i64 dst, .int .i64 num, .slice px acks.length pxc, .string body] PkT)) ∧ Below w.heap.size w (Y7.alloc (.cells #[.int .i64 op, .int .i64 key, .int .i64 fr, .int .i64 dst, .int .i64 num, .slice px acks.length pxc, .string body] PkT))) := Lib.hid ⟨(A6.out.1.next hb7).next hal, (A6.out.2.1.next hb7).next hal, (A6.out.2.2.trans (hb7.mono A6.out.2.2.size)).trans (hal.mono (A6.out.2.2.trans (hb7.mono A6.out.2.2.size)).size)⟩
    have o6 : gx + 1 ≤ Y7.heap.size := hs6 ▸ hb7.size
    have hs8 : (Y7.alloc (.cells #[.int .i64 op, .int .i64 key, .int .i64 fr, .int .i64 dst, .int .i64 num, .slice px acks.length pxc, .string body] PkT)).heap.size = Y7.heap.size + 1 := by simp
    clear hd7 hco7 hb7 hal U6 X6 A6 hs6 c0 c1 c2 c3 c4 c5 c6 f
    go_upto_region 11 with fail
    generalize Y7.alloc (.cells #[.int .i64 op, .int .i64 key, .int .i64 fr, .int .i64 dst, .int .i64 num, .slice px acks.length pxc, .string body] PkT) = V8 at *
    generalize Y7.heap.size = gp at *
    clear V6 Y7
    obtain ⟨lp, hlp⟩ : ∃ l, l = gx + 1 := ⟨_, rfl⟩
    rw [← hlp] at P8
    have c0 : V8.cell? ⟨gx, 0, none⟩ = some (.int .i64 n0) := X8.out.var.cell 0
    have c1 : V8.cell? ⟨gx, 1, none⟩ = some (.int .i64 n1) := X8.out.var.cell 1
    have c2 : V8.cell? ⟨gx, 2, none⟩ = some (.int .i64 n2) := X8.out.var.cell 2
    have c3 : V8.cell? ⟨gx, 3, none⟩ = some (.slice x3 p3.length xc3) := X8.out.var.cell 3
    have c4 : V8.cell? ⟨gx, 4, none⟩ = some (.slice x4 p4.length xc4) := X8.out.var.cell 4
    have c5 : V8.cell? ⟨gx, 5, none⟩ = some (.int .i64 n5) := X8.out.var.cell 5
    have c6 : V8.cell? ⟨gx, 6, none⟩ = some (.slice x6 p6.length xc6) := X8.out.var.cell 6
    have c7 : V8.cell? ⟨gx, 7, none⟩ = some (.slice x7 p7.length xc7) := X8.out.var.cell 7
    have c8 : V8.cell? ⟨gx, 8, none⟩ = some (.slice x8 p8.length xc8) := X8.out.var.cell 8
    have d0 : V8.cell? ⟨gp, 0, none⟩ = some (.int .i64 op) := P8.out.var.cell 0
    have d1 : V8.cell? ⟨gp, 1, none⟩ = some (.int .i64 key) := P8.out.var.cell 1
    have d2 : V8.cell? ⟨gp, 2, none⟩ = some (.int .i64 fr) := P8.out.var.cell 2
    have d3 : V8.cell? ⟨gp, 3, none⟩ = some (.int .i64 dst) := P8.out.var.cell 3
    have d4 : V8.cell? ⟨gp, 4, none⟩ = some (.int .i64 num) := P8.out.var.cell 4
    have d5 : V8.cell? ⟨gp, 5, none⟩ = some (.slice px acks.length pxc) := P8.out.var.cell 5
    have d6 : V8.cell? ⟨gp, 6, none⟩ = some (.string body) := P8.out.var.cell 6
    have KI := Lib.hid (HI.out HF.out la lb _ _ _ _ _ _ V8 X8.out.rd P8.out.rd)
    go_wp2_with fail
    refine (KI.out).mono ?_
    rintro e Y9 ⟨v, rfl, hv⟩
    obtain ⟨g3, gc3, g4, gc4, g6, gc6, g7, gc7, g8, gc8, f3, f4, f6, f7, f8, rfl, hco9, hb9⟩ := hv
    have hal : Below Y9.heap.size Y9 (Y9.alloc (.cells #[.int .i64 m0, .int .i64 m1, .int .i64 m2, .slice g3 r3.length gc3, .slice g4 r4.length gc4, .int .i64 m5, .slice g6 r6.length gc6, .slice g7 r7.length gc7, .slice g8 r8.length gc8] ChanT)) := (Below.refl _ _).alloc (Nat.le_refl _) _
    have G10 := Lib.hid (CV.new (m0 := m0) (m1 := m1) (m2 := m2) (m5 := m5) hco9)
    rw [hs8] at G10
    obtain ⟨lg, hlg⟩ : ∃ l, l = gp + 1 := ⟨_, rfl⟩
    rw [← hlg] at G10
    have o7 : gp + 1 ≤ Y9.heap.size := hs8 ▸ hb9.size
    have Q10 := Lib.hid (⟨(A8.out.1.next hb9).next hal, (A8.out.2.1.next hb9).next hal, (U8.out.next hb9).next hal, (X8.out.next hb9).next hal, (P8.out.next hb9).next hal, G10.out, (A8.out.2.2.trans (hb9.mono A8.out.2.2.size)).trans (hal.mono (A8.out.2.2.trans (hb9.mono A8.out.2.2.size)).size)⟩ : _ ∧ _ ∧ _ ∧ _ ∧ _ ∧ _ ∧ _)
    clear hco9 hb9 hal U8 X8 P8 A8 G10 hs8 KI c0 c1 c2 c3 c4 c5 c6 c7 c8 d0 d1 d2 d3 d4 d5 d6 f3 f4 f6 f7 f8
    go_upto_region 12 with fail
    generalize Y9.alloc (.cells #[.int .i64 m0, .int .i64 m1, .int .i64 m2, .slice g3 r3.length gc3, .slice g4 r4.length gc4, .int .i64 m5, .slice g6 r6.length gc6, .slice g7 r7.length gc7, .slice g8 r8.length gc8] ChanT) = V10 at *
    generalize Y9.heap.size = gg at *
    clear V8 Y9
    obtain ⟨hu, hhu⟩ : ∃ l, l = lx := ⟨_, rfl⟩
    have Q11 : Hid (VarA w.heap.size 36 #[.int .i64 n0, .int .i64 n1, .int .i64 n2, .slice b3 p3.length bc3, .slice b4 p4.length bc4, .int .i64 n5, .slice b6 p6.length bc6, .slice b7 p7.length bc7, .slice b8 p8.length bc8] V10 ∧ VarA (w.heap.size + 1) LPkT #[.int .i64 op, .int .i64 key, .int .i64 fr, .int .i64 dst, .int .i64 num, .slice pb acks.length pbc, .string body] V10 ∧ CU lu hu gu m0 m1 m2 m5 (.slice u3 r3.length uc3) (.slice u4 r4.length uc4) (.slice u6 r6.length uc6) (.slice u7 r7.length uc7) (.slice u8 r8.length uc8) r3 r4 r6 r7 r8 V10 ∧ CV lx gx gx n0 n1 n2 n5 (.slice x3 p3.length xc3) (.slice x4 p4.length xc4) (.slice x6 p6.length xc6) (.slice x7 p7.length xc7) (.slice x8 p8.length xc8) p3 p4 p6 p7 p8 V10 ∧ PU lp gp gp op key fr dst num (.slice px acks.length pxc) acks body V10 ∧ CV lg gg gg m0 m1 m2 m5 (.slice g3 r3.length gc3) (.slice g4 r4.length gc4) (.slice g6 r6.length gc6) (.slice g7 r7.length gc7) (.slice g8 r8.length gc8) r3 r4 r6 r7 r8 V10 ∧ Below w.heap.size w V10) := Lib.hid (hhu ▸ Q10.out)
    clear Q10
    have qt : ∀ X Y, (VarA w.heap.size 36 #[.int .i64 n0, .int .i64 n1, .int .i64 n2, .slice b3 p3.length bc3, .slice b4 p4.length bc4, .int .i64 n5, .slice b6 p6.length bc6, .slice b7 p7.length bc7, .slice b8 p8.length bc8] X ∧ VarA (w.heap.size + 1) LPkT #[.int .i64 op, .int .i64 key, .int .i64 fr, .int .i64 dst, .int .i64 num, .slice pb acks.length pbc, .string body] X ∧ CU lu hu gu m0 m1 m2 m5 (.slice u3 r3.length uc3) (.slice u4 r4.length uc4) (.slice u6 r6.length uc6) (.slice u7 r7.length uc7) (.slice u8 r8.length uc8) r3 r4 r6 r7 r8 X ∧ CV lx gx gx n0 n1 n2 n5 (.slice x3 p3.length xc3) (.slice x4 p4.length xc4) (.slice x6 p6.length xc6) (.slice x7 p7.length xc7) (.slice x8 p8.length xc8) p3 p4 p6 p7 p8 X ∧ PU lp gp gp op key fr dst num (.slice px acks.length pxc) acks body X ∧ CV lg gg gg m0 m1 m2 m5 (.slice g3 r3.length gc3) (.slice g4 r4.length gc4) (.slice g6 r6.length gc6) (.slice g7 r7.length gc7) (.slice g8 r8.length gc8) r3 r4 r6 r7 r8 X ∧ Below w.heap.size w X) → Below X.heap.size X Y → (VarA w.heap.size 36 #[.int .i64 n0, .int .i64 n1, .int .i64 n2, .slice b3 p3.length bc3, .slice b4 p4.length bc4, .int .i64 n5, .slice b6 p6.length bc6, .slice b7 p7.length bc7, .slice b8 p8.length bc8] Y ∧ VarA (w.heap.size + 1) LPkT #[.int .i64 op, .int .i64 key, .int .i64 fr, .int .i64 dst, .int .i64 num, .slice pb acks.length pbc, .string body] Y ∧ CU lu hu gu m0 m1 m2 m5 (.slice u3 r3.length uc3) (.slice u4 r4.length uc4) (.slice u6 r6.length uc6) (.slice u7 r7.length uc7) (.slice u8 r8.length uc8) r3 r4 r6 r7 r8 Y ∧ CV lx gx gx n0 n1 n2 n5 (.slice x3 p3.length xc3) (.slice x4 p4.length xc4) (.slice x6 p6.length xc6) (.slice x7 p7.length xc7) (.slice x8 p8.length xc8) p3 p4 p6 p7 p8 Y ∧ PU lp gp gp op key fr dst num (.slice px acks.length pxc) acks body Y ∧ CV lg gg gg m0 m1 m2 m5 (.slice g3 r3.length gc3) (.slice g4 r4.length gc4) (.slice g6 r6.length gc6) (.slice g7 r7.length gc7) (.slice g8 r8.length gc8) r3 r4 r6 r7 r8 Y ∧ Below w.heap.size w Y) := fun X Y h hb => ⟨h.1.next hb, h.2.1.next hb, h.2.2.1.next hb, h.2.2.2.1.next hb, h.2.2.2.2.1.next hb, h.2.2.2.2.2.1.next hb, h.2.2.2.2.2.2.trans (hb.mono h.2.2.2.2.2.2.size)⟩
    have d0 : V10.cell? ⟨gg, 0, none⟩ = some (.int .i64 m0) := Q11.out.2.2.2.2.2.1.var.cell 0
    have d1 : V10.cell? ⟨gg, 1, none⟩ = some (.int .i64 m1) := Q11.out.2.2.2.2.2.1.var.cell 1
    have d2 : V10.cell? ⟨gg, 2, none⟩ = some (.int .i64 m2) := Q11.out.2.2.2.2.2.1.var.cell 2
    have d3 : V10.cell? ⟨gg, 3, none⟩ = some (.slice g3 r3.length gc3) := Q11.out.2.2.2.2.2.1.var.cell 3
    have d4 : V10.cell? ⟨gg, 4, none⟩ = some (.slice g4 r4.length gc4) := Q11.out.2.2.2.2.2.1.var.cell 4
    have d5 : V10.cell? ⟨gg, 5, none⟩ = some (.int .i64 m5) := Q11.out.2.2.2.2.2.1.var.cell 5
    have d6 : V10.cell? ⟨gg, 6, none⟩ = some (.slice g6 r6.length gc6) := Q11.out.2.2.2.2.2.1.var.cell 6
    have d7 : V10.cell? ⟨gg, 7, none⟩ = some (.slice g7 r7.length gc7) := Q11.out.2.2.2.2.2.1.var.cell 7
    have d8 : V10.cell? ⟨gg, 8, none⟩ = some (.slice g8 r8.length gc8) := Q11.out.2.2.2.2.2.1.var.cell 8
    have e0 : V10.cell? ⟨gu, 0, none⟩ = some (.int .i64 m0) := Q11.out.2.2.1.var.cell 0
    have e1 : V10.cell? ⟨gu, 1, none⟩ = some (.int .i64 m1) := Q11.out.2.2.1.var.cell 1
    have e2 : V10.cell? ⟨gu, 2, none⟩ = some (.int .i64 m2) := Q11.out.2.2.1.var.cell 2
    have e3 : V10.cell? ⟨gu, 3, none⟩ = some (.slice u3 r3.length uc3) := Q11.out.2.2.1.var.cell 3
    have e4 : V10.cell? ⟨gu, 4, none⟩ = some (.slice u4 r4.length uc4) := Q11.out.2.2.1.var.cell 4
    have e5 : V10.cell? ⟨gu, 5, none⟩ = some (.int .i64 m5) := Q11.out.2.2.1.var.cell 5
    have e6 : V10.cell? ⟨gu, 6, none⟩ = some (.slice u6 r6.length uc6) := Q11.out.2.2.1.var.cell 6
    have e7 : V10.cell? ⟨gu, 7, none⟩ = some (.slice u7 r7.length uc7) := Q11.out.2.2.1.var.cell 7
    have e8 : V10.cell? ⟨gu, 8, none⟩ = some (.slice u8 r8.length uc8) := Q11.out.2.2.1.var.cell 8
    have K8 := Lib.hid (chan_eq (m0 := m0) (m1 := m1) (m2 := m2) (m5 := m5) Q11.out.2.2.2.2.2.1.rd Q11.out.2.2.1.rd HFR.out)
    go_wp2_with fail
    refine (K8.out).mono ?_
    rintro e V11 ⟨rfl, hb9⟩
    have Q12 := Lib.hid (qt _ _ Q11.out hb9)
    clear hb9 K8 Q11 d0 d1 d2 d3 d4 d5 d6 d7 d8 e0 e1 e2 e3 e4 e5 e6 e7 e8
    have S0 : Hid (∀ X, (VarA w.heap.size 36 #[.int .i64 n0, .int .i64 n1, .int .i64 n2, .slice b3 p3.length bc3, .slice b4 p4.length bc4, .int .i64 n5, .slice b6 p6.length bc6, .slice b7 p7.length bc7, .slice b8 p8.length bc8] X ∧ VarA (w.heap.size + 1) LPkT #[.int .i64 op, .int .i64 key, .int .i64 fr, .int .i64 dst, .int .i64 num, .slice pb acks.length pbc, .string body] X ∧ CU lu hu gu m0 m1 m2 m5 (.slice u3 r3.length uc3) (.slice u4 r4.length uc4) (.slice u6 r6.length uc6) (.slice u7 r7.length uc7) (.slice u8 r8.length uc8) r3 r4 r6 r7 r8 X ∧ CV lx gx gx n0 n1 n2 n5 (.slice x3 p3.length xc3) (.slice x4 p4.length xc4) (.slice x6 p6.length xc6) (.slice x7 p7.length xc7) (.slice x8 p8.length xc8) p3 p4 p6 p7 p8 X ∧ PU lp gp gp op key fr dst num (.slice px acks.length pxc) acks body X ∧ CV lg gg gg m0 m1 m2 m5 (.slice g3 r3.length gc3) (.slice g4 r4.length gc4) (.slice g6 r6.length gc6) (.slice g7 r7.length gc7) (.slice g8 r8.length gc8) r3 r4 r6 r7 r8 X ∧ Below w.heap.size w X) → (X.cell? ⟨gx, 0, none⟩ = some (.int .i64 n0) ∧ X.cell? ⟨gx, 1, none⟩ = some (.int .i64 n1) ∧ X.cell? ⟨gx, 2, none⟩ = some (.int .i64 n2) ∧ X.cell? ⟨gx, 3, none⟩ = some (.slice x3 p3.length xc3) ∧ X.cell? ⟨gx, 4, none⟩ = some (.slice x4 p4.length xc4) ∧ X.cell? ⟨gx, 5, none⟩ = some (.int .i64 n5) ∧ X.cell? ⟨gx, 6, none⟩ = some (.slice x6 p6.length xc6) ∧ X.cell? ⟨gx, 7, none⟩ = some (.slice x7 p7.length xc7) ∧ X.cell? ⟨gx, 8, none⟩ = some (.slice x8 p8.length xc8) ∧ X.cell? ⟨w.heap.size, 0, none⟩ = some (.int .i64 n0) ∧ X.cell? ⟨w.heap.size, 1, none⟩ = some (.int .i64 n1) ∧ X.cell? ⟨w.heap.size, 2, none⟩ = some (.int .i64 n2) ∧ X.cell? ⟨w.heap.size, 3, none⟩ = some (.slice b3 p3.length bc3) ∧ X.cell? ⟨w.heap.size, 4, none⟩ = some (.slice b4 p4.length bc4) ∧ X.cell? ⟨w.heap.size, 5, none⟩ = some (.int .i64 n5) ∧ X.cell? ⟨w.heap.size, 6, none⟩ = some (.slice b6 p6.length bc6) ∧ X.cell? ⟨w.heap.size, 7, none⟩ = some (.slice b7 p7.length bc7) ∧ X.cell? ⟨w.heap.size, 8, none⟩ = some (.slice b8 p8.length bc8) ∧ VarA w.heap.size 36 #[.int .i64 n0, .int .i64 n1, .int .i64 n2, .slice b3 p3.length bc3, .slice b4 p4.length bc4, .int .i64 n5, .slice b6 p6.length bc6, .slice b7 p7.length bc7, .slice b8 p8.length bc8] X ∧ VarA (w.heap.size + 1) LPkT #[.int .i64 op, .int .i64 key, .int .i64 fr, .int .i64 dst, .int .i64 num, .slice pb acks.length pbc, .string body] X ∧ CU lu hu gu m0 m1 m2 m5 (.slice u3 r3.length uc3) (.slice u4 r4.length uc4) (.slice u6 r6.length uc6) (.slice u7 r7.length uc7) (.slice u8 r8.length uc8) r3 r4 r6 r7 r8 X ∧ CV lx gx gx n0 n1 n2 n5 (.slice x3 p3.length xc3) (.slice x4 p4.length xc4) (.slice x6 p6.length xc6) (.slice x7 p7.length xc7) (.slice x8 p8.length xc8) p3 p4 p6 p7 p8 X ∧ PU lp gp gp op key fr dst num (.slice px acks.length pxc) acks body X ∧ CV lg gg gg m0 m1 m2 m5 (.slice g3 r3.length gc3) (.slice g4 r4.length gc4) (.slice g6 r6.length gc6) (.slice g7 r7.length gc7) (.slice g8 r8.length gc8) r3 r4 r6 r7 r8 X ∧ Below w.heap.size w X)) := Lib.hid (fun X h => ⟨h.2.2.2.1.var.cell 0, h.2.2.2.1.var.cell 1, h.2.2.2.1.var.cell 2, h.2.2.2.1.var.cell 3, h.2.2.2.1.var.cell 4, h.2.2.2.1.var.cell 5, h.2.2.2.1.var.cell 6, h.2.2.2.1.var.cell 7, h.2.2.2.1.var.cell 8, h.1.cell 0, h.1.cell 1, h.1.cell 2, h.1.cell 3, h.1.cell 4, h.1.cell 5, h.1.cell 6, h.1.cell 7, h.1.cell 8, h⟩)
    have S1 : Hid (V11.drew.cell? ⟨gx, 0, none⟩ = some (.int .i64 n0) ∧ V11.drew.cell? ⟨gx, 1, none⟩ = some (.int .i64 n1) ∧ V11.drew.cell? ⟨gx, 2, none⟩ = some (.int .i64 n2) ∧ V11.drew.cell? ⟨gx, 3, none⟩ = some (.slice x3 p3.length xc3) ∧ V11.drew.cell? ⟨gx, 4, none⟩ = some (.slice x4 p4.length xc4) ∧ V11.drew.cell? ⟨gx, 5, none⟩ = some (.int .i64 n5) ∧ V11.drew.cell? ⟨gx, 6, none⟩ = some (.slice x6 p6.length xc6) ∧ V11.drew.cell? ⟨gx, 7, none⟩ = some (.slice x7 p7.length xc7) ∧ V11.drew.cell? ⟨gx, 8, none⟩ = some (.slice x8 p8.length xc8) ∧ V11.drew.cell? ⟨w.heap.size, 0, none⟩ = some (.int .i64 n0) ∧ V11.drew.cell? ⟨w.heap.size, 1, none⟩ = some (.int .i64 n1) ∧ V11.drew.cell? ⟨w.heap.size, 2, none⟩ = some (.int .i64 n2) ∧ V11.drew.cell? ⟨w.heap.size, 3, none⟩ = some (.slice b3 p3.length bc3) ∧ V11.drew.cell? ⟨w.heap.size, 4, none⟩ = some (.slice b4 p4.length bc4) ∧ V11.drew.cell? ⟨w.heap.size, 5, none⟩ = some (.int .i64 n5) ∧ V11.drew.cell? ⟨w.heap.size, 6, none⟩ = some (.slice b6 p6.length bc6) ∧ V11.drew.cell? ⟨w.heap.size, 7, none⟩ = some (.slice b7 p7.length bc7) ∧ V11.drew.cell? ⟨w.heap.size, 8, none⟩ = some (.slice b8 p8.length bc8) ∧ VarA w.heap.size 36 #[.int .i64 n0, .int .i64 n1, .int .i64 n2, .slice b3 p3.length bc3, .slice b4 p4.length bc4, .int .i64 n5, .slice b6 p6.length bc6, .slice b7 p7.length bc7, .slice b8 p8.length bc8] V11.drew ∧ VarA (w.heap.size + 1) LPkT #[.int .i64 op, .int .i64 key, .int .i64 fr, .int .i64 dst, .int .i64 num, .slice pb acks.length pbc, .string body] V11.drew ∧ CU lu hu gu m0 m1 m2 m5 (.slice u3 r3.length uc3) (.slice u4 r4.length uc4) (.slice u6 r6.length uc6) (.slice u7 r7.length uc7) (.slice u8 r8.length uc8) r3 r4 r6 r7 r8 V11.drew ∧ CV lx gx gx n0 n1 n2 n5 (.slice x3 p3.length xc3) (.slice x4 p4.length xc4) (.slice x6 p6.length xc6) (.slice x7 p7.length xc7) (.slice x8 p8.length xc8) p3 p4 p6 p7 p8 V11.drew ∧ PU lp gp gp op key fr dst num (.slice px acks.length pxc) acks body V11.drew ∧ CV lg gg gg m0 m1 m2 m5 (.slice g3 r3.length gc3) (.slice g4 r4.length gc4) (.slice g6 r6.length gc6) (.slice g7 r7.length gc7) (.slice g8 r8.length gc8) r3 r4 r6 r7 r8 V11.drew ∧ Below w.heap.size w V11.drew) := Lib.hid (S0.out _ (qt _ _ Q12.out ((Below.refl _ _).drew)))
    have KT : Hid (∀ X, (X.cell? ⟨gx, 0, none⟩ = some (.int .i64 n0) ∧ X.cell? ⟨gx, 1, none⟩ = some (.int .i64 n1) ∧ X.cell? ⟨gx, 2, none⟩ = some (.int .i64 n2) ∧ X.cell? ⟨gx, 3, none⟩ = some (.slice x3 p3.length xc3) ∧ X.cell? ⟨gx, 4, none⟩ = some (.slice x4 p4.length xc4) ∧ X.cell? ⟨gx, 5, none⟩ = some (.int .i64 n5) ∧ X.cell? ⟨gx, 6, none⟩ = some (.slice x6 p6.length xc6) ∧ X.cell? ⟨gx, 7, none⟩ = some (.slice x7 p7.length xc7) ∧ X.cell? ⟨gx, 8, none⟩ = some (.slice x8 p8.length xc8) ∧ X.cell? ⟨w.heap.size, 0, none⟩ = some (.int .i64 n0) ∧ X.cell? ⟨w.heap.size, 1, none⟩ = some (.int .i64 n1) ∧ X.cell? ⟨w.heap.size, 2, none⟩ = some (.int .i64 n2) ∧ X.cell? ⟨w.heap.size, 3, none⟩ = some (.slice b3 p3.length bc3) ∧ X.cell? ⟨w.heap.size, 4, none⟩ = some (.slice b4 p4.length bc4) ∧ X.cell? ⟨w.heap.size, 5, none⟩ = some (.int .i64 n5) ∧ X.cell? ⟨w.heap.size, 6, none⟩ = some (.slice b6 p6.length bc6) ∧ X.cell? ⟨w.heap.size, 7, none⟩ = some (.slice b7 p7.length bc7) ∧ X.cell? ⟨w.heap.size, 8, none⟩ = some (.slice b8 p8.length bc8) ∧ VarA w.heap.size 36 #[.int .i64 n0, .int .i64 n1, .int .i64 n2, .slice b3 p3.length bc3, .slice b4 p4.length bc4, .int .i64 n5, .slice b6 p6.length bc6, .slice b7 p7.length bc7, .slice b8 p8.length bc8] X ∧ VarA (w.heap.size + 1) LPkT #[.int .i64 op, .int .i64 key, .int .i64 fr, .int .i64 dst, .int .i64 num, .slice pb acks.length pbc, .string body] X ∧ CU lu hu gu m0 m1 m2 m5 (.slice u3 r3.length uc3) (.slice u4 r4.length uc4) (.slice u6 r6.length uc6) (.slice u7 r7.length uc7) (.slice u8 r8.length uc8) r3 r4 r6 r7 r8 X ∧ CV lx gx gx n0 n1 n2 n5 (.slice x3 p3.length xc3) (.slice x4 p4.length xc4) (.slice x6 p6.length xc6) (.slice x7 p7.length xc7) (.slice x8 p8.length xc8) p3 p4 p6 p7 p8 X ∧ PU lp gp gp op key fr dst num (.slice px acks.length pxc) acks body X ∧ CV lg gg gg m0 m1 m2 m5 (.slice g3 r3.length gc3) (.slice g4 r4.length gc4) (.slice g6 r6.length gc6) (.slice g7 r7.length gc7) (.slice g8 r8.length gc8) r3 r4 r6 r7 r8 X ∧ Below w.heap.size w X) → Calls Try.prog 15 #[.agg #[.int .i64 n0, .int .i64 n1, .int .i64 n2, .slice b3 p3.length bc3, .slice b4 p4.length bc4, .int .i64 n5, .slice b6 p6.length bc6, .slice b7 p7.length bc7, .slice b8 p8.length bc8]] X fun e Y => ∃ (t3 : Option Addr) (tc3 : Nat) (t4 : Option Addr) (tc4 : Nat) (t6 : Option Addr) (tc6 : Nat) (t7 : Option Addr) (tc7 : Nat) (t8 : Option Addr) (tc8 : Nat), e = .returned (.agg #[.int .i64 n0, .int .i64 n1, .int .i64 n2, .slice t3 p3.length tc3, .slice t4 p4.length tc4, .int .i64 n5, .slice t6 p6.length tc6, .slice t7 p7.length tc7, .slice t8 p8.length tc8]) ∧ ChanRd (.slice t3 p3.length tc3) (.slice t4 p4.length tc4) (.slice t6 p6.length tc6) (.slice t7 p7.length tc7) (.slice t8 p8.length tc8) p3 p4 p6 p7 p8 Y ∧ (Y.cell? ⟨gx, 0, none⟩ = some (.int .i64 n0) ∧ Y.cell? ⟨gx, 1, none⟩ = some (.int .i64 n1) ∧ Y.cell? ⟨gx, 2, none⟩ = some (.int .i64 n2) ∧ Y.cell? ⟨gx, 3, none⟩ = some (.slice x3 p3.length xc3) ∧ Y.cell? ⟨gx, 4, none⟩ = some (.slice x4 p4.length xc4) ∧ Y.cell? ⟨gx, 5, none⟩ = some (.int .i64 n5) ∧ Y.cell? ⟨gx, 6, none⟩ = some (.slice x6 p6.length xc6) ∧ Y.cell? ⟨gx, 7, none⟩ = some (.slice x7 p7.length xc7) ∧ Y.cell? ⟨gx, 8, none⟩ = some (.slice x8 p8.length xc8) ∧ Y.cell? ⟨w.heap.size, 0, none⟩ = some (.int .i64 n0) ∧ Y.cell? ⟨w.heap.size, 1, none⟩ = some (.int .i64 n1) ∧ Y.cell? ⟨w.heap.size, 2, none⟩ = some (.int .i64 n2) ∧ Y.cell? ⟨w.heap.size, 3, none⟩ = some (.slice b3 p3.length bc3) ∧ Y.cell? ⟨w.heap.size, 4, none⟩ = some (.slice b4 p4.length bc4) ∧ Y.cell? ⟨w.heap.size, 5, none⟩ = some (.int .i64 n5) ∧ Y.cell? ⟨w.heap.size, 6, none⟩ = some (.slice b6 p6.length bc6) ∧ Y.cell? ⟨w.heap.size, 7, none⟩ = some (.slice b7 p7.length bc7) ∧ Y.cell? ⟨w.heap.size, 8, none⟩ = some (.slice b8 p8.length bc8) ∧ VarA w.heap.size 36 #[.int .i64 n0, .int .i64 n1, .int .i64 n2, .slice b3 p3.length bc3, .slice b4 p4.length bc4, .int .i64 n5, .slice b6 p6.length bc6, .slice b7 p7.length bc7, .slice b8 p8.length bc8] Y ∧ VarA (w.heap.size + 1) LPkT #[.int .i64 op, .int .i64 key, .int .i64 fr, .int .i64 dst, .int .i64 num, .slice pb acks.length pbc, .string body] Y ∧ CU lu hu gu m0 m1 m2 m5 (.slice u3 r3.length uc3) (.slice u4 r4.length uc4) (.slice u6 r6.length uc6) (.slice u7 r7.length uc7) (.slice u8 r8.length uc8) r3 r4 r6 r7 r8 Y ∧ CV lx gx gx n0 n1 n2 n5 (.slice x3 p3.length xc3) (.slice x4 p4.length xc4) (.slice x6 p6.length xc6) (.slice x7 p7.length xc7) (.slice x8 p8.length xc8) p3 p4 p6 p7 p8 Y ∧ PU lp gp gp op key fr dst num (.slice px acks.length pxc) acks body Y ∧ CV lg gg gg m0 m1 m2 m5 (.slice g3 r3.length gc3) (.slice g4 r4.length gc4) (.slice g6 r6.length gc6) (.slice g7 r7.length gc7) (.slice g8 r8.length gc8) r3 r4 r6 r7 r8 Y ∧ Below w.heap.size w Y)) := Lib.hid (fun X hX => by
      have hq := hX.2.2.2.2.2.2.2.2.2.2.2.2.2.2.2.2.2.2
      refine (TT.out X hq.2.2.2.2.2.2).mono ?_
      rintro e Y ⟨v, rfl, hv⟩
      obtain ⟨t3, tc3, t4, tc4, t6, tc6, t7, tc7, t8, tc8, f3, f4, f6, f7, f8, rfl, hco, hb⟩ := hv
      exact ⟨t3, tc3, t4, tc4, t6, tc6, t7, tc7, t8, tc8, rfl, hco.rd, S0.out _ (qt _ _ hq hb)⟩)
    have KE : Hid (∀ (y3 y4 y6 y7 y8 : Value) (X : World), (X.cell? ⟨gx, 0, none⟩ = some (.int .i64 n0) ∧ X.cell? ⟨gx, 1, none⟩ = some (.int .i64 n1) ∧ X.cell? ⟨gx, 2, none⟩ = some (.int .i64 n2) ∧ X.cell? ⟨gx, 3, none⟩ = some (.slice x3 p3.length xc3) ∧ X.cell? ⟨gx, 4, none⟩ = some (.slice x4 p4.length xc4) ∧ X.cell? ⟨gx, 5, none⟩ = some (.int .i64 n5) ∧ X.cell? ⟨gx, 6, none⟩ = some (.slice x6 p6.length xc6) ∧ X.cell? ⟨gx, 7, none⟩ = some (.slice x7 p7.length xc7) ∧ X.cell? ⟨gx, 8, none⟩ = some (.slice x8 p8.length xc8) ∧ X.cell? ⟨w.heap.size, 0, none⟩ = some (.int .i64 n0) ∧ X.cell? ⟨w.heap.size, 1, none⟩ = some (.int .i64 n1) ∧ X.cell? ⟨w.heap.size, 2, none⟩ = some (.int .i64 n2) ∧ X.cell? ⟨w.heap.size, 3, none⟩ = some (.slice b3 p3.length bc3) ∧ X.cell? ⟨w.heap.size, 4, none⟩ = some (.slice b4 p4.length bc4) ∧ X.cell? ⟨w.heap.size, 5, none⟩ = some (.int .i64 n5) ∧ X.cell? ⟨w.heap.size, 6, none⟩ = some (.slice b6 p6.length bc6) ∧ X.cell? ⟨w.heap.size, 7, none⟩ = some (.slice b7 p7.length bc7) ∧ X.cell? ⟨w.heap.size, 8, none⟩ = some (.slice b8 p8.length bc8) ∧ VarA w.heap.size 36 #[.int .i64 n0, .int .i64 n1, .int .i64 n2, .slice b3 p3.length bc3, .slice b4 p4.length bc4, .int .i64 n5, .slice b6 p6.length bc6, .slice b7 p7.length bc7, .slice b8 p8.length bc8] X ∧ VarA (w.heap.size + 1) LPkT #[.int .i64 op, .int .i64 key, .int .i64 fr, .int .i64 dst, .int .i64 num, .slice pb acks.length pbc, .string body] X ∧ CU lu hu gu m0 m1 m2 m5 (.slice u3 r3.length uc3) (.slice u4 r4.length uc4) (.slice u6 r6.length uc6) (.slice u7 r7.length uc7) (.slice u8 r8.length uc8) r3 r4 r6 r7 r8 X ∧ CV lx gx gx n0 n1 n2 n5 (.slice x3 p3.length xc3) (.slice x4 p4.length xc4) (.slice x6 p6.length xc6) (.slice x7 p7.length xc7) (.slice x8 p8.length xc8) p3 p4 p6 p7 p8 X ∧ PU lp gp gp op key fr dst num (.slice px acks.length pxc) acks body X ∧ CV lg gg gg m0 m1 m2 m5 (.slice g3 r3.length gc3) (.slice g4 r4.length gc4) (.slice g6 r6.length gc6) (.slice g7 r7.length gc7) (.slice g8 r8.length gc8) r3 r4 r6 r7 r8 X ∧ Below w.heap.size w X) → ChanRd y3 y4 y6 y7 y8 p3 p4 p6 p7 p8 X → Calls Try.prog 10 #[.agg #[.int .i64 n0, .int .i64 n1, .int .i64 n2, .slice x3 p3.length xc3, .slice x4 p4.length xc4, .int .i64 n5, .slice x6 p6.length xc6, .slice x7 p7.length xc7, .slice x8 p8.length xc8], .agg #[.int .i64 n0, .int .i64 n1, .int .i64 n2, y3, y4, .int .i64 n5, y6, y7, y8]] X fun e Y => e = .returned (.bool true) ∧ (Y.cell? ⟨gx, 0, none⟩ = some (.int .i64 n0) ∧ Y.cell? ⟨gx, 1, none⟩ = some (.int .i64 n1) ∧ Y.cell? ⟨gx, 2, none⟩ = some (.int .i64 n2) ∧ Y.cell? ⟨gx, 3, none⟩ = some (.slice x3 p3.length xc3) ∧ Y.cell? ⟨gx, 4, none⟩ = some (.slice x4 p4.length xc4) ∧ Y.cell? ⟨gx, 5, none⟩ = some (.int .i64 n5) ∧ Y.cell? ⟨gx, 6, none⟩ = some (.slice x6 p6.length xc6) ∧ Y.cell? ⟨gx, 7, none⟩ = some (.slice x7 p7.length xc7) ∧ Y.cell? ⟨gx, 8, none⟩ = some (.slice x8 p8.length xc8) ∧ Y.cell? ⟨w.heap.size, 0, none⟩ = some (.int .i64 n0) ∧ Y.cell? ⟨w.heap.size, 1, none⟩ = some (.int .i64 n1) ∧ Y.cell? ⟨w.heap.size, 2, none⟩ = some (.int .i64 n2) ∧ Y.cell? ⟨w.heap.size, 3, none⟩ = some (.slice b3 p3.length bc3) ∧ Y.cell? ⟨w.heap.size, 4, none⟩ = some (.slice b4 p4.length bc4) ∧ Y.cell? ⟨w.heap.size, 5, none⟩ = some (.int .i64 n5) ∧ Y.cell? ⟨w.heap.size, 6, none⟩ = some (.slice b6 p6.length bc6) ∧ Y.cell? ⟨w.heap.size, 7, none⟩ = some (.slice b7 p7.length bc7) ∧ Y.cell? ⟨w.heap.size, 8, none⟩ = some (.slice b8 p8.length bc8) ∧ VarA w.heap.size 36 #[.int .i64 n0, .int .i64 n1, .int .i64 n2, .slice b3 p3.length bc3, .slice b4 p4.length bc4, .int .i64 n5, .slice b6 p6.length bc6, .slice b7 p7.length bc7, .slice b8 p8.length bc8] Y ∧ VarA (w.heap.size + 1) LPkT #[.int .i64 op, .int .i64 key, .int .i64 fr, .int .i64 dst, .int .i64 num, .slice pb acks.length pbc, .string body] Y ∧ CU lu hu gu m0 m1 m2 m5 (.slice u3 r3.length uc3) (.slice u4 r4.length uc4) (.slice u6 r6.length uc6) (.slice u7 r7.length uc7) (.slice u8 r8.length uc8) r3 r4 r6 r7 r8 Y ∧ CV lx gx gx n0 n1 n2 n5 (.slice x3 p3.length xc3) (.slice x4 p4.length xc4) (.slice x6 p6.length xc6) (.slice x7 p7.length xc7) (.slice x8 p8.length xc8) p3 p4 p6 p7 p8 Y ∧ PU lp gp gp op key fr dst num (.slice px acks.length pxc) acks body Y ∧ CV lg gg gg m0 m1 m2 m5 (.slice g3 r3.length gc3) (.slice g4 r4.length gc4) (.slice g6 r6.length gc6) (.slice g7 r7.length gc7) (.slice g8 r8.length gc8) r3 r4 r6 r7 r8 Y ∧ Below w.heap.size w Y)) := Lib.hid (fun y3 y4 y6 y7 y8 X hX hrd => by
      have hq := hX.2.2.2.2.2.2.2.2.2.2.2.2.2.2.2.2.2.2
      refine (chan_eq hq.2.2.2.1.rd hrd HFP.out).mono ?_
      rintro e Y ⟨rfl, hb⟩
      exact ⟨rfl, S0.out _ (qt _ _ hq hb)⟩)
    go_wp2_with fail
    go_cut [58] (fun v wx => v = .bool false ∧ Hid (VarA w.heap.size 36 #[.int .i64 n0, .int .i64 n1, .int .i64 n2, .slice b3 p3.length bc3, .slice b4 p4.length bc4, .int .i64 n5, .slice b6 p6.length bc6, .slice b7 p7.length bc7, .slice b8 p8.length bc8] wx ∧ VarA (w.heap.size + 1) LPkT #[.int .i64 op, .int .i64 key, .int .i64 fr, .int .i64 dst, .int .i64 num, .slice pb acks.length pbc, .string body] wx ∧ CU lu hu gu m0 m1 m2 m5 (.slice u3 r3.length uc3) (.slice u4 r4.length uc4) (.slice u6 r6.length uc6) (.slice u7 r7.length uc7) (.slice u8 r8.length uc8) r3 r4 r6 r7 r8 wx ∧ CV lx gx gx n0 n1 n2 n5 (.slice x3 p3.length xc3) (.slice x4 p4.length xc4) (.slice x6 p6.length xc6) (.slice x7 p7.length xc7) (.slice x8 p8.length xc8) p3 p4 p6 p7 p8 wx ∧ PU lp gp gp op key fr dst num (.slice px acks.length pxc) acks body wx ∧ CV lg gg gg m0 m1 m2 m5 (.slice g3 r3.length gc3) (.slice g4 r4.length gc4) (.slice g6 r6.length gc6) (.slice g7 r7.length gc7) (.slice g8 r8.length gc8) r3 r4 r6 r7 r8 wx ∧ Below w.heap.size w wx))
    case first =>
      go_region_held3 (fun X => X.cell? ⟨gx, 0, none⟩ = some (.int .i64 n0) ∧ X.cell? ⟨gx, 1, none⟩ = some (.int .i64 n1) ∧ X.cell? ⟨gx, 2, none⟩ = some (.int .i64 n2) ∧ X.cell? ⟨gx, 3, none⟩ = some (.slice x3 p3.length xc3) ∧ X.cell? ⟨gx, 4, none⟩ = some (.slice x4 p4.length xc4) ∧ X.cell? ⟨gx, 5, none⟩ = some (.int .i64 n5) ∧ X.cell? ⟨gx, 6, none⟩ = some (.slice x6 p6.length xc6) ∧ X.cell? ⟨gx, 7, none⟩ = some (.slice x7 p7.length xc7) ∧ X.cell? ⟨gx, 8, none⟩ = some (.slice x8 p8.length xc8) ∧ X.cell? ⟨w.heap.size, 0, none⟩ = some (.int .i64 n0) ∧ X.cell? ⟨w.heap.size, 1, none⟩ = some (.int .i64 n1) ∧ X.cell? ⟨w.heap.size, 2, none⟩ = some (.int .i64 n2) ∧ X.cell? ⟨w.heap.size, 3, none⟩ = some (.slice b3 p3.length bc3) ∧ X.cell? ⟨w.heap.size, 4, none⟩ = some (.slice b4 p4.length bc4) ∧ X.cell? ⟨w.heap.size, 5, none⟩ = some (.int .i64 n5) ∧ X.cell? ⟨w.heap.size, 6, none⟩ = some (.slice b6 p6.length bc6) ∧ X.cell? ⟨w.heap.size, 7, none⟩ = some (.slice b7 p7.length bc7) ∧ X.cell? ⟨w.heap.size, 8, none⟩ = some (.slice b8 p8.length bc8) ∧ VarA w.heap.size 36 #[.int .i64 n0, .int .i64 n1, .int .i64 n2, .slice b3 p3.length bc3, .slice b4 p4.length bc4, .int .i64 n5, .slice b6 p6.length bc6, .slice b7 p7.length bc7, .slice b8 p8.length bc8] X ∧ VarA (w.heap.size + 1) LPkT #[.int .i64 op, .int .i64 key, .int .i64 fr, .int .i64 dst, .int .i64 num, .slice pb acks.length pbc, .string body] X ∧ CU lu hu gu m0 m1 m2 m5 (.slice u3 r3.length uc3) (.slice u4 r4.length uc4) (.slice u6 r6.length uc6) (.slice u7 r7.length uc7) (.slice u8 r8.length uc8) r3 r4 r6 r7 r8 X ∧ CV lx gx gx n0 n1 n2 n5 (.slice x3 p3.length xc3) (.slice x4 p4.length xc4) (.slice x6 p6.length xc6) (.slice x7 p7.length xc7) (.slice x8 p8.length xc8) p3 p4 p6 p7 p8 X ∧ PU lp gp gp op key fr dst num (.slice px acks.length pxc) acks body X ∧ CV lg gg gg m0 m1 m2 m5 (.slice g3 r3.length gc3) (.slice g4 r4.length gc4) (.slice g6 r6.length gc6) (.slice g7 r7.length gc7) (.slice g8 r8.length gc8) r3 r4 r6 r7 r8 X ∧ Below w.heap.size w X) (first | (with_reducible assumption) | (with_reducible exact S1.out)) (first | (go_at_call 15; refine (KT.out _ (by assumption)).mono ?_; rintro e v1 ⟨t3, tc3, t4, tc4, t6, tc6, t7, tc7, t8, tc8, rfl, hrd, hS⟩) | (go_at_call 10; refine (KE.out _ _ _ _ _ _ (by assumption) hrd).mono ?_; rintro e v1 ⟨rfl, hS⟩))
      all_goals
        go_wp2_with fail
        go_meet
        exact ⟨rfl, Lib.hid hS.2.2.2.2.2.2.2.2.2.2.2.2.2.2.2.2.2.2⟩
    case rest =>
      obtain ⟨rfl, QA⟩ := hcut
      generalize wc = VA at *
      clear S0 S1 KT KE Q12
      have S0 : Hid (∀ X, (VarA w.heap.size 36 #[.int .i64 n0, .int .i64 n1, .int .i64 n2, .slice b3 p3.length bc3, .slice b4 p4.length bc4, .int .i64 n5, .slice b6 p6.length bc6, .slice b7 p7.length bc7, .slice b8 p8.length bc8] X ∧ VarA (w.heap.size + 1) LPkT #[.int .i64 op, .int .i64 key, .int .i64 fr, .int .i64 dst, .int .i64 num, .slice pb acks.length pbc, .string body] X ∧ CU lu hu gu m0 m1 m2 m5 (.slice u3 r3.length uc3) (.slice u4 r4.length uc4) (.slice u6 r6.length uc6) (.slice u7 r7.length uc7) (.slice u8 r8.length uc8) r3 r4 r6 r7 r8 X ∧ CV lx gx gx n0 n1 n2 n5 (.slice x3 p3.length xc3) (.slice x4 p4.length xc4) (.slice x6 p6.length xc6) (.slice x7 p7.length xc7) (.slice x8 p8.length xc8) p3 p4 p6 p7 p8 X ∧ PU lp gp gp op key fr dst num (.slice px acks.length pxc) acks body X ∧ CV lg gg gg m0 m1 m2 m5 (.slice g3 r3.length gc3) (.slice g4 r4.length gc4) (.slice g6 r6.length gc6) (.slice g7 r7.length gc7) (.slice g8 r8.length gc8) r3 r4 r6 r7 r8 X ∧ Below w.heap.size w X) → (X.cell? ⟨gp, 0, none⟩ = some (.int .i64 op) ∧ X.cell? ⟨gp, 1, none⟩ = some (.int .i64 key) ∧ X.cell? ⟨gp, 2, none⟩ = some (.int .i64 fr) ∧ X.cell? ⟨gp, 3, none⟩ = some (.int .i64 dst) ∧ X.cell? ⟨gp, 4, none⟩ = some (.int .i64 num) ∧ X.cell? ⟨gp, 5, none⟩ = some (.slice px acks.length pxc) ∧ X.cell? ⟨gp, 6, none⟩ = some (.string body) ∧ X.cell? ⟨w.heap.size + 1, 0, none⟩ = some (.int .i64 op) ∧ X.cell? ⟨w.heap.size + 1, 1, none⟩ = some (.int .i64 key) ∧ X.cell? ⟨w.heap.size + 1, 2, none⟩ = some (.int .i64 fr) ∧ X.cell? ⟨w.heap.size + 1, 3, none⟩ = some (.int .i64 dst) ∧ X.cell? ⟨w.heap.size + 1, 4, none⟩ = some (.int .i64 num) ∧ X.cell? ⟨w.heap.size + 1, 5, none⟩ = some (.slice pb acks.length pbc) ∧ X.cell? ⟨w.heap.size + 1, 6, none⟩ = some (.string body) ∧ VarA w.heap.size 36 #[.int .i64 n0, .int .i64 n1, .int .i64 n2, .slice b3 p3.length bc3, .slice b4 p4.length bc4, .int .i64 n5, .slice b6 p6.length bc6, .slice b7 p7.length bc7, .slice b8 p8.length bc8] X ∧ VarA (w.heap.size + 1) LPkT #[.int .i64 op, .int .i64 key, .int .i64 fr, .int .i64 dst, .int .i64 num, .slice pb acks.length pbc, .string body] X ∧ CU lu hu gu m0 m1 m2 m5 (.slice u3 r3.length uc3) (.slice u4 r4.length uc4) (.slice u6 r6.length uc6) (.slice u7 r7.length uc7) (.slice u8 r8.length uc8) r3 r4 r6 r7 r8 X ∧ CV lx gx gx n0 n1 n2 n5 (.slice x3 p3.length xc3) (.slice x4 p4.length xc4) (.slice x6 p6.length xc6) (.slice x7 p7.length xc7) (.slice x8 p8.length xc8) p3 p4 p6 p7 p8 X ∧ PU lp gp gp op key fr dst num (.slice px acks.length pxc) acks body X ∧ CV lg gg gg m0 m1 m2 m5 (.slice g3 r3.length gc3) (.slice g4 r4.length gc4) (.slice g6 r6.length gc6) (.slice g7 r7.length gc7) (.slice g8 r8.length gc8) r3 r4 r6 r7 r8 X ∧ Below w.heap.size w X)) := Lib.hid (fun X h => ⟨h.2.2.2.2.1.var.cell 0, h.2.2.2.2.1.var.cell 1, h.2.2.2.2.1.var.cell 2, h.2.2.2.2.1.var.cell 3, h.2.2.2.2.1.var.cell 4, h.2.2.2.2.1.var.cell 5, h.2.2.2.2.1.var.cell 6, h.2.1.cell 0, h.2.1.cell 1, h.2.1.cell 2, h.2.1.cell 3, h.2.1.cell 4, h.2.1.cell 5, h.2.1.cell 6, h⟩)
      have S1 : Hid (VA.drew.cell? ⟨gp, 0, none⟩ = some (.int .i64 op) ∧ VA.drew.cell? ⟨gp, 1, none⟩ = some (.int .i64 key) ∧ VA.drew.cell? ⟨gp, 2, none⟩ = some (.int .i64 fr) ∧ VA.drew.cell? ⟨gp, 3, none⟩ = some (.int .i64 dst) ∧ VA.drew.cell? ⟨gp, 4, none⟩ = some (.int .i64 num) ∧ VA.drew.cell? ⟨gp, 5, none⟩ = some (.slice px acks.length pxc) ∧ VA.drew.cell? ⟨gp, 6, none⟩ = some (.string body) ∧ VA.drew.cell? ⟨w.heap.size + 1, 0, none⟩ = some (.int .i64 op) ∧ VA.drew.cell? ⟨w.heap.size + 1, 1, none⟩ = some (.int .i64 key) ∧ VA.drew.cell? ⟨w.heap.size + 1, 2, none⟩ = some (.int .i64 fr) ∧ VA.drew.cell? ⟨w.heap.size + 1, 3, none⟩ = some (.int .i64 dst) ∧ VA.drew.cell? ⟨w.heap.size + 1, 4, none⟩ = some (.int .i64 num) ∧ VA.drew.cell? ⟨w.heap.size + 1, 5, none⟩ = some (.slice pb acks.length pbc) ∧ VA.drew.cell? ⟨w.heap.size + 1, 6, none⟩ = some (.string body) ∧ VarA w.heap.size 36 #[.int .i64 n0, .int .i64 n1, .int .i64 n2, .slice b3 p3.length bc3, .slice b4 p4.length bc4, .int .i64 n5, .slice b6 p6.length bc6, .slice b7 p7.length bc7, .slice b8 p8.length bc8] VA.drew ∧ VarA (w.heap.size + 1) LPkT #[.int .i64 op, .int .i64 key, .int .i64 fr, .int .i64 dst, .int .i64 num, .slice pb acks.length pbc, .string body] VA.drew ∧ CU lu hu gu m0 m1 m2 m5 (.slice u3 r3.length uc3) (.slice u4 r4.length uc4) (.slice u6 r6.length uc6) (.slice u7 r7.length uc7) (.slice u8 r8.length uc8) r3 r4 r6 r7 r8 VA.drew ∧ CV lx gx gx n0 n1 n2 n5 (.slice x3 p3.length xc3) (.slice x4 p4.length xc4) (.slice x6 p6.length xc6) (.slice x7 p7.length xc7) (.slice x8 p8.length xc8) p3 p4 p6 p7 p8 VA.drew ∧ PU lp gp gp op key fr dst num (.slice px acks.length pxc) acks body VA.drew ∧ CV lg gg gg m0 m1 m2 m5 (.slice g3 r3.length gc3) (.slice g4 r4.length gc4) (.slice g6 r6.length gc6) (.slice g7 r7.length gc7) (.slice g8 r8.length gc8) r3 r4 r6 r7 r8 VA.drew ∧ Below w.heap.size w VA.drew) := Lib.hid (S0.out _ (qt _ _ QA.out ((Below.refl _ _).drew)))
      have KT : Hid (∀ X, (X.cell? ⟨gp, 0, none⟩ = some (.int .i64 op) ∧ X.cell? ⟨gp, 1, none⟩ = some (.int .i64 key) ∧ X.cell? ⟨gp, 2, none⟩ = some (.int .i64 fr) ∧ X.cell? ⟨gp, 3, none⟩ = some (.int .i64 dst) ∧ X.cell? ⟨gp, 4, none⟩ = some (.int .i64 num) ∧ X.cell? ⟨gp, 5, none⟩ = some (.slice px acks.length pxc) ∧ X.cell? ⟨gp, 6, none⟩ = some (.string body) ∧ X.cell? ⟨w.heap.size + 1, 0, none⟩ = some (.int .i64 op) ∧ X.cell? ⟨w.heap.size + 1, 1, none⟩ = some (.int .i64 key) ∧ X.cell? ⟨w.heap.size + 1, 2, none⟩ = some (.int .i64 fr) ∧ X.cell? ⟨w.heap.size + 1, 3, none⟩ = some (.int .i64 dst) ∧ X.cell? ⟨w.heap.size + 1, 4, none⟩ = some (.int .i64 num) ∧ X.cell? ⟨w.heap.size + 1, 5, none⟩ = some (.slice pb acks.length pbc) ∧ X.cell? ⟨w.heap.size + 1, 6, none⟩ = some (.string body) ∧ VarA w.heap.size 36 #[.int .i64 n0, .int .i64 n1, .int .i64 n2, .slice b3 p3.length bc3, .slice b4 p4.length bc4, .int .i64 n5, .slice b6 p6.length bc6, .slice b7 p7.length bc7, .slice b8 p8.length bc8] X ∧ VarA (w.heap.size + 1) LPkT #[.int .i64 op, .int .i64 key, .int .i64 fr, .int .i64 dst, .int .i64 num, .slice pb acks.length pbc, .string body] X ∧ CU lu hu gu m0 m1 m2 m5 (.slice u3 r3.length uc3) (.slice u4 r4.length uc4) (.slice u6 r6.length uc6) (.slice u7 r7.length uc7) (.slice u8 r8.length uc8) r3 r4 r6 r7 r8 X ∧ CV lx gx gx n0 n1 n2 n5 (.slice x3 p3.length xc3) (.slice x4 p4.length xc4) (.slice x6 p6.length xc6) (.slice x7 p7.length xc7) (.slice x8 p8.length xc8) p3 p4 p6 p7 p8 X ∧ PU lp gp gp op key fr dst num (.slice px acks.length pxc) acks body X ∧ CV lg gg gg m0 m1 m2 m5 (.slice g3 r3.length gc3) (.slice g4 r4.length gc4) (.slice g6 r6.length gc6) (.slice g7 r7.length gc7) (.slice g8 r8.length gc8) r3 r4 r6 r7 r8 X ∧ Below w.heap.size w X) → Calls Try.prog 26 #[.agg #[.int .i64 op, .int .i64 key, .int .i64 fr, .int .i64 dst, .int .i64 num, .slice pb acks.length pbc, .string body]] X fun e Y => ∃ (ta : Option Addr) (tc : Nat), e = .returned (.agg #[.int .i64 op, .int .i64 key, .int .i64 fr, .int .i64 dst, .int .i64 num, .slice ta acks.length tc, .string body]) ∧ layIntS.rd Y [.slice ta acks.length tc] acks ∧ (Y.cell? ⟨gp, 0, none⟩ = some (.int .i64 op) ∧ Y.cell? ⟨gp, 1, none⟩ = some (.int .i64 key) ∧ Y.cell? ⟨gp, 2, none⟩ = some (.int .i64 fr) ∧ Y.cell? ⟨gp, 3, none⟩ = some (.int .i64 dst) ∧ Y.cell? ⟨gp, 4, none⟩ = some (.int .i64 num) ∧ Y.cell? ⟨gp, 5, none⟩ = some (.slice px acks.length pxc) ∧ Y.cell? ⟨gp, 6, none⟩ = some (.string body) ∧ Y.cell? ⟨w.heap.size + 1, 0, none⟩ = some (.int .i64 op) ∧ Y.cell? ⟨w.heap.size + 1, 1, none⟩ = some (.int .i64 key) ∧ Y.cell? ⟨w.heap.size + 1, 2, none⟩ = some (.int .i64 fr) ∧ Y.cell? ⟨w.heap.size + 1, 3, none⟩ = some (.int .i64 dst) ∧ Y.cell? ⟨w.heap.size + 1, 4, none⟩ = some (.int .i64 num) ∧ Y.cell? ⟨w.heap.size + 1, 5, none⟩ = some (.slice pb acks.length pbc) ∧ Y.cell? ⟨w.heap.size + 1, 6, none⟩ = some (.string body) ∧ VarA w.heap.size 36 #[.int .i64 n0, .int .i64 n1, .int .i64 n2, .slice b3 p3.length bc3, .slice b4 p4.length bc4, .int .i64 n5, .slice b6 p6.length bc6, .slice b7 p7.length bc7, .slice b8 p8.length bc8] Y ∧ VarA (w.heap.size + 1) LPkT #[.int .i64 op, .int .i64 key, .int .i64 fr, .int .i64 dst, .int .i64 num, .slice pb acks.length pbc, .string body] Y ∧ CU lu hu gu m0 m1 m2 m5 (.slice u3 r3.length uc3) (.slice u4 r4.length uc4) (.slice u6 r6.length uc6) (.slice u7 r7.length uc7) (.slice u8 r8.length uc8) r3 r4 r6 r7 r8 Y ∧ CV lx gx gx n0 n1 n2 n5 (.slice x3 p3.length xc3) (.slice x4 p4.length xc4) (.slice x6 p6.length xc6) (.slice x7 p7.length xc7) (.slice x8 p8.length xc8) p3 p4 p6 p7 p8 Y ∧ PU lp gp gp op key fr dst num (.slice px acks.length pxc) acks body Y ∧ CV lg gg gg m0 m1 m2 m5 (.slice g3 r3.length gc3) (.slice g4 r4.length gc4) (.slice g6 r6.length gc6) (.slice g7 r7.length gc7) (.slice g8 r8.length gc8) r3 r4 r6 r7 r8 Y ∧ Below w.heap.size w Y)) := Lib.hid (fun X hX => by
        have hq := hX.2.2.2.2.2.2.2.2.2.2.2.2.2.2
        refine (TP.out X hq.2.2.2.2.2.2).mono ?_
        rintro e Y ⟨ta, tc, f, rfl, hd, hown, hb⟩
        exact ⟨ta, tc, rfl, layIntS.read hown, S0.out _ (qt _ _ hq hb)⟩)
      have KE : Hid (∀ (y : Value) (X : World), (X.cell? ⟨gp, 0, none⟩ = some (.int .i64 op) ∧ X.cell? ⟨gp, 1, none⟩ = some (.int .i64 key) ∧ X.cell? ⟨gp, 2, none⟩ = some (.int .i64 fr) ∧ X.cell? ⟨gp, 3, none⟩ = some (.int .i64 dst) ∧ X.cell? ⟨gp, 4, none⟩ = some (.int .i64 num) ∧ X.cell? ⟨gp, 5, none⟩ = some (.slice px acks.length pxc) ∧ X.cell? ⟨gp, 6, none⟩ = some (.string body) ∧ X.cell? ⟨w.heap.size + 1, 0, none⟩ = some (.int .i64 op) ∧ X.cell? ⟨w.heap.size + 1, 1, none⟩ = some (.int .i64 key) ∧ X.cell? ⟨w.heap.size + 1, 2, none⟩ = some (.int .i64 fr) ∧ X.cell? ⟨w.heap.size + 1, 3, none⟩ = some (.int .i64 dst) ∧ X.cell? ⟨w.heap.size + 1, 4, none⟩ = some (.int .i64 num) ∧ X.cell? ⟨w.heap.size + 1, 5, none⟩ = some (.slice pb acks.length pbc) ∧ X.cell? ⟨w.heap.size + 1, 6, none⟩ = some (.string body) ∧ VarA w.heap.size 36 #[.int .i64 n0, .int .i64 n1, .int .i64 n2, .slice b3 p3.length bc3, .slice b4 p4.length bc4, .int .i64 n5, .slice b6 p6.length bc6, .slice b7 p7.length bc7, .slice b8 p8.length bc8] X ∧ VarA (w.heap.size + 1) LPkT #[.int .i64 op, .int .i64 key, .int .i64 fr, .int .i64 dst, .int .i64 num, .slice pb acks.length pbc, .string body] X ∧ CU lu hu gu m0 m1 m2 m5 (.slice u3 r3.length uc3) (.slice u4 r4.length uc4) (.slice u6 r6.length uc6) (.slice u7 r7.length uc7) (.slice u8 r8.length uc8) r3 r4 r6 r7 r8 X ∧ CV lx gx gx n0 n1 n2 n5 (.slice x3 p3.length xc3) (.slice x4 p4.length xc4) (.slice x6 p6.length xc6) (.slice x7 p7.length xc7) (.slice x8 p8.length xc8) p3 p4 p6 p7 p8 X ∧ PU lp gp gp op key fr dst num (.slice px acks.length pxc) acks body X ∧ CV lg gg gg m0 m1 m2 m5 (.slice g3 r3.length gc3) (.slice g4 r4.length gc4) (.slice g6 r6.length gc6) (.slice g7 r7.length gc7) (.slice g8 r8.length gc8) r3 r4 r6 r7 r8 X ∧ Below w.heap.size w X) → layIntS.rd X [y] acks → Calls Try.prog 28 #[.agg #[.int .i64 op, .int .i64 key, .int .i64 fr, .int .i64 dst, .int .i64 num, .slice px acks.length pxc, .string body], .agg #[.int .i64 op, .int .i64 key, .int .i64 fr, .int .i64 dst, .int .i64 num, y, .string body]] X fun e Y => e = .returned (.bool true) ∧ (Y.cell? ⟨gp, 0, none⟩ = some (.int .i64 op) ∧ Y.cell? ⟨gp, 1, none⟩ = some (.int .i64 key) ∧ Y.cell? ⟨gp, 2, none⟩ = some (.int .i64 fr) ∧ Y.cell? ⟨gp, 3, none⟩ = some (.int .i64 dst) ∧ Y.cell? ⟨gp, 4, none⟩ = some (.int .i64 num) ∧ Y.cell? ⟨gp, 5, none⟩ = some (.slice px acks.length pxc) ∧ Y.cell? ⟨gp, 6, none⟩ = some (.string body) ∧ Y.cell? ⟨w.heap.size + 1, 0, none⟩ = some (.int .i64 op) ∧ Y.cell? ⟨w.heap.size + 1, 1, none⟩ = some (.int .i64 key) ∧ Y.cell? ⟨w.heap.size + 1, 2, none⟩ = some (.int .i64 fr) ∧ Y.cell? ⟨w.heap.size + 1, 3, none⟩ = some (.int .i64 dst) ∧ Y.cell? ⟨w.heap.size + 1, 4, none⟩ = some (.int .i64 num) ∧ Y.cell? ⟨w.heap.size + 1, 5, none⟩ = some (.slice pb acks.length pbc) ∧ Y.cell? ⟨w.heap.size + 1, 6, none⟩ = some (.string body) ∧ VarA w.heap.size 36 #[.int .i64 n0, .int .i64 n1, .int .i64 n2, .slice b3 p3.length bc3, .slice b4 p4.length bc4, .int .i64 n5, .slice b6 p6.length bc6, .slice b7 p7.length bc7, .slice b8 p8.length bc8] Y ∧ VarA (w.heap.size + 1) LPkT #[.int .i64 op, .int .i64 key, .int .i64 fr, .int .i64 dst, .int .i64 num, .slice pb acks.length pbc, .string body] Y ∧ CU lu hu gu m0 m1 m2 m5 (.slice u3 r3.length uc3) (.slice u4 r4.length uc4) (.slice u6 r6.length uc6) (.slice u7 r7.length uc7) (.slice u8 r8.length uc8) r3 r4 r6 r7 r8 Y ∧ CV lx gx gx n0 n1 n2 n5 (.slice x3 p3.length xc3) (.slice x4 p4.length xc4) (.slice x6 p6.length xc6) (.slice x7 p7.length xc7) (.slice x8 p8.length xc8) p3 p4 p6 p7 p8 Y ∧ PU lp gp gp op key fr dst num (.slice px acks.length pxc) acks body Y ∧ CV lg gg gg m0 m1 m2 m5 (.slice g3 r3.length gc3) (.slice g4 r4.length gc4) (.slice g6 r6.length gc6) (.slice g7 r7.length gc7) (.slice g8 r8.length gc8) r3 r4 r6 r7 r8 Y ∧ Below w.heap.size w Y)) := Lib.hid (fun y X hX hrd => by
        have hq := hX.2.2.2.2.2.2.2.2.2.2.2.2.2.2
        refine (eqPacket_same op key fr dst num _ _ acks body (by omega) X hq.2.2.2.2.1.rd hrd).mono ?_
        rintro e Y ⟨rfl, hb⟩
        exact ⟨rfl, S0.out _ (qt _ _ hq hb)⟩)
      go_wp2_with fail
      go_cut [63] (fun v wx => v = .bool false ∧ Hid (VarA w.heap.size 36 #[.int .i64 n0, .int .i64 n1, .int .i64 n2, .slice b3 p3.length bc3, .slice b4 p4.length bc4, .int .i64 n5, .slice b6 p6.length bc6, .slice b7 p7.length bc7, .slice b8 p8.length bc8] wx ∧ VarA (w.heap.size + 1) LPkT #[.int .i64 op, .int .i64 key, .int .i64 fr, .int .i64 dst, .int .i64 num, .slice pb acks.length pbc, .string body] wx ∧ CU lu hu gu m0 m1 m2 m5 (.slice u3 r3.length uc3) (.slice u4 r4.length uc4) (.slice u6 r6.length uc6) (.slice u7 r7.length uc7) (.slice u8 r8.length uc8) r3 r4 r6 r7 r8 wx ∧ CV lx gx gx n0 n1 n2 n5 (.slice x3 p3.length xc3) (.slice x4 p4.length xc4) (.slice x6 p6.length xc6) (.slice x7 p7.length xc7) (.slice x8 p8.length xc8) p3 p4 p6 p7 p8 wx ∧ PU lp gp gp op key fr dst num (.slice px acks.length pxc) acks body wx ∧ CV lg gg gg m0 m1 m2 m5 (.slice g3 r3.length gc3) (.slice g4 r4.length gc4) (.slice g6 r6.length gc6) (.slice g7 r7.length gc7) (.slice g8 r8.length gc8) r3 r4 r6 r7 r8 wx ∧ Below w.heap.size w wx))
      case first =>
        go_region_held3 (fun X => X.cell? ⟨gp, 0, none⟩ = some (.int .i64 op) ∧ X.cell? ⟨gp, 1, none⟩ = some (.int .i64 key) ∧ X.cell? ⟨gp, 2, none⟩ = some (.int .i64 fr) ∧ X.cell? ⟨gp, 3, none⟩ = some (.int .i64 dst) ∧ X.cell? ⟨gp, 4, none⟩ = some (.int .i64 num) ∧ X.cell? ⟨gp, 5, none⟩ = some (.slice px acks.length pxc) ∧ X.cell? ⟨gp, 6, none⟩ = some (.string body) ∧ X.cell? ⟨w.heap.size + 1, 0, none⟩ = some (.int .i64 op) ∧ X.cell? ⟨w.heap.size + 1, 1, none⟩ = some (.int .i64 key) ∧ X.cell? ⟨w.heap.size + 1, 2, none⟩ = some (.int .i64 fr) ∧ X.cell? ⟨w.heap.size + 1, 3, none⟩ = some (.int .i64 dst) ∧ X.cell? ⟨w.heap.size + 1, 4, none⟩ = some (.int .i64 num) ∧ X.cell? ⟨w.heap.size + 1, 5, none⟩ = some (.slice pb acks.length pbc) ∧ X.cell? ⟨w.heap.size + 1, 6, none⟩ = some (.string body) ∧ VarA w.heap.size 36 #[.int .i64 n0, .int .i64 n1, .int .i64 n2, .slice b3 p3.length bc3, .slice b4 p4.length bc4, .int .i64 n5, .slice b6 p6.length bc6, .slice b7 p7.length bc7, .slice b8 p8.length bc8] X ∧ VarA (w.heap.size + 1) LPkT #[.int .i64 op, .int .i64 key, .int .i64 fr, .int .i64 dst, .int .i64 num, .slice pb acks.length pbc, .string body] X ∧ CU lu hu gu m0 m1 m2 m5 (.slice u3 r3.length uc3) (.slice u4 r4.length uc4) (.slice u6 r6.length uc6) (.slice u7 r7.length uc7) (.slice u8 r8.length uc8) r3 r4 r6 r7 r8 X ∧ CV lx gx gx n0 n1 n2 n5 (.slice x3 p3.length xc3) (.slice x4 p4.length xc4) (.slice x6 p6.length xc6) (.slice x7 p7.length xc7) (.slice x8 p8.length xc8) p3 p4 p6 p7 p8 X ∧ PU lp gp gp op key fr dst num (.slice px acks.length pxc) acks body X ∧ CV lg gg gg m0 m1 m2 m5 (.slice g3 r3.length gc3) (.slice g4 r4.length gc4) (.slice g6 r6.length gc6) (.slice g7 r7.length gc7) (.slice g8 r8.length gc8) r3 r4 r6 r7 r8 X ∧ Below w.heap.size w X) (first | (with_reducible assumption) | (with_reducible exact S1.out)) (first | (go_at_call 26; refine (KT.out _ (by assumption)).mono ?_; rintro e v1 ⟨ta, tc, rfl, hrd, hS⟩) | (go_at_call 28; refine (KE.out _ _ (by assumption) hrd).mono ?_; rintro e v1 ⟨rfl, hS⟩))
        all_goals
          go_wp2_with fail
          go_meet
          exact ⟨rfl, Lib.hid hS.2.2.2.2.2.2.2.2.2.2.2.2.2.2⟩
      case rest =>
        obtain ⟨rfl, QB⟩ := hcut
        generalize wc = VB at *
        clear S0 S1 KT KE QA
        have c0 : VB.cell? ⟨gx, 0, none⟩ = some (.int .i64 n0) := QB.out.2.2.2.1.var.cell 0
        have c1 : VB.cell? ⟨gx, 1, none⟩ = some (.int .i64 n1) := QB.out.2.2.2.1.var.cell 1
        have c2 : VB.cell? ⟨gx, 2, none⟩ = some (.int .i64 n2) := QB.out.2.2.2.1.var.cell 2
        have c3 : VB.cell? ⟨gx, 3, none⟩ = some (.slice x3 p3.length xc3) := QB.out.2.2.2.1.var.cell 3
        have c4 : VB.cell? ⟨gx, 4, none⟩ = some (.slice x4 p4.length xc4) := QB.out.2.2.2.1.var.cell 4
        have c5 : VB.cell? ⟨gx, 5, none⟩ = some (.int .i64 n5) := QB.out.2.2.2.1.var.cell 5
        have c6 : VB.cell? ⟨gx, 6, none⟩ = some (.slice x6 p6.length xc6) := QB.out.2.2.2.1.var.cell 6
        have c7 : VB.cell? ⟨gx, 7, none⟩ = some (.slice x7 p7.length xc7) := QB.out.2.2.2.1.var.cell 7
        have c8 : VB.cell? ⟨gx, 8, none⟩ = some (.slice x8 p8.length xc8) := QB.out.2.2.2.1.var.cell 8
        have KM := Lib.hid (QB.out.2.2.2.1.mark HFP.out)
        have hm0 := cnt_not (r3 := p3) (r4 := p4) (r6 := p6) (r7 := p7) (r8 := p8)
        have hm9 : cntC p3 p4 p6 p7 p8 ≤ 1000000000 := by
          have l := HFP.out
          have := l.l3; have := l.l4; have := l.l6; have := l.l7; have := l.l8
          unfold cntC
          omega
        go_wp2_with fail
        refine (KM.out).mono ?_
        rintro e VC ⟨rfl, -, hcB⟩
        have PC := Lib.hid (QB.out.2.2.2.2.1.apart hcB (.inr (by omega)) (.inr (by omega)))
        have QC : Hid (VarA w.heap.size 36 #[.int .i64 n0, .int .i64 n1, .int .i64 n2, .slice b3 p3.length bc3, .slice b4 p4.length bc4, .int .i64 n5, .slice b6 p6.length bc6, .slice b7 p7.length bc7, .slice b8 p8.length bc8] VC ∧ VarA (w.heap.size + 1) LPkT #[.int .i64 op, .int .i64 key, .int .i64 fr, .int .i64 dst, .int .i64 num, .slice pb acks.length pbc, .string body] VC ∧ CU lu hu gu m0 m1 m2 m5 (.slice u3 r3.length uc3) (.slice u4 r4.length uc4) (.slice u6 r6.length uc6) (.slice u7 r7.length uc7) (.slice u8 r8.length uc8) r3 r4 r6 r7 r8 VC ∧ CV lg gg gg m0 m1 m2 m5 (.slice g3 r3.length gc3) (.slice g4 r4.length gc4) (.slice g6 r6.length gc6) (.slice g7 r7.length gc7) (.slice g8 r8.length gc8) r3 r4 r6 r7 r8 VC ∧ Below w.heap.size w VC) := Lib.hid ⟨QB.out.1.rng hcB (.inl (by omega)), QB.out.2.1.rng hcB (.inl (by omega)), QB.out.2.2.1.apart hcB (.inl (by omega)) (.inl (by omega)), QB.out.2.2.2.2.2.1.apart hcB (.inr (by omega)) (.inr (by omega)), QB.out.2.2.2.2.2.2.trans (hcB.below (by omega) QB.out.2.2.2.2.2.2.size)⟩
        clear hcB KM QB c0 c1 c2 c3 c4 c5 c6 c7 c8 qt
        generalize cntC p3 p4 p6 p7 p8 = zp at *
        have hm8 : 0 ≤ zp := by omega
        have hm7 : ¬ (zp + (acks.length : Int) < 0) := by omega
        have c0 : VC.cell? ⟨gp, 0, none⟩ = some (.int .i64 op) := PC.out.var.cell 0
        have c1 : VC.cell? ⟨gp, 1, none⟩ = some (.int .i64 key) := PC.out.var.cell 1
        have c2 : VC.cell? ⟨gp, 2, none⟩ = some (.int .i64 fr) := PC.out.var.cell 2
        have c3 : VC.cell? ⟨gp, 3, none⟩ = some (.int .i64 dst) := PC.out.var.cell 3
        have c4 : VC.cell? ⟨gp, 4, none⟩ = some (.int .i64 num) := PC.out.var.cell 4
        have c5 : VC.cell? ⟨gp, 5, none⟩ = some (.slice px acks.length pxc) := PC.out.var.cell 5
        have c6 : VC.cell? ⟨gp, 6, none⟩ = some (.string body) := PC.out.var.cell 6
        have KM := Lib.hid (PC.out.mark zp hm8 hm9 (by omega))
        go_wp2_with fail
        refine (KM.out).mono ?_
        rintro e VD ⟨rfl, hcD⟩
        have QD : Hid (VarA w.heap.size 36 #[.int .i64 n0, .int .i64 n1, .int .i64 n2, .slice b3 p3.length bc3, .slice b4 p4.length bc4, .int .i64 n5, .slice b6 p6.length bc6, .slice b7 p7.length bc7, .slice b8 p8.length bc8] VD ∧ VarA (w.heap.size + 1) LPkT #[.int .i64 op, .int .i64 key, .int .i64 fr, .int .i64 dst, .int .i64 num, .slice pb acks.length pbc, .string body] VD ∧ CU lu hu gu m0 m1 m2 m5 (.slice u3 r3.length uc3) (.slice u4 r4.length uc4) (.slice u6 r6.length uc6) (.slice u7 r7.length uc7) (.slice u8 r8.length uc8) r3 r4 r6 r7 r8 VD ∧ CV lg gg gg m0 m1 m2 m5 (.slice g3 r3.length gc3) (.slice g4 r4.length gc4) (.slice g6 r6.length gc6) (.slice g7 r7.length gc7) (.slice g8 r8.length gc8) r3 r4 r6 r7 r8 VD ∧ Below w.heap.size w VD) := Lib.hid ⟨QC.out.1.rng hcD (.inl (by omega)), QC.out.2.1.rng hcD (.inl (by omega)), QC.out.2.2.1.apart hcD (.inl (by omega)) (.inl (by omega)), QC.out.2.2.2.1.apart hcD (.inr (by omega)) (.inr (by omega)), QC.out.2.2.2.2.trans (hcD.below (by omega) QC.out.2.2.2.2.size)⟩
        clear hcD KM QC PC c0 c1 c2 c3 c4 c5 c6
        have qn : ∀ X Y, (VarA w.heap.size 36 #[.int .i64 n0, .int .i64 n1, .int .i64 n2, .slice b3 p3.length bc3, .slice b4 p4.length bc4, .int .i64 n5, .slice b6 p6.length bc6, .slice b7 p7.length bc7, .slice b8 p8.length bc8] X ∧ VarA (w.heap.size + 1) LPkT #[.int .i64 op, .int .i64 key, .int .i64 fr, .int .i64 dst, .int .i64 num, .slice pb acks.length pbc, .string body] X ∧ CU lu hu gu m0 m1 m2 m5 (.slice u3 r3.length uc3) (.slice u4 r4.length uc4) (.slice u6 r6.length uc6) (.slice u7 r7.length uc7) (.slice u8 r8.length uc8) r3 r4 r6 r7 r8 X ∧ CV lg gg gg m0 m1 m2 m5 (.slice g3 r3.length gc3) (.slice g4 r4.length gc4) (.slice g6 r6.length gc6) (.slice g7 r7.length gc7) (.slice g8 r8.length gc8) r3 r4 r6 r7 r8 X ∧ Below w.heap.size w X) → Below X.heap.size X Y → (VarA w.heap.size 36 #[.int .i64 n0, .int .i64 n1, .int .i64 n2, .slice b3 p3.length bc3, .slice b4 p4.length bc4, .int .i64 n5, .slice b6 p6.length bc6, .slice b7 p7.length bc7, .slice b8 p8.length bc8] Y ∧ VarA (w.heap.size + 1) LPkT #[.int .i64 op, .int .i64 key, .int .i64 fr, .int .i64 dst, .int .i64 num, .slice pb acks.length pbc, .string body] Y ∧ CU lu hu gu m0 m1 m2 m5 (.slice u3 r3.length uc3) (.slice u4 r4.length uc4) (.slice u6 r6.length uc6) (.slice u7 r7.length uc7) (.slice u8 r8.length uc8) r3 r4 r6 r7 r8 Y ∧ CV lg gg gg m0 m1 m2 m5 (.slice g3 r3.length gc3) (.slice g4 r4.length gc4) (.slice g6 r6.length gc6) (.slice g7 r7.length gc7) (.slice g8 r8.length gc8) r3 r4 r6 r7 r8 Y ∧ Below w.heap.size w Y) := fun X Y h hb => ⟨h.1.next hb, h.2.1.next hb, h.2.2.1.next hb, h.2.2.2.1.next hb, h.2.2.2.2.trans (hb.mono h.2.2.2.2.size)⟩
        have d0 : VD.cell? ⟨gg, 0, none⟩ = some (.int .i64 m0) := QD.out.2.2.2.1.var.cell 0
        have d1 : VD.cell? ⟨gg, 1, none⟩ = some (.int .i64 m1) := QD.out.2.2.2.1.var.cell 1
        have d2 : VD.cell? ⟨gg, 2, none⟩ = some (.int .i64 m2) := QD.out.2.2.2.1.var.cell 2
        have d3 : VD.cell? ⟨gg, 3, none⟩ = some (.slice g3 r3.length gc3) := QD.out.2.2.2.1.var.cell 3
        have d4 : VD.cell? ⟨gg, 4, none⟩ = some (.slice g4 r4.length gc4) := QD.out.2.2.2.1.var.cell 4
        have d5 : VD.cell? ⟨gg, 5, none⟩ = some (.int .i64 m5) := QD.out.2.2.2.1.var.cell 5
        have d6 : VD.cell? ⟨gg, 6, none⟩ = some (.slice g6 r6.length gc6) := QD.out.2.2.2.1.var.cell 6
        have d7 : VD.cell? ⟨gg, 7, none⟩ = some (.slice g7 r7.length gc7) := QD.out.2.2.2.1.var.cell 7
        have d8 : VD.cell? ⟨gg, 8, none⟩ = some (.slice g8 r8.length gc8) := QD.out.2.2.2.1.var.cell 8
        have e0 : VD.cell? ⟨gu, 0, none⟩ = some (.int .i64 m0) := QD.out.2.2.1.var.cell 0
        have e1 : VD.cell? ⟨gu, 1, none⟩ = some (.int .i64 m1) := QD.out.2.2.1.var.cell 1
        have e2 : VD.cell? ⟨gu, 2, none⟩ = some (.int .i64 m2) := QD.out.2.2.1.var.cell 2
        have e3 : VD.cell? ⟨gu, 3, none⟩ = some (.slice u3 r3.length uc3) := QD.out.2.2.1.var.cell 3
        have e4 : VD.cell? ⟨gu, 4, none⟩ = some (.slice u4 r4.length uc4) := QD.out.2.2.1.var.cell 4
        have e5 : VD.cell? ⟨gu, 5, none⟩ = some (.int .i64 m5) := QD.out.2.2.1.var.cell 5
        have e6 : VD.cell? ⟨gu, 6, none⟩ = some (.slice u6 r6.length uc6) := QD.out.2.2.1.var.cell 6
        have e7 : VD.cell? ⟨gu, 7, none⟩ = some (.slice u7 r7.length uc7) := QD.out.2.2.1.var.cell 7
        have e8 : VD.cell? ⟨gu, 8, none⟩ = some (.slice u8 r8.length uc8) := QD.out.2.2.1.var.cell 8
        have KB := Lib.hid (chan_eq (m0 := m0) (m1 := m1) (m2 := m2) (m5 := m5) QD.out.2.2.2.1.rd QD.out.2.2.1.rd HFR.out)
        go_wp2_with fail
        refine (KB.out).mono ?_
        rintro e VE ⟨rfl, hbC⟩
        have QE := Lib.hid (qn _ _ QD.out hbC)
        clear hbC KB QD d0 d1 d2 d3 d4 d5 d6 d7 d8 e0 e1 e2 e3 e4 e5 e6 e7 e8 qn
        have d0 : VE.cell? ⟨gg, 0, none⟩ = some (.int .i64 m0) := QE.out.2.2.2.1.var.cell 0
        have d1 : VE.cell? ⟨gg, 1, none⟩ = some (.int .i64 m1) := QE.out.2.2.2.1.var.cell 1
        have d2 : VE.cell? ⟨gg, 2, none⟩ = some (.int .i64 m2) := QE.out.2.2.2.1.var.cell 2
        have d3 : VE.cell? ⟨gg, 3, none⟩ = some (.slice g3 r3.length gc3) := QE.out.2.2.2.1.var.cell 3
        have d4 : VE.cell? ⟨gg, 4, none⟩ = some (.slice g4 r4.length gc4) := QE.out.2.2.2.1.var.cell 4
        have d5 : VE.cell? ⟨gg, 5, none⟩ = some (.int .i64 m5) := QE.out.2.2.2.1.var.cell 5
        have d6 : VE.cell? ⟨gg, 6, none⟩ = some (.slice g6 r6.length gc6) := QE.out.2.2.2.1.var.cell 6
        have d7 : VE.cell? ⟨gg, 7, none⟩ = some (.slice g7 r7.length gc7) := QE.out.2.2.2.1.var.cell 7
        have d8 : VE.cell? ⟨gg, 8, none⟩ = some (.slice g8 r8.length gc8) := QE.out.2.2.2.1.var.cell 8
        have KC := Lib.hid (QE.out.2.2.2.1.mark HFR.out)
        go_wp2_with fail
        refine (KC.out).mono ?_
        rintro e VF ⟨rfl, hmD, hcD⟩
        have QF : Hid (VarA w.heap.size 36 #[.int .i64 n0, .int .i64 n1, .int .i64 n2, .slice b3 p3.length bc3, .slice b4 p4.length bc4, .int .i64 n5, .slice b6 p6.length bc6, .slice b7 p7.length bc7, .slice b8 p8.length bc8] VF ∧ VarA (w.heap.size + 1) LPkT #[.int .i64 op, .int .i64 key, .int .i64 fr, .int .i64 dst, .int .i64 num, .slice pb acks.length pbc, .string body] VF ∧ CU lu hu gu m0 m1 m2 m5 (.slice u3 r3.length uc3) (.slice u4 r4.length uc4) (.slice u6 r6.length uc6) (.slice u7 r7.length uc7) (.slice u8 r8.length uc8) r3 r4 r6 r7 r8 VF ∧ CV lg gg gg m0 m1 m2 m5 (.slice g3 r3.length gc3) (.slice g4 r4.length gc4) (.slice g6 r6.length gc6) (.slice g7 r7.length gc7) (.slice g8 r8.length gc8) (layStringS.mark (1) r3).1 (layPendingS.mark (1 + 1 * (r3.length : Int)) r4).1 (layEarlyS.mark (1 + 1 * (r3.length : Int) + 4 * (r4.length : Int)) r6).1 (layIntS.mark (1 + 1 * (r3.length : Int) + 4 * (r4.length : Int) + 2 * (r6.length : Int)) r7).1 (layStringS.mark (1 + 1 * (r3.length : Int) + 4 * (r4.length : Int) + 2 * (r6.length : Int) + 1 * (r7.length : Int)) r8).1 VF ∧ Below w.heap.size w VF) := Lib.hid ⟨QE.out.1.rng hcD (.inl (by omega)), QE.out.2.1.rng hcD (.inl (by omega)), QE.out.2.2.1.apart hcD (.inl (by omega)) (.inl (by omega)), hmD, QE.out.2.2.2.2.trans (hcD.below (by omega) QE.out.2.2.2.2.size)⟩
        clear hmD hcD KC QE d0 d1 d2 d3 d4 d5 d6 d7 d8
        have qm : ∀ X Y, (VarA w.heap.size 36 #[.int .i64 n0, .int .i64 n1, .int .i64 n2, .slice b3 p3.length bc3, .slice b4 p4.length bc4, .int .i64 n5, .slice b6 p6.length bc6, .slice b7 p7.length bc7, .slice b8 p8.length bc8] X ∧ VarA (w.heap.size + 1) LPkT #[.int .i64 op, .int .i64 key, .int .i64 fr, .int .i64 dst, .int .i64 num, .slice pb acks.length pbc, .string body] X ∧ CU lu hu gu m0 m1 m2 m5 (.slice u3 r3.length uc3) (.slice u4 r4.length uc4) (.slice u6 r6.length uc6) (.slice u7 r7.length uc7) (.slice u8 r8.length uc8) r3 r4 r6 r7 r8 X ∧ CV lg gg gg m0 m1 m2 m5 (.slice g3 r3.length gc3) (.slice g4 r4.length gc4) (.slice g6 r6.length gc6) (.slice g7 r7.length gc7) (.slice g8 r8.length gc8) (layStringS.mark (1) r3).1 (layPendingS.mark (1 + 1 * (r3.length : Int)) r4).1 (layEarlyS.mark (1 + 1 * (r3.length : Int) + 4 * (r4.length : Int)) r6).1 (layIntS.mark (1 + 1 * (r3.length : Int) + 4 * (r4.length : Int) + 2 * (r6.length : Int)) r7).1 (layStringS.mark (1 + 1 * (r3.length : Int) + 4 * (r4.length : Int) + 2 * (r6.length : Int) + 1 * (r7.length : Int)) r8).1 X ∧ Below w.heap.size w X) → Below X.heap.size X Y → (VarA w.heap.size 36 #[.int .i64 n0, .int .i64 n1, .int .i64 n2, .slice b3 p3.length bc3, .slice b4 p4.length bc4, .int .i64 n5, .slice b6 p6.length bc6, .slice b7 p7.length bc7, .slice b8 p8.length bc8] Y ∧ VarA (w.heap.size + 1) LPkT #[.int .i64 op, .int .i64 key, .int .i64 fr, .int .i64 dst, .int .i64 num, .slice pb acks.length pbc, .string body] Y ∧ CU lu hu gu m0 m1 m2 m5 (.slice u3 r3.length uc3) (.slice u4 r4.length uc4) (.slice u6 r6.length uc6) (.slice u7 r7.length uc7) (.slice u8 r8.length uc8) r3 r4 r6 r7 r8 Y ∧ CV lg gg gg m0 m1 m2 m5 (.slice g3 r3.length gc3) (.slice g4 r4.length gc4) (.slice g6 r6.length gc6) (.slice g7 r7.length gc7) (.slice g8 r8.length gc8) (layStringS.mark (1) r3).1 (layPendingS.mark (1 + 1 * (r3.length : Int)) r4).1 (layEarlyS.mark (1 + 1 * (r3.length : Int) + 4 * (r4.length : Int)) r6).1 (layIntS.mark (1 + 1 * (r3.length : Int) + 4 * (r4.length : Int) + 2 * (r6.length : Int)) r7).1 (layStringS.mark (1 + 1 * (r3.length : Int) + 4 * (r4.length : Int) + 2 * (r6.length : Int) + 1 * (r7.length : Int)) r8).1 Y ∧ Below w.heap.size w Y) := fun X Y h hb => ⟨h.1.next hb, h.2.1.next hb, h.2.2.1.next hb, h.2.2.2.1.next hb, h.2.2.2.2.trans (hb.mono h.2.2.2.2.size)⟩
        have KH : Hid (∀ X, (VarA w.heap.size 36 #[.int .i64 n0, .int .i64 n1, .int .i64 n2, .slice b3 p3.length bc3, .slice b4 p4.length bc4, .int .i64 n5, .slice b6 p6.length bc6, .slice b7 p7.length bc7, .slice b8 p8.length bc8] X ∧ VarA (w.heap.size + 1) LPkT #[.int .i64 op, .int .i64 key, .int .i64 fr, .int .i64 dst, .int .i64 num, .slice pb acks.length pbc, .string body] X ∧ CU lu hu gu m0 m1 m2 m5 (.slice u3 r3.length uc3) (.slice u4 r4.length uc4) (.slice u6 r6.length uc6) (.slice u7 r7.length uc7) (.slice u8 r8.length uc8) r3 r4 r6 r7 r8 X ∧ CV lg gg gg m0 m1 m2 m5 (.slice g3 r3.length gc3) (.slice g4 r4.length gc4) (.slice g6 r6.length gc6) (.slice g7 r7.length gc7) (.slice g8 r8.length gc8) (layStringS.mark (1) r3).1 (layPendingS.mark (1 + 1 * (r3.length : Int)) r4).1 (layEarlyS.mark (1 + 1 * (r3.length : Int) + 4 * (r4.length : Int)) r6).1 (layIntS.mark (1 + 1 * (r3.length : Int) + 4 * (r4.length : Int) + 2 * (r6.length : Int)) r7).1 (layStringS.mark (1 + 1 * (r3.length : Int) + 4 * (r4.length : Int) + 2 * (r6.length : Int) + 1 * (r7.length : Int)) r8).1 X ∧ Below w.heap.size w X) → Calls Try.prog 12 #[.agg #[.int .i64 m0, .int .i64 m1, .int .i64 m2, .slice g3 r3.length gc3, .slice g4 r4.length gc4, .int .i64 m5, .slice g6 r6.length gc6, .slice g7 r7.length gc7, .slice g8 r8.length gc8], .int .i64 1] X fun e Y => e = .returned (.int .i64 (cntC r3 r4 r6 r7 r8)) ∧ Below X.heap.size X Y) := Lib.hid (fun X h => h.2.2.2.1.held HFR.out)
        have hm1 := cnt_not (r3 := r3) (r4 := r4) (r6 := r6) (r7 := r7) (r8 := r8)
        generalize cntC r3 r4 r6 r7 r8 = zr at *
        have d0 : VF.cell? ⟨gg, 0, none⟩ = some (.int .i64 m0) := QF.out.2.2.2.1.var.cell 0
        have d1 : VF.cell? ⟨gg, 1, none⟩ = some (.int .i64 m1) := QF.out.2.2.2.1.var.cell 1
        have d2 : VF.cell? ⟨gg, 2, none⟩ = some (.int .i64 m2) := QF.out.2.2.2.1.var.cell 2
        have d3 : VF.cell? ⟨gg, 3, none⟩ = some (.slice g3 r3.length gc3) := QF.out.2.2.2.1.var.cell 3
        have d4 : VF.cell? ⟨gg, 4, none⟩ = some (.slice g4 r4.length gc4) := QF.out.2.2.2.1.var.cell 4
        have d5 : VF.cell? ⟨gg, 5, none⟩ = some (.int .i64 m5) := QF.out.2.2.2.1.var.cell 5
        have d6 : VF.cell? ⟨gg, 6, none⟩ = some (.slice g6 r6.length gc6) := QF.out.2.2.2.1.var.cell 6
        have d7 : VF.cell? ⟨gg, 7, none⟩ = some (.slice g7 r7.length gc7) := QF.out.2.2.2.1.var.cell 7
        have d8 : VF.cell? ⟨gg, 8, none⟩ = some (.slice g8 r8.length gc8) := QF.out.2.2.2.1.var.cell 8
        go_wp2_with fail
        refine (KH.out VF QF.out).mono ?_
        rintro e VG ⟨rfl, hbE⟩
        have QG := Lib.hid (qm _ _ QF.out hbE)
        clear hbE QF d0 d1 d2 d3 d4 d5 d6 d7 d8
        have Z2 : Hid (VarA w.heap.size 36 #[.int .i64 n0, .int .i64 n1, .int .i64 n2, .slice b3 p3.length bc3, .slice b4 p4.length bc4, .int .i64 n5, .slice b6 p6.length bc6, .slice b7 p7.length bc7, .slice b8 p8.length bc8] VG ∧ VarA (w.heap.size + 1) LPkT #[.int .i64 op, .int .i64 key, .int .i64 fr, .int .i64 dst, .int .i64 num, .slice pb acks.length pbc, .string body] VG ∧ Below w.heap.size w VG) := Lib.hid ⟨QG.out.1, QG.out.2.1, QG.out.2.2.2.2⟩
        have qv : ∀ X Y, (Hid (VarA w.heap.size 36 #[.int .i64 n0, .int .i64 n1, .int .i64 n2, .slice b3 p3.length bc3, .slice b4 p4.length bc4, .int .i64 n5, .slice b6 p6.length bc6, .slice b7 p7.length bc7, .slice b8 p8.length bc8] X ∧ VarA (w.heap.size + 1) LPkT #[.int .i64 op, .int .i64 key, .int .i64 fr, .int .i64 dst, .int .i64 num, .slice pb acks.length pbc, .string body] X ∧ Below w.heap.size w X ∧ Below VG.heap.size VG X)) → Below X.heap.size X Y → (Hid (VarA w.heap.size 36 #[.int .i64 n0, .int .i64 n1, .int .i64 n2, .slice b3 p3.length bc3, .slice b4 p4.length bc4, .int .i64 n5, .slice b6 p6.length bc6, .slice b7 p7.length bc7, .slice b8 p8.length bc8] Y ∧ VarA (w.heap.size + 1) LPkT #[.int .i64 op, .int .i64 key, .int .i64 fr, .int .i64 dst, .int .i64 num, .slice pb acks.length pbc, .string body] Y ∧ Below w.heap.size w Y ∧ Below VG.heap.size VG Y)) := fun X Y h hb => Lib.hid ⟨h.out.1.next hb, h.out.2.1.next hb, h.out.2.2.1.trans (hb.mono h.out.2.2.1.size), h.out.2.2.2.trans (hb.mono h.out.2.2.2.size)⟩
        have E0 : Hid (VarA w.heap.size 36 #[.int .i64 n0, .int .i64 n1, .int .i64 n2, .slice b3 p3.length bc3, .slice b4 p4.length bc4, .int .i64 n5, .slice b6 p6.length bc6, .slice b7 p7.length bc7, .slice b8 p8.length bc8] VG.drew ∧ VarA (w.heap.size + 1) LPkT #[.int .i64 op, .int .i64 key, .int .i64 fr, .int .i64 dst, .int .i64 num, .slice pb acks.length pbc, .string body] VG.drew ∧ Below w.heap.size w VG.drew ∧ Below VG.heap.size VG VG.drew) := qv _ _ (Lib.hid ⟨Z2.out.1, Z2.out.2.1, Z2.out.2.2, Below.refl _ _⟩) ((Below.refl _ _).drew)
        have hbx : w.heap.size + 1 < VG.heap.size := Z2.out.2.1.lt
        have SN : Hid (∀ (X : World) (G : Nat) (sv0 sv1 sv2 sv3 sv4 sv5 sv6 sv7 sv8 : Value), VG.heap.size ≤ G → (Hid (VarA w.heap.size 36 #[.int .i64 n0, .int .i64 n1, .int .i64 n2, .slice b3 p3.length bc3, .slice b4 p4.length bc4, .int .i64 n5, .slice b6 p6.length bc6, .slice b7 p7.length bc7, .slice b8 p8.length bc8] X ∧ VarA (w.heap.size + 1) LPkT #[.int .i64 op, .int .i64 key, .int .i64 fr, .int .i64 dst, .int .i64 num, .slice pb acks.length pbc, .string body] X ∧ Below w.heap.size w X ∧ Below VG.heap.size VG X)) → (Hid (VarA w.heap.size 36 #[.int .i64 n0, .int .i64 n1, .int .i64 n2, .slice b3 p3.length bc3, .slice b4 p4.length bc4, .int .i64 n5, .slice b6 p6.length bc6, .slice b7 p7.length bc7, .slice b8 p8.length bc8] ((((((((((X.setCell ⟨G, 0, none⟩ sv0).setCell ⟨G, 1, none⟩ sv1).setCell ⟨G, 2, none⟩ sv2).setCell ⟨G, 3, none⟩ sv3).setCell ⟨G, 4, none⟩ sv4).setCell ⟨G, 5, none⟩ sv5).setCell ⟨G, 6, none⟩ sv6).setCell ⟨G, 7, none⟩ sv7).setCell ⟨G, 8, none⟩ sv8)) ∧ VarA (w.heap.size + 1) LPkT #[.int .i64 op, .int .i64 key, .int .i64 fr, .int .i64 dst, .int .i64 num, .slice pb acks.length pbc, .string body] ((((((((((X.setCell ⟨G, 0, none⟩ sv0).setCell ⟨G, 1, none⟩ sv1).setCell ⟨G, 2, none⟩ sv2).setCell ⟨G, 3, none⟩ sv3).setCell ⟨G, 4, none⟩ sv4).setCell ⟨G, 5, none⟩ sv5).setCell ⟨G, 6, none⟩ sv6).setCell ⟨G, 7, none⟩ sv7).setCell ⟨G, 8, none⟩ sv8)) ∧ Below w.heap.size w ((((((((((X.setCell ⟨G, 0, none⟩ sv0).setCell ⟨G, 1, none⟩ sv1).setCell ⟨G, 2, none⟩ sv2).setCell ⟨G, 3, none⟩ sv3).setCell ⟨G, 4, none⟩ sv4).setCell ⟨G, 5, none⟩ sv5).setCell ⟨G, 6, none⟩ sv6).setCell ⟨G, 7, none⟩ sv7).setCell ⟨G, 8, none⟩ sv8)) ∧ Below VG.heap.size VG ((((((((((X.setCell ⟨G, 0, none⟩ sv0).setCell ⟨G, 1, none⟩ sv1).setCell ⟨G, 2, none⟩ sv2).setCell ⟨G, 3, none⟩ sv3).setCell ⟨G, 4, none⟩ sv4).setCell ⟨G, 5, none⟩ sv5).setCell ⟨G, 6, none⟩ sv6).setCell ⟨G, 7, none⟩ sv7).setCell ⟨G, 8, none⟩ sv8))))) := Lib.hid (fun X G sv0 sv1 sv2 sv3 sv4 sv5 sv6 sv7 sv8 hG h => by
          have ho := only_nine X G sv0 sv1 sv2 sv3 sv4 sv5 sv6 sv7 sv8
          have hq := h.out
          exact Lib.hid ⟨hq.1.only ho (by omega), hq.2.1.only ho (by omega), hq.2.2.1.trans (only_below ho (by omega) hq.2.2.1.size), hq.2.2.2.trans (only_below ho hG hq.2.2.2.size)⟩)
        have KT : Hid (∀ X, (Hid (VarA w.heap.size 36 #[.int .i64 n0, .int .i64 n1, .int .i64 n2, .slice b3 p3.length bc3, .slice b4 p4.length bc4, .int .i64 n5, .slice b6 p6.length bc6, .slice b7 p7.length bc7, .slice b8 p8.length bc8] X ∧ VarA (w.heap.size + 1) LPkT #[.int .i64 op, .int .i64 key, .int .i64 fr, .int .i64 dst, .int .i64 num, .slice pb acks.length pbc, .string body] X ∧ Below w.heap.size w X ∧ Below VG.heap.size VG X)) → Calls Try.prog 15 #[.agg #[.int .i64 n0, .int .i64 n1, .int .i64 n2, .slice b3 p3.length bc3, .slice b4 p4.length bc4, .int .i64 n5, .slice b6 p6.length bc6, .slice b7 p7.length bc7, .slice b8 p8.length bc8]] X fun e Y => ∃ (t3 : Option Addr) (tc3 : Nat) (t4 : Option Addr) (tc4 : Nat) (t6 : Option Addr) (tc6 : Nat) (t7 : Option Addr) (tc7 : Nat) (t8 : Option Addr) (tc8 : Nat), e = .returned (.agg #[.int .i64 n0, .int .i64 n1, .int .i64 n2, .slice t3 p3.length tc3, .slice t4 p4.length tc4, .int .i64 n5, .slice t6 p6.length tc6, .slice t7 p7.length tc7, .slice t8 p8.length tc8]) ∧ Hid (ChanRd (.slice t3 p3.length tc3) (.slice t4 p4.length tc4) (.slice t6 p6.length tc6) (.slice t7 p7.length tc7) (.slice t8 p8.length tc8) p3 p4 p6 p7 p8 Y) ∧ (Hid (VarA w.heap.size 36 #[.int .i64 n0, .int .i64 n1, .int .i64 n2, .slice b3 p3.length bc3, .slice b4 p4.length bc4, .int .i64 n5, .slice b6 p6.length bc6, .slice b7 p7.length bc7, .slice b8 p8.length bc8] Y ∧ VarA (w.heap.size + 1) LPkT #[.int .i64 op, .int .i64 key, .int .i64 fr, .int .i64 dst, .int .i64 num, .slice pb acks.length pbc, .string body] Y ∧ Below w.heap.size w Y ∧ Below VG.heap.size VG Y)) ∧ Hid (Below X.heap.size X Y)) := Lib.hid (fun X hX => by
          have hq := hX.out
          refine (TT.out X hq.2.2.1).mono ?_
          rintro e Y ⟨v, rfl, hv⟩
          obtain ⟨t3, tc3, t4, tc4, t6, tc6, t7, tc7, t8, tc8, f3, f4, f6, f7, f8, rfl, hco, hb⟩ := hv
          exact ⟨t3, tc3, t4, tc4, t6, tc6, t7, tc7, t8, tc8, rfl, Lib.hid hco.rd, qv _ _ hX hb, Lib.hid hb⟩)
        have KP : Hid (∀ X, (Hid (VarA w.heap.size 36 #[.int .i64 n0, .int .i64 n1, .int .i64 n2, .slice b3 p3.length bc3, .slice b4 p4.length bc4, .int .i64 n5, .slice b6 p6.length bc6, .slice b7 p7.length bc7, .slice b8 p8.length bc8] X ∧ VarA (w.heap.size + 1) LPkT #[.int .i64 op, .int .i64 key, .int .i64 fr, .int .i64 dst, .int .i64 num, .slice pb acks.length pbc, .string body] X ∧ Below w.heap.size w X ∧ Below VG.heap.size VG X)) → Calls Try.prog 26 #[.agg #[.int .i64 op, .int .i64 key, .int .i64 fr, .int .i64 dst, .int .i64 num, .slice pb acks.length pbc, .string body]] X fun e Y => ∃ (ta : Option Addr) (tc : Nat), e = .returned (.agg #[.int .i64 op, .int .i64 key, .int .i64 fr, .int .i64 dst, .int .i64 num, .slice ta acks.length tc, .string body]) ∧ Hid (layIntS.rd Y [.slice ta acks.length tc] acks) ∧ (Hid (VarA w.heap.size 36 #[.int .i64 n0, .int .i64 n1, .int .i64 n2, .slice b3 p3.length bc3, .slice b4 p4.length bc4, .int .i64 n5, .slice b6 p6.length bc6, .slice b7 p7.length bc7, .slice b8 p8.length bc8] Y ∧ VarA (w.heap.size + 1) LPkT #[.int .i64 op, .int .i64 key, .int .i64 fr, .int .i64 dst, .int .i64 num, .slice pb acks.length pbc, .string body] Y ∧ Below w.heap.size w Y ∧ Below VG.heap.size VG Y)) ∧ Hid (Below X.heap.size X Y)) := Lib.hid (fun X hX => by
          have hq := hX.out
          refine (TP.out X hq.2.2.1).mono ?_
          rintro e Y ⟨ta, tc, f, rfl, hd, hown, hb⟩
          exact ⟨ta, tc, rfl, Lib.hid (layIntS.read hown), qv _ _ hX hb, Lib.hid hb⟩)
        have KU : Hid (∀ (t3 : Option Addr) (tc3 : Nat) (t4 : Option Addr) (tc4 : Nat) (t6 : Option Addr) (tc6 : Nat) (t7 : Option Addr) (tc7 : Nat) (t8 : Option Addr) (tc8 : Nat) (ta : Option Addr) (tc : Nat) (X : World), (Hid (VarA w.heap.size 36 #[.int .i64 n0, .int .i64 n1, .int .i64 n2, .slice b3 p3.length bc3, .slice b4 p4.length bc4, .int .i64 n5, .slice b6 p6.length bc6, .slice b7 p7.length bc7, .slice b8 p8.length bc8] X ∧ VarA (w.heap.size + 1) LPkT #[.int .i64 op, .int .i64 key, .int .i64 fr, .int .i64 dst, .int .i64 num, .slice pb acks.length pbc, .string body] X ∧ Below w.heap.size w X ∧ Below VG.heap.size VG X)) → Hid (ChanRd (.slice t3 p3.length tc3) (.slice t4 p4.length tc4) (.slice t6 p6.length tc6) (.slice t7 p7.length tc7) (.slice t8 p8.length tc8) p3 p4 p6 p7 p8 X) → Hid (layIntS.rd X [.slice ta acks.length tc] acks) → Calls Try.prog 27 #[.agg #[.int .i64 n0, .int .i64 n1, .int .i64 n2, .slice t3 p3.length tc3, .slice t4 p4.length tc4, .int .i64 n5, .slice t6 p6.length tc6, .slice t7 p7.length tc7, .slice t8 p8.length tc8], .agg #[.int .i64 op, .int .i64 key, .int .i64 fr, .int .i64 dst, .int .i64 num, .slice ta acks.length tc, .string body]] X fun e Y => ∃ (h3 : Option Addr) (hc3 : Nat) (h4 : Option Addr) (hc4 : Nat) (h6 : Option Addr) (hc6 : Nat) (h7 : Option Addr) (hc7 : Nat) (h8 : Option Addr) (hc8 : Nat) (f3 f4 f6 f7 f8 : List Nat), e = .returned (.tuple #[.agg #[.int .i64 m0, .int .i64 m1, .int .i64 m2, .slice h3 r3.length hc3, .slice h4 r4.length hc4, .int .i64 m5, .slice h6 r6.length hc6, .slice h7 r7.length hc7, .slice h8 r8.length hc8], .bool b]) ∧ Hid (COT VG.heap.size (.slice h3 r3.length hc3) (.slice h4 r4.length hc4) (.slice h6 r6.length hc6) (.slice h7 r7.length hc7) (.slice h8 r8.length hc8) f3 f4 f6 f7 f8 r3 r4 r6 r7 r8 Y) ∧ (Hid (VarA w.heap.size 36 #[.int .i64 n0, .int .i64 n1, .int .i64 n2, .slice b3 p3.length bc3, .slice b4 p4.length bc4, .int .i64 n5, .slice b6 p6.length bc6, .slice b7 p7.length bc7, .slice b8 p8.length bc8] Y ∧ VarA (w.heap.size + 1) LPkT #[.int .i64 op, .int .i64 key, .int .i64 fr, .int .i64 dst, .int .i64 num, .slice pb acks.length pbc, .string body] Y ∧ Below w.heap.size w Y ∧ Below VG.heap.size VG Y)) ∧ Hid (Below X.heap.size X Y)) := Lib.hid (fun t3 tc3 t4 tc4 t6 tc6 t7 tc7 t8 tc8 ta tc X hX hrd hrp => by
          have hq := hX.out
          refine (HI.out HF.out la lb _ _ _ _ _ _ X hrd.out hrp.out).mono ?_
          rintro e Y ⟨v, rfl, hv⟩
          obtain ⟨h3, hc3, h4, hc4, h6, hc6, h7, hc7, h8, hc8, f3, f4, f6, f7, f8, rfl, hco, hb⟩ := hv
          exact ⟨h3, hc3, h4, hc4, h6, hc6, h7, hc7, h8, hc8, f3, f4, f6, f7, f8, rfl, Lib.hid (hco.lower hq.2.2.2.size), qv _ _ hX hb, Lib.hid hb⟩)
        go_wp2_with fail
        go_cut [15, 16] (fun x y wx => ∃ (gh : Nat) (h3 : Option Addr) (hc3 : Nat) (h4 : Option Addr) (hc4 : Nat) (h6 : Option Addr) (hc6 : Nat) (h7 : Option Addr) (hc7 : Nat) (h8 : Option Addr) (hc8 : Nat), x = .pointer (some ⟨gh, 0, none⟩) ∧ y = .bool b ∧ NC VG m0 m1 m2 m5 (.slice h3 r3.length hc3) (.slice h4 r4.length hc4) (.slice h6 r6.length hc6) (.slice h7 r7.length hc7) (.slice h8 r8.length hc8) r3 r4 r6 r7 r8 gh wx)
        case first =>
          refine wp_region_held_drew (S := fun X => Hid (VarA w.heap.size 36 #[.int .i64 n0, .int .i64 n1, .int .i64 n2, .slice b3 p3.length bc3, .slice b4 p4.length bc4, .int .i64 n5, .slice b6 p6.length bc6, .slice b7 p7.length bc7, .slice b8 p8.length bc8] X ∧ VarA (w.heap.size + 1) LPkT #[.int .i64 op, .int .i64 key, .int .i64 fr, .int .i64 dst, .int .i64 num, .slice pb acks.length pbc, .string body] X ∧ Below w.heap.size w X ∧ Below VG.heap.size VG X)) (by kernel_rfl) E0 (fun hHeld => ?_)
          clear E0
          generalize VG.drew = X0 at *
          refine wpAnyH_take (i := 0) (v := ?_) rfl (by kernel_rfl) (by kernel_rfl) (by kernel_rfl) (fun _ _ _ h => h) (Or.inl ⟨by kernel_rfl, ?_⟩) hHeld ?_
          rotate_left
          · intro X hX
            have y0 : X.cell? ⟨w.heap.size, 0, none⟩ = some (.int .i64 n0) := hX.out.1.cell 0
            have y1 : X.cell? ⟨w.heap.size, 1, none⟩ = some (.int .i64 n1) := hX.out.1.cell 1
            have y2 : X.cell? ⟨w.heap.size, 2, none⟩ = some (.int .i64 n2) := hX.out.1.cell 2
            have y3 : X.cell? ⟨w.heap.size, 3, none⟩ = some (.slice b3 p3.length bc3) := hX.out.1.cell 3
            have y4 : X.cell? ⟨w.heap.size, 4, none⟩ = some (.slice b4 p4.length bc4) := hX.out.1.cell 4
            have y5 : X.cell? ⟨w.heap.size, 5, none⟩ = some (.int .i64 n5) := hX.out.1.cell 5
            have y6 : X.cell? ⟨w.heap.size, 6, none⟩ = some (.slice b6 p6.length bc6) := hX.out.1.cell 6
            have y7 : X.cell? ⟨w.heap.size, 7, none⟩ = some (.slice b7 p7.length bc7) := hX.out.1.cell 7
            have y8 : X.cell? ⟨w.heap.size, 8, none⟩ = some (.slice b8 p8.length bc8) := hX.out.1.cell 8
            first | (go_simp; done) | (go_simp; with_reducible rfl)
          try simp only [Act.put, List.getElem_toArray, List.getElem_cons_zero, List.setIfInBounds_toArray, List.set_cons_zero, List.set_cons_succ]
          refine wpAnyH_take (i := 2) (v := ?_) rfl (by kernel_rfl) (by kernel_rfl) (by kernel_rfl) (fun _ _ _ h => h) (Or.inl ⟨by kernel_rfl, ?_⟩) hHeld ?_
          rotate_left
          · intro X hX
            have y0 : X.cell? ⟨w.heap.size + 1, 0, none⟩ = some (.int .i64 op) := hX.out.2.1.cell 0
            have y1 : X.cell? ⟨w.heap.size + 1, 1, none⟩ = some (.int .i64 key) := hX.out.2.1.cell 1
            have y2 : X.cell? ⟨w.heap.size + 1, 2, none⟩ = some (.int .i64 fr) := hX.out.2.1.cell 2
            have y3 : X.cell? ⟨w.heap.size + 1, 3, none⟩ = some (.int .i64 dst) := hX.out.2.1.cell 3
            have y4 : X.cell? ⟨w.heap.size + 1, 4, none⟩ = some (.int .i64 num) := hX.out.2.1.cell 4
            have y5 : X.cell? ⟨w.heap.size + 1, 5, none⟩ = some (.slice pb acks.length pbc) := hX.out.2.1.cell 5
            have y6 : X.cell? ⟨w.heap.size + 1, 6, none⟩ = some (.string body) := hX.out.2.1.cell 6
            first | (go_simp; done) | (go_simp; with_reducible rfl)
          try simp only [Act.put, List.getElem_toArray, List.getElem_cons_succ, List.getElem_cons_zero, List.setIfInBounds_toArray, List.set_cons_zero, List.set_cons_succ]
          refine wpAnyH_ready (rs := [1, 8]) (by kernel_rfl) (by simp) ?_
          refine AllReadyH.cons rfl (fun K hK => ?_) (AllReadyH.cons rfl (fun K hK => ?_) AllReadyH.nil)
          · go_simp
            go_wp2_with ((go_at_call 15; refine (KT.out _ hHeld).mono ?_; rintro e X1 ⟨t3, tc3, t4, tc4, t6, tc6, t7, tc7, t8, tc8, rfl, hq, hS, hb⟩))
            refine hK.out _ _ hS (fun hHeld => ?_)
            clear hK K hS
            clear hb
            try simp only [Act.put, List.getElem_toArray, List.getElem_cons_succ, List.getElem_cons_zero, List.setIfInBounds_toArray, List.set_cons_zero, List.set_cons_succ]
            refine wpAnyH_ready (rs := [3, 8]) (by kernel_rfl) (by simp) ?_
            refine AllReadyH.cons rfl (fun K hK => ?_) (AllReadyH.cons rfl (fun K hK => ?_) AllReadyH.nil)
            · go_simp
              go_wp2_with ((go_at_call 26; refine (KP.out _ hHeld).mono ?_; rintro e X2 ⟨ta, tc, rfl, hp, hS, hb⟩))
              refine hK.out _ _ hS (fun hHeld => ?_)
              clear hK K hS
              replace hq := Lib.hid (hq.out.next hb.out)
              clear hb
              try simp only [Act.put, List.getElem_toArray, List.getElem_cons_succ, List.getElem_cons_zero, List.setIfInBounds_toArray, List.set_cons_zero, List.set_cons_succ]
              refine wpAnyH_ready (rs := [4, 8]) (by kernel_rfl) (by simp) ?_
              refine AllReadyH.cons rfl (fun K hK => ?_) (AllReadyH.cons rfl (fun K hK => ?_) AllReadyH.nil)
              · go_simp
                go_wp2_with ((go_at_call 27; refine (KU.out _ _ _ _ _ _ _ _ _ _ _ _ _ hHeld hq hp).mono ?_; rintro e X3 ⟨h3, hc3, h4, hc4, h6, hc6, h7, hc7, h8, hc8, f3, f4, f6, f7, f8, rfl, hou, hS, hb⟩))
                refine hK.out _ _ hS (fun hHeld => ?_)
                clear hK K hS
                clear hq hp
                clear hb
                try simp only [Act.put, List.getElem_toArray, List.getElem_cons_succ, List.getElem_cons_zero, List.setIfInBounds_toArray, List.set_cons_zero, List.set_cons_succ]
                refine wpAnyH_take (i := 5) (v := ?_) rfl (by kernel_rfl) (by kernel_rfl) (by kernel_rfl) (fun _ _ _ h => h) (Or.inl ⟨by kernel_rfl, ?_⟩) hHeld ?_
                rotate_left
                · intro X hX
                  first | (go_simp; done) | (go_simp; with_reducible rfl)
                try simp only [Act.put, List.getElem_toArray, List.getElem_cons_succ, List.getElem_cons_zero, List.setIfInBounds_toArray, List.set_cons_zero, List.set_cons_succ]
                refine wpAnyH_take (i := 6) (v := ?_) rfl (by kernel_rfl) (by kernel_rfl) (by kernel_rfl) (fun _ _ _ h => h) (Or.inl ⟨by kernel_rfl, ?_⟩) hHeld ?_
                rotate_left
                · intro X hX
                  first | (go_simp; done) | (go_simp; with_reducible rfl)
                try simp only [Act.put, List.getElem_toArray, List.getElem_cons_succ, List.getElem_cons_zero, List.setIfInBounds_toArray, List.set_cons_zero, List.set_cons_succ]
                refine wpAnyH_take (i := 7) (v := ?_) rfl (by kernel_rfl) (by kernel_rfl) (by kernel_rfl) (fun _ _ _ h => h) (Or.inl ⟨by kernel_rfl, ?_⟩) hHeld ?_
                rotate_left
                · intro X hX
                  first | (go_simp; done) | (go_simp; with_reducible rfl)
                try simp only [Act.put, List.getElem_toArray, List.getElem_cons_succ, List.getElem_cons_zero, List.setIfInBounds_toArray, List.set_cons_zero, List.set_cons_succ]
                refine wpAnyH_ready (rs := [8]) (by kernel_rfl) (by simp) ?_
                refine AllReadyH.cons rfl (fun K hK => ?_) AllReadyH.nil
                · go_simp
                  have hlo : VG.heap.size ≤ X3.heap.size := hHeld.out.2.2.2.size
                  have hal : Below X3.heap.size X3 (X3.alloc (.cells #[.int .i64 0, .int .i64 0, .int .i64 0, .slice none 0 0, .slice none 0 0, .int .i64 0, .slice none 0 0, .slice none 0 0, .slice none 0 0] ChanT)) := ((Below.refl _ _).alloc (Nat.le_refl _) _)
                  refine hK.out _ _ (qv _ _ hHeld hal) (fun hHeld => ?_)
                  clear hK K
                  have rr := Lib.hid (VarA.new X3 ChanT #[.int .i64 0, .int .i64 0, .int .i64 0, .slice none 0 0, .slice none 0 0, .int .i64 0, .slice none 0 0, .slice none 0 0, .slice none 0 0])
                  replace hou := Lib.hid (hou.out.next hal)
                  clear hal
                  generalize X3.alloc (.cells #[.int .i64 0, .int .i64 0, .int .i64 0, .slice none 0 0, .slice none 0 0, .int .i64 0, .slice none 0 0, .slice none 0 0, .slice none 0 0] ChanT) = X4 at *
                  generalize X3.heap.size = G at *
                  try simp only [Act.put, List.getElem_toArray, List.getElem_cons_succ, List.getElem_cons_zero, List.setIfInBounds_toArray, List.set_cons_zero, List.set_cons_succ]
                  refine wpAnyH_ready (rs := [9]) (by kernel_rfl) (by simp) ?_
                  refine AllReadyH.cons rfl (fun K hK => ?_) AllReadyH.nil
                  · have r0_ : X4.cell? ⟨G, 0, none⟩ = some (.int .i64 0) := rr.out.cell 0
                    have g0_ := rr.out.free 0
                    have r1_ : X4.cell? ⟨G, 1, none⟩ = some (.int .i64 0) := rr.out.cell 1
                    have g1_ := rr.out.free 1
                    have r2_ : X4.cell? ⟨G, 2, none⟩ = some (.int .i64 0) := rr.out.cell 2
                    have g2_ := rr.out.free 2
                    have r3_ : X4.cell? ⟨G, 3, none⟩ = some (.slice none 0 0) := rr.out.cell 3
                    have g3_ := rr.out.free 3
                    have r4_ : X4.cell? ⟨G, 4, none⟩ = some (.slice none 0 0) := rr.out.cell 4
                    have g4_ := rr.out.free 4
                    have r5_ : X4.cell? ⟨G, 5, none⟩ = some (.int .i64 0) := rr.out.cell 5
                    have g5_ := rr.out.free 5
                    have r6_ : X4.cell? ⟨G, 6, none⟩ = some (.slice none 0 0) := rr.out.cell 6
                    have g6_ := rr.out.free 6
                    have r7_ : X4.cell? ⟨G, 7, none⟩ = some (.slice none 0 0) := rr.out.cell 7
                    have g7_ := rr.out.free 7
                    have r8_ : X4.cell? ⟨G, 8, none⟩ = some (.slice none 0 0) := rr.out.cell 8
                    have g8_ := rr.out.free 8
                    go_simp
                    have nc := Lib.hid (NC.stored (m0 := m0) (m1 := m1) (m2 := m2) (m5 := m5) rr.out hlo hou.out hHeld.out.2.2.2)
                    refine hK.out _ _ (SN.out _ _ _ _ _ _ _ _ _ _ _ hlo hHeld) (fun hHeld => ?_)
                    clear hK K hou rr r0_ g0_ r1_ g1_ r2_ g2_ r3_ g3_ r4_ g4_ r5_ g5_ r6_ g6_ r7_ g7_ r8_ g8_
                    try simp only [Act.put, List.getElem_toArray, List.getElem_cons_succ, List.getElem_cons_zero, List.setIfInBounds_toArray, List.set_cons_zero, List.set_cons_succ]
                    refine wpAnyH_take (i := 10) (v := ?_) rfl (by kernel_rfl) (by kernel_rfl) (by kernel_rfl) (fun _ _ _ h => h) (Or.inl ⟨by kernel_rfl, ?_⟩) hHeld ?_
                    rotate_left
                    · intro X hX
                      first | (go_simp; done) | (go_simp; with_reducible rfl)
                    try simp only [Act.put, List.getElem_toArray, List.getElem_cons_succ, List.getElem_cons_zero, List.setIfInBounds_toArray, List.set_cons_zero, List.set_cons_succ]
                    refine wpAnyH_done (by kernel_rfl) ?_ _
                    have hz := hHeld.out.2.2.2
                    clear hHeld
                    go_wp2_with fail
                    go_meet
                    exact ⟨_, h3, hc3, h4, hc4, h6, hc6, h7, hc7, h8, hc8, rfl, rfl, nc.out⟩
              · go_simp
                have hlo : VG.heap.size ≤ X2.heap.size := hHeld.out.2.2.2.size
                have hal : Below X2.heap.size X2 (X2.alloc (.cells #[.int .i64 0, .int .i64 0, .int .i64 0, .slice none 0 0, .slice none 0 0, .int .i64 0, .slice none 0 0, .slice none 0 0, .slice none 0 0] ChanT)) := ((Below.refl _ _).alloc (Nat.le_refl _) _)
                refine hK.out _ _ (qv _ _ hHeld hal) (fun hHeld => ?_)
                clear hK K
                have rr := Lib.hid (VarA.new X2 ChanT #[.int .i64 0, .int .i64 0, .int .i64 0, .slice none 0 0, .slice none 0 0, .int .i64 0, .slice none 0 0, .slice none 0 0, .slice none 0 0])
                replace hq := Lib.hid (hq.out.next hal)
                replace hp := Lib.hid (layIntS.below hp.out hal)
                clear hal
                generalize X2.alloc (.cells #[.int .i64 0, .int .i64 0, .int .i64 0, .slice none 0 0, .slice none 0 0, .int .i64 0, .slice none 0 0, .slice none 0 0, .slice none 0 0] ChanT) = X3 at *
                generalize X2.heap.size = G at *
                try simp only [Act.put, List.getElem_toArray, List.getElem_cons_succ, List.getElem_cons_zero, List.setIfInBounds_toArray, List.set_cons_zero, List.set_cons_succ]
                refine wpAnyH_ready (rs := [4]) (by kernel_rfl) (by simp) ?_
                refine AllReadyH.cons rfl (fun K hK => ?_) AllReadyH.nil
                · go_simp
                  go_wp2_with ((go_at_call 27; refine (KU.out _ _ _ _ _ _ _ _ _ _ _ _ _ hHeld hq hp).mono ?_; rintro e X4 ⟨h3, hc3, h4, hc4, h6, hc6, h7, hc7, h8, hc8, f3, f4, f6, f7, f8, rfl, hou, hS, hb⟩))
                  refine hK.out _ _ hS (fun hHeld => ?_)
                  clear hK K hS
                  replace rr := Lib.hid (rr.out.next hb.out)
                  clear hq hp
                  clear hb
                  try simp only [Act.put, List.getElem_toArray, List.getElem_cons_succ, List.getElem_cons_zero, List.setIfInBounds_toArray, List.set_cons_zero, List.set_cons_succ]
                  refine wpAnyH_take (i := 5) (v := ?_) rfl (by kernel_rfl) (by kernel_rfl) (by kernel_rfl) (fun _ _ _ h => h) (Or.inl ⟨by kernel_rfl, ?_⟩) hHeld ?_
                  rotate_left
                  · intro X hX
                    first | (go_simp; done) | (go_simp; with_reducible rfl)
                  try simp only [Act.put, List.getElem_toArray, List.getElem_cons_succ, List.getElem_cons_zero, List.setIfInBounds_toArray, List.set_cons_zero, List.set_cons_succ]
                  refine wpAnyH_take (i := 6) (v := ?_) rfl (by kernel_rfl) (by kernel_rfl) (by kernel_rfl) (fun _ _ _ h => h) (Or.inl ⟨by kernel_rfl, ?_⟩) hHeld ?_
                  rotate_left
                  · intro X hX
                    first | (go_simp; done) | (go_simp; with_reducible rfl)
                  try simp only [Act.put, List.getElem_toArray, List.getElem_cons_succ, List.getElem_cons_zero, List.setIfInBounds_toArray, List.set_cons_zero, List.set_cons_succ]
                  refine wpAnyH_take (i := 7) (v := ?_) rfl (by kernel_rfl) (by kernel_rfl) (by kernel_rfl) (fun _ _ _ h => h) (Or.inl ⟨by kernel_rfl, ?_⟩) hHeld ?_
                  rotate_left
                  · intro X hX
                    first | (go_simp; done) | (go_simp; with_reducible rfl)
                  try simp only [Act.put, List.getElem_toArray, List.getElem_cons_succ, List.getElem_cons_zero, List.setIfInBounds_toArray, List.set_cons_zero, List.set_cons_succ]
                  refine wpAnyH_ready (rs := [9]) (by kernel_rfl) (by simp) ?_
                  refine AllReadyH.cons rfl (fun K hK => ?_) AllReadyH.nil
                  · have r0_ : X4.cell? ⟨G, 0, none⟩ = some (.int .i64 0) := rr.out.cell 0
                    have g0_ := rr.out.free 0
                    have r1_ : X4.cell? ⟨G, 1, none⟩ = some (.int .i64 0) := rr.out.cell 1
                    have g1_ := rr.out.free 1
                    have r2_ : X4.cell? ⟨G, 2, none⟩ = some (.int .i64 0) := rr.out.cell 2
                    have g2_ := rr.out.free 2
                    have r3_ : X4.cell? ⟨G, 3, none⟩ = some (.slice none 0 0) := rr.out.cell 3
                    have g3_ := rr.out.free 3
                    have r4_ : X4.cell? ⟨G, 4, none⟩ = some (.slice none 0 0) := rr.out.cell 4
                    have g4_ := rr.out.free 4
                    have r5_ : X4.cell? ⟨G, 5, none⟩ = some (.int .i64 0) := rr.out.cell 5
                    have g5_ := rr.out.free 5
                    have r6_ : X4.cell? ⟨G, 6, none⟩ = some (.slice none 0 0) := rr.out.cell 6
                    have g6_ := rr.out.free 6
                    have r7_ : X4.cell? ⟨G, 7, none⟩ = some (.slice none 0 0) := rr.out.cell 7
                    have g7_ := rr.out.free 7
                    have r8_ : X4.cell? ⟨G, 8, none⟩ = some (.slice none 0 0) := rr.out.cell 8
                    have g8_ := rr.out.free 8
                    go_simp
                    have nc := Lib.hid (NC.stored (m0 := m0) (m1 := m1) (m2 := m2) (m5 := m5) rr.out hlo hou.out hHeld.out.2.2.2)
                    refine hK.out _ _ (SN.out _ _ _ _ _ _ _ _ _ _ _ hlo hHeld) (fun hHeld => ?_)
                    clear hK K hou rr r0_ g0_ r1_ g1_ r2_ g2_ r3_ g3_ r4_ g4_ r5_ g5_ r6_ g6_ r7_ g7_ r8_ g8_
                    try simp only [Act.put, List.getElem_toArray, List.getElem_cons_succ, List.getElem_cons_zero, List.setIfInBounds_toArray, List.set_cons_zero, List.set_cons_succ]
                    refine wpAnyH_take (i := 10) (v := ?_) rfl (by kernel_rfl) (by kernel_rfl) (by kernel_rfl) (fun _ _ _ h => h) (Or.inl ⟨by kernel_rfl, ?_⟩) hHeld ?_
                    rotate_left
                    · intro X hX
                      first | (go_simp; done) | (go_simp; with_reducible rfl)
                    try simp only [Act.put, List.getElem_toArray, List.getElem_cons_succ, List.getElem_cons_zero, List.setIfInBounds_toArray, List.set_cons_zero, List.set_cons_succ]
                    refine wpAnyH_done (by kernel_rfl) ?_ _
                    have hz := hHeld.out.2.2.2
                    clear hHeld
                    go_wp2_with fail
                    go_meet
                    exact ⟨_, h3, hc3, h4, hc4, h6, hc6, h7, hc7, h8, hc8, rfl, rfl, nc.out⟩
            · go_simp
              have hlo : VG.heap.size ≤ X1.heap.size := hHeld.out.2.2.2.size
              have hal : Below X1.heap.size X1 (X1.alloc (.cells #[.int .i64 0, .int .i64 0, .int .i64 0, .slice none 0 0, .slice none 0 0, .int .i64 0, .slice none 0 0, .slice none 0 0, .slice none 0 0] ChanT)) := ((Below.refl _ _).alloc (Nat.le_refl _) _)
              refine hK.out _ _ (qv _ _ hHeld hal) (fun hHeld => ?_)
              clear hK K
              have rr := Lib.hid (VarA.new X1 ChanT #[.int .i64 0, .int .i64 0, .int .i64 0, .slice none 0 0, .slice none 0 0, .int .i64 0, .slice none 0 0, .slice none 0 0, .slice none 0 0])
              replace hq := Lib.hid (hq.out.next hal)
              clear hal
              generalize X1.alloc (.cells #[.int .i64 0, .int .i64 0, .int .i64 0, .slice none 0 0, .slice none 0 0, .int .i64 0, .slice none 0 0, .slice none 0 0, .slice none 0 0] ChanT) = X2 at *
              generalize X1.heap.size = G at *
              try simp only [Act.put, List.getElem_toArray, List.getElem_cons_succ, List.getElem_cons_zero, List.setIfInBounds_toArray, List.set_cons_zero, List.set_cons_succ]
              refine wpAnyH_ready (rs := [3]) (by kernel_rfl) (by simp) ?_
              refine AllReadyH.cons rfl (fun K hK => ?_) AllReadyH.nil
              · go_simp
                go_wp2_with ((go_at_call 26; refine (KP.out _ hHeld).mono ?_; rintro e X3 ⟨ta, tc, rfl, hp, hS, hb⟩))
                refine hK.out _ _ hS (fun hHeld => ?_)
                clear hK K hS
                replace hq := Lib.hid (hq.out.next hb.out)
                replace rr := Lib.hid (rr.out.next hb.out)
                clear hb
                try simp only [Act.put, List.getElem_toArray, List.getElem_cons_succ, List.getElem_cons_zero, List.setIfInBounds_toArray, List.set_cons_zero, List.set_cons_succ]
                refine wpAnyH_ready (rs := [4]) (by kernel_rfl) (by simp) ?_
                refine AllReadyH.cons rfl (fun K hK => ?_) AllReadyH.nil
                · go_simp
                  go_wp2_with ((go_at_call 27; refine (KU.out _ _ _ _ _ _ _ _ _ _ _ _ _ hHeld hq hp).mono ?_; rintro e X4 ⟨h3, hc3, h4, hc4, h6, hc6, h7, hc7, h8, hc8, f3, f4, f6, f7, f8, rfl, hou, hS, hb⟩))
                  refine hK.out _ _ hS (fun hHeld => ?_)
                  clear hK K hS
                  replace rr := Lib.hid (rr.out.next hb.out)
                  clear hq hp
                  clear hb
                  try simp only [Act.put, List.getElem_toArray, List.getElem_cons_succ, List.getElem_cons_zero, List.setIfInBounds_toArray, List.set_cons_zero, List.set_cons_succ]
                  refine wpAnyH_take (i := 5) (v := ?_) rfl (by kernel_rfl) (by kernel_rfl) (by kernel_rfl) (fun _ _ _ h => h) (Or.inl ⟨by kernel_rfl, ?_⟩) hHeld ?_
                  rotate_left
                  · intro X hX
                    first | (go_simp; done) | (go_simp; with_reducible rfl)
                  try simp only [Act.put, List.getElem_toArray, List.getElem_cons_succ, List.getElem_cons_zero, List.setIfInBounds_toArray, List.set_cons_zero, List.set_cons_succ]
                  refine wpAnyH_take (i := 6) (v := ?_) rfl (by kernel_rfl) (by kernel_rfl) (by kernel_rfl) (fun _ _ _ h => h) (Or.inl ⟨by kernel_rfl, ?_⟩) hHeld ?_
                  rotate_left
                  · intro X hX
                    first | (go_simp; done) | (go_simp; with_reducible rfl)
                  try simp only [Act.put, List.getElem_toArray, List.getElem_cons_succ, List.getElem_cons_zero, List.setIfInBounds_toArray, List.set_cons_zero, List.set_cons_succ]
                  refine wpAnyH_take (i := 7) (v := ?_) rfl (by kernel_rfl) (by kernel_rfl) (by kernel_rfl) (fun _ _ _ h => h) (Or.inl ⟨by kernel_rfl, ?_⟩) hHeld ?_
                  rotate_left
                  · intro X hX
                    first | (go_simp; done) | (go_simp; with_reducible rfl)
                  try simp only [Act.put, List.getElem_toArray, List.getElem_cons_succ, List.getElem_cons_zero, List.setIfInBounds_toArray, List.set_cons_zero, List.set_cons_succ]
                  refine wpAnyH_ready (rs := [9]) (by kernel_rfl) (by simp) ?_
                  refine AllReadyH.cons rfl (fun K hK => ?_) AllReadyH.nil
                  · have r0_ : X4.cell? ⟨G, 0, none⟩ = some (.int .i64 0) := rr.out.cell 0
                    have g0_ := rr.out.free 0
                    have r1_ : X4.cell? ⟨G, 1, none⟩ = some (.int .i64 0) := rr.out.cell 1
                    have g1_ := rr.out.free 1
                    have r2_ : X4.cell? ⟨G, 2, none⟩ = some (.int .i64 0) := rr.out.cell 2
                    have g2_ := rr.out.free 2
                    have r3_ : X4.cell? ⟨G, 3, none⟩ = some (.slice none 0 0) := rr.out.cell 3
                    have g3_ := rr.out.free 3
                    have r4_ : X4.cell? ⟨G, 4, none⟩ = some (.slice none 0 0) := rr.out.cell 4
                    have g4_ := rr.out.free 4
                    have r5_ : X4.cell? ⟨G, 5, none⟩ = some (.int .i64 0) := rr.out.cell 5
                    have g5_ := rr.out.free 5
                    have r6_ : X4.cell? ⟨G, 6, none⟩ = some (.slice none 0 0) := rr.out.cell 6
                    have g6_ := rr.out.free 6
                    have r7_ : X4.cell? ⟨G, 7, none⟩ = some (.slice none 0 0) := rr.out.cell 7
                    have g7_ := rr.out.free 7
                    have r8_ : X4.cell? ⟨G, 8, none⟩ = some (.slice none 0 0) := rr.out.cell 8
                    have g8_ := rr.out.free 8
                    go_simp
                    have nc := Lib.hid (NC.stored (m0 := m0) (m1 := m1) (m2 := m2) (m5 := m5) rr.out hlo hou.out hHeld.out.2.2.2)
                    refine hK.out _ _ (SN.out _ _ _ _ _ _ _ _ _ _ _ hlo hHeld) (fun hHeld => ?_)
                    clear hK K hou rr r0_ g0_ r1_ g1_ r2_ g2_ r3_ g3_ r4_ g4_ r5_ g5_ r6_ g6_ r7_ g7_ r8_ g8_
                    try simp only [Act.put, List.getElem_toArray, List.getElem_cons_succ, List.getElem_cons_zero, List.setIfInBounds_toArray, List.set_cons_zero, List.set_cons_succ]
                    refine wpAnyH_take (i := 10) (v := ?_) rfl (by kernel_rfl) (by kernel_rfl) (by kernel_rfl) (fun _ _ _ h => h) (Or.inl ⟨by kernel_rfl, ?_⟩) hHeld ?_
                    rotate_left
                    · intro X hX
                      first | (go_simp; done) | (go_simp; with_reducible rfl)
                    try simp only [Act.put, List.getElem_toArray, List.getElem_cons_succ, List.getElem_cons_zero, List.setIfInBounds_toArray, List.set_cons_zero, List.set_cons_succ]
                    refine wpAnyH_done (by kernel_rfl) ?_ _
                    have hz := hHeld.out.2.2.2
                    clear hHeld
                    go_wp2_with fail
                    go_meet
                    exact ⟨_, h3, hc3, h4, hc4, h6, hc6, h7, hc7, h8, hc8, rfl, rfl, nc.out⟩
          · go_simp
            have hlo : VG.heap.size ≤ X0.heap.size := hHeld.out.2.2.2.size
            have hal : Below X0.heap.size X0 (X0.alloc (.cells #[.int .i64 0, .int .i64 0, .int .i64 0, .slice none 0 0, .slice none 0 0, .int .i64 0, .slice none 0 0, .slice none 0 0, .slice none 0 0] ChanT)) := ((Below.refl _ _).alloc (Nat.le_refl _) _)
            refine hK.out _ _ (qv _ _ hHeld hal) (fun hHeld => ?_)
            clear hK K
            have rr := Lib.hid (VarA.new X0 ChanT #[.int .i64 0, .int .i64 0, .int .i64 0, .slice none 0 0, .slice none 0 0, .int .i64 0, .slice none 0 0, .slice none 0 0, .slice none 0 0])
            clear hal
            generalize X0.alloc (.cells #[.int .i64 0, .int .i64 0, .int .i64 0, .slice none 0 0, .slice none 0 0, .int .i64 0, .slice none 0 0, .slice none 0 0, .slice none 0 0] ChanT) = X1 at *
            generalize X0.heap.size = G at *
            try simp only [Act.put, List.getElem_toArray, List.getElem_cons_succ, List.getElem_cons_zero, List.setIfInBounds_toArray, List.set_cons_zero, List.set_cons_succ]
            refine wpAnyH_ready (rs := [1]) (by kernel_rfl) (by simp) ?_
            refine AllReadyH.cons rfl (fun K hK => ?_) AllReadyH.nil
            · go_simp
              go_wp2_with ((go_at_call 15; refine (KT.out _ hHeld).mono ?_; rintro e X2 ⟨t3, tc3, t4, tc4, t6, tc6, t7, tc7, t8, tc8, rfl, hq, hS, hb⟩))
              refine hK.out _ _ hS (fun hHeld => ?_)
              clear hK K hS
              replace rr := Lib.hid (rr.out.next hb.out)
              clear hb
              try simp only [Act.put, List.getElem_toArray, List.getElem_cons_succ, List.getElem_cons_zero, List.setIfInBounds_toArray, List.set_cons_zero, List.set_cons_succ]
              refine wpAnyH_ready (rs := [3]) (by kernel_rfl) (by simp) ?_
              refine AllReadyH.cons rfl (fun K hK => ?_) AllReadyH.nil
              · go_simp
                go_wp2_with ((go_at_call 26; refine (KP.out _ hHeld).mono ?_; rintro e X3 ⟨ta, tc, rfl, hp, hS, hb⟩))
                refine hK.out _ _ hS (fun hHeld => ?_)
                clear hK K hS
                replace hq := Lib.hid (hq.out.next hb.out)
                replace rr := Lib.hid (rr.out.next hb.out)
                clear hb
                try simp only [Act.put, List.getElem_toArray, List.getElem_cons_succ, List.getElem_cons_zero, List.setIfInBounds_toArray, List.set_cons_zero, List.set_cons_succ]
                refine wpAnyH_ready (rs := [4]) (by kernel_rfl) (by simp) ?_
                refine AllReadyH.cons rfl (fun K hK => ?_) AllReadyH.nil
                · go_simp
                  go_wp2_with ((go_at_call 27; refine (KU.out _ _ _ _ _ _ _ _ _ _ _ _ _ hHeld hq hp).mono ?_; rintro e X4 ⟨h3, hc3, h4, hc4, h6, hc6, h7, hc7, h8, hc8, f3, f4, f6, f7, f8, rfl, hou, hS, hb⟩))
                  refine hK.out _ _ hS (fun hHeld => ?_)
                  clear hK K hS
                  replace rr := Lib.hid (rr.out.next hb.out)
                  clear hq hp
                  clear hb
                  try simp only [Act.put, List.getElem_toArray, List.getElem_cons_succ, List.getElem_cons_zero, List.setIfInBounds_toArray, List.set_cons_zero, List.set_cons_succ]
                  refine wpAnyH_take (i := 5) (v := ?_) rfl (by kernel_rfl) (by kernel_rfl) (by kernel_rfl) (fun _ _ _ h => h) (Or.inl ⟨by kernel_rfl, ?_⟩) hHeld ?_
                  rotate_left
                  · intro X hX
                    first | (go_simp; done) | (go_simp; with_reducible rfl)
                  try simp only [Act.put, List.getElem_toArray, List.getElem_cons_succ, List.getElem_cons_zero, List.setIfInBounds_toArray, List.set_cons_zero, List.set_cons_succ]
                  refine wpAnyH_take (i := 6) (v := ?_) rfl (by kernel_rfl) (by kernel_rfl) (by kernel_rfl) (fun _ _ _ h => h) (Or.inl ⟨by kernel_rfl, ?_⟩) hHeld ?_
                  rotate_left
                  · intro X hX
                    first | (go_simp; done) | (go_simp; with_reducible rfl)
                  try simp only [Act.put, List.getElem_toArray, List.getElem_cons_succ, List.getElem_cons_zero, List.setIfInBounds_toArray, List.set_cons_zero, List.set_cons_succ]
                  refine wpAnyH_take (i := 7) (v := ?_) rfl (by kernel_rfl) (by kernel_rfl) (by kernel_rfl) (fun _ _ _ h => h) (Or.inl ⟨by kernel_rfl, ?_⟩) hHeld ?_
                  rotate_left
                  · intro X hX
                    first | (go_simp; done) | (go_simp; with_reducible rfl)
                  try simp only [Act.put, List.getElem_toArray, List.getElem_cons_succ, List.getElem_cons_zero, List.setIfInBounds_toArray, List.set_cons_zero, List.set_cons_succ]
                  refine wpAnyH_ready (rs := [9]) (by kernel_rfl) (by simp) ?_
                  refine AllReadyH.cons rfl (fun K hK => ?_) AllReadyH.nil
                  · have r0_ : X4.cell? ⟨G, 0, none⟩ = some (.int .i64 0) := rr.out.cell 0
                    have g0_ := rr.out.free 0
                    have r1_ : X4.cell? ⟨G, 1, none⟩ = some (.int .i64 0) := rr.out.cell 1
                    have g1_ := rr.out.free 1
                    have r2_ : X4.cell? ⟨G, 2, none⟩ = some (.int .i64 0) := rr.out.cell 2
                    have g2_ := rr.out.free 2
                    have r3_ : X4.cell? ⟨G, 3, none⟩ = some (.slice none 0 0) := rr.out.cell 3
                    have g3_ := rr.out.free 3
                    have r4_ : X4.cell? ⟨G, 4, none⟩ = some (.slice none 0 0) := rr.out.cell 4
                    have g4_ := rr.out.free 4
                    have r5_ : X4.cell? ⟨G, 5, none⟩ = some (.int .i64 0) := rr.out.cell 5
                    have g5_ := rr.out.free 5
                    have r6_ : X4.cell? ⟨G, 6, none⟩ = some (.slice none 0 0) := rr.out.cell 6
                    have g6_ := rr.out.free 6
                    have r7_ : X4.cell? ⟨G, 7, none⟩ = some (.slice none 0 0) := rr.out.cell 7
                    have g7_ := rr.out.free 7
                    have r8_ : X4.cell? ⟨G, 8, none⟩ = some (.slice none 0 0) := rr.out.cell 8
                    have g8_ := rr.out.free 8
                    go_simp
                    have nc := Lib.hid (NC.stored (m0 := m0) (m1 := m1) (m2 := m2) (m5 := m5) rr.out hlo hou.out hHeld.out.2.2.2)
                    refine hK.out _ _ (SN.out _ _ _ _ _ _ _ _ _ _ _ hlo hHeld) (fun hHeld => ?_)
                    clear hK K hou rr r0_ g0_ r1_ g1_ r2_ g2_ r3_ g3_ r4_ g4_ r5_ g5_ r6_ g6_ r7_ g7_ r8_ g8_
                    try simp only [Act.put, List.getElem_toArray, List.getElem_cons_succ, List.getElem_cons_zero, List.setIfInBounds_toArray, List.set_cons_zero, List.set_cons_succ]
                    refine wpAnyH_take (i := 10) (v := ?_) rfl (by kernel_rfl) (by kernel_rfl) (by kernel_rfl) (fun _ _ _ h => h) (Or.inl ⟨by kernel_rfl, ?_⟩) hHeld ?_
                    rotate_left
                    · intro X hX
                      first | (go_simp; done) | (go_simp; with_reducible rfl)
                    try simp only [Act.put, List.getElem_toArray, List.getElem_cons_succ, List.getElem_cons_zero, List.setIfInBounds_toArray, List.set_cons_zero, List.set_cons_succ]
                    refine wpAnyH_done (by kernel_rfl) ?_ _
                    have hz := hHeld.out.2.2.2
                    clear hHeld
                    go_wp2_with fail
                    go_meet
                    exact ⟨_, h3, hc3, h4, hc4, h6, hc6, h7, hc7, h8, hc8, rfl, rfl, nc.out⟩
        case rest =>
          obtain ⟨gh, h3, hc3, h4, hc4, h6, hc6, h7, hc7, h8, hc8, rfl, rfl, hnc⟩ := hcut
          generalize wc = VH at *
          have QH := Lib.hid (qm _ _ QG.out hnc.below)
          have HH := Lib.hid hnc.cu
          clear hnc hbx Z2 E0 SN KT KP KU qv QG
          generalize VG.heap.size = lh at *
          generalize VH.heap.size = hh at HH
          clear VG
          have d0 : VH.cell? ⟨gh, 0, none⟩ = some (.int .i64 m0) := HH.out.var.cell 0
          have d1 : VH.cell? ⟨gh, 1, none⟩ = some (.int .i64 m1) := HH.out.var.cell 1
          have d2 : VH.cell? ⟨gh, 2, none⟩ = some (.int .i64 m2) := HH.out.var.cell 2
          have d3 : VH.cell? ⟨gh, 3, none⟩ = some (.slice h3 r3.length hc3) := HH.out.var.cell 3
          have d4 : VH.cell? ⟨gh, 4, none⟩ = some (.slice h4 r4.length hc4) := HH.out.var.cell 4
          have d5 : VH.cell? ⟨gh, 5, none⟩ = some (.int .i64 m5) := HH.out.var.cell 5
          have d6 : VH.cell? ⟨gh, 6, none⟩ = some (.slice h6 r6.length hc6) := HH.out.var.cell 6
          have d7 : VH.cell? ⟨gh, 7, none⟩ = some (.slice h7 r7.length hc7) := HH.out.var.cell 7
          have d8 : VH.cell? ⟨gh, 8, none⟩ = some (.slice h8 r8.length hc8) := HH.out.var.cell 8
          have e0 : VH.cell? ⟨gu, 0, none⟩ = some (.int .i64 m0) := QH.out.2.2.1.var.cell 0
          have e1 : VH.cell? ⟨gu, 1, none⟩ = some (.int .i64 m1) := QH.out.2.2.1.var.cell 1
          have e2 : VH.cell? ⟨gu, 2, none⟩ = some (.int .i64 m2) := QH.out.2.2.1.var.cell 2
          have e3 : VH.cell? ⟨gu, 3, none⟩ = some (.slice u3 r3.length uc3) := QH.out.2.2.1.var.cell 3
          have e4 : VH.cell? ⟨gu, 4, none⟩ = some (.slice u4 r4.length uc4) := QH.out.2.2.1.var.cell 4
          have e5 : VH.cell? ⟨gu, 5, none⟩ = some (.int .i64 m5) := QH.out.2.2.1.var.cell 5
          have e6 : VH.cell? ⟨gu, 6, none⟩ = some (.slice u6 r6.length uc6) := QH.out.2.2.1.var.cell 6
          have e7 : VH.cell? ⟨gu, 7, none⟩ = some (.slice u7 r7.length uc7) := QH.out.2.2.1.var.cell 7
          have e8 : VH.cell? ⟨gu, 8, none⟩ = some (.slice u8 r8.length uc8) := QH.out.2.2.1.var.cell 8
          have KJ := Lib.hid (chan_eq (m0 := m0) (m1 := m1) (m2 := m2) (m5 := m5) HH.out.rd QH.out.2.2.1.rd HFR.out)
          go_wp2_with fail
          refine (KJ.out).mono ?_
          rintro e VI ⟨rfl, hbI⟩
          have QI := Lib.hid (qm _ _ QH.out hbI)
          clear hbI KJ QH HH d0 d1 d2 d3 d4 d5 d6 d7 d8 e0 e1 e2 e3 e4 e5 e6 e7 e8
          have d0 : VI.cell? ⟨gg, 0, none⟩ = some (.int .i64 m0) := QI.out.2.2.2.1.var.cell 0
          have d1 : VI.cell? ⟨gg, 1, none⟩ = some (.int .i64 m1) := QI.out.2.2.2.1.var.cell 1
          have d2 : VI.cell? ⟨gg, 2, none⟩ = some (.int .i64 m2) := QI.out.2.2.2.1.var.cell 2
          have d3 : VI.cell? ⟨gg, 3, none⟩ = some (.slice g3 r3.length gc3) := QI.out.2.2.2.1.var.cell 3
          have d4 : VI.cell? ⟨gg, 4, none⟩ = some (.slice g4 r4.length gc4) := QI.out.2.2.2.1.var.cell 4
          have d5 : VI.cell? ⟨gg, 5, none⟩ = some (.int .i64 m5) := QI.out.2.2.2.1.var.cell 5
          have d6 : VI.cell? ⟨gg, 6, none⟩ = some (.slice g6 r6.length gc6) := QI.out.2.2.2.1.var.cell 6
          have d7 : VI.cell? ⟨gg, 7, none⟩ = some (.slice g7 r7.length gc7) := QI.out.2.2.2.1.var.cell 7
          have d8 : VI.cell? ⟨gg, 8, none⟩ = some (.slice g8 r8.length gc8) := QI.out.2.2.2.1.var.cell 8
          go_wp2_with fail
          refine (KH.out VI QI.out).mono ?_
          rintro e VK ⟨rfl, hbK⟩
          have BZ := Lib.hid (QI.out.2.2.2.2.trans (hbK.mono QI.out.2.2.2.2.size))
          clear hbK
          go_wp2_with fail
          go_ret
          exact ⟨rfl, BZ.out⟩

end Go.Proofs.Ythljmjbmmgligar
