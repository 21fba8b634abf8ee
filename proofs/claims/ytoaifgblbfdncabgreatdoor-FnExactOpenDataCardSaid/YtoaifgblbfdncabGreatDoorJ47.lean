/-
  The exact law on OpenData, out of one answer that both give.
-/
import Derived.Test.YtoaifgblbfdncabGreatDoorJ46
import Derived.Test.YtoaifgblbfdncabGreatDoorJ24
import Derived.Deep.RegionHeld3
namespace Go.Proofs.YtoaifgblbfdncabGreatDoor
open Go.RowKit

set_option maxRecDepth 100000 in
set_option maxHeartbeats 25600000 in
theorem lawOpenDataF {L : World → Prop} (x0 : Int) (x1 x2 : ByteArray) (x3 : Int) (v4 : Value) (r4 : List Int) (x5 : Int) (y0 : Int) (y1 y2 : ByteArray) (y3 : Int) (u4 : Value) (s4 : List Int) (y5 : Int) (op key fr dst num : Int) (vp : Value) (acks : List Int) (body : ByteArray) (now : Int) (m1 : x1.size ≤ 9223372036854775807) (m2 : x2.size ≤ 9223372036854775807) (m4 : RoomInt r4) (nm1 : y1.size ≤ 9223372036854775807) (nm2 : y2.size ≤ 9223372036854775807) (nm4 : RoomInt s4) (pm1 : acks.length ≤ 9223372036854775807) (pm2 : body.size ≤ 9223372036854775807) (r5 s5 : List Int) (t : ByteArray) (ok : Bool) (lt4 : r5.length ≤ 10000000) (lo4 : s5.length ≤ 10000000)
    (hI : FitsSlot x1 x2 r4 → FitsSlot y1 y2 s4 → acks.length ≤ 1048576 → body.size ≤ 1048576 → ∀ (v4 u4 vp : Value) (X : World), L X → layIntS.rd X [v4] r4 → layIntS.rd X [u4] s4 → layIntS.rd X [vp] acks → Calls Tryz.prog 9 #[.agg #[.int .i64 x0, .string x1, .string x2, .int .i64 x3, v4, .int .i64 x5, .int .i64 y0, .string y1, .string y2, .int .i64 y3, u4, .int .i64 y5], .agg #[.int .i64 op, .int .i64 key, .int .i64 fr, .int .i64 dst, .int .i64 num, vp, .string body], .int .i64 now] X (OpenEnd x0 x1 x2 x3 x5 y0 y1 y2 y3 y5 r5 s5 t ok X))
    (hS : FitsSlot x1 x2 r4 → FitsSlot y1 y2 s4 → acks.length ≤ 1048576 → body.size ≤ 1048576 → ∀ (v4 u4 vp : Value) (X : World), layIntS.rd X [v4] r4 → layIntS.rd X [u4] s4 → layIntS.rd X [vp] acks → Calls Tryz.prog 6 #[.agg #[.int .i64 x0, .string x1, .string x2, .int .i64 x3, v4, .int .i64 x5, .int .i64 y0, .string y1, .string y2, .int .i64 y3, u4, .int .i64 y5], .agg #[.int .i64 op, .int .i64 key, .int .i64 fr, .int .i64 dst, .int .i64 num, vp, .string body], .int .i64 now] X (OpenEnd x0 x1 x2 x3 x5 y0 y1 y2 y3 y5 r5 s5 t ok X))
    (w : World) (ht : ∀ X, Below w.heap.size w X → L X) (ha : layIntS.rd w [v4] r4) (hb : layIntS.rd w [u4] s4) (hp : layIntS.rd w [vp] acks) :
    Calls Tryz.prog 3 #[.agg #[.int .i64 x0, .string x1, .string x2, .int .i64 x3, v4, .int .i64 x5, .int .i64 y0, .string y1, .string y2, .int .i64 y3, u4, .int .i64 y5], .agg #[.int .i64 op, .int .i64 key, .int .i64 fr, .int .i64 dst, .int .i64 num, vp, .string body], .int .i64 now] w fun e w' => e = .returned (.bool true) ∧ Below w.heap.size w w' := by
  obtain ⟨a4, p4, rfl⟩ := rows_form ha
  obtain ⟨b4, q4, rfl⟩ := rows_form hb
  obtain ⟨pka, pkc, rfl⟩ := rows_form hp
  have HA := Lib.hid ha
  have HB := Lib.hid hb
  have HP := Lib.hid hp
  have HI0 := Lib.hid hI
  have HS0 := Lib.hid hS
  have LL := Lib.hid ht
  have hbb : (ok != ok) = false := by cases ok <;> rfl
  have htt : (t.toList != t.toList) = false := by simp
  have A0 := Lib.hid ((VarA.new w LSsT #[.int .i64 x0, .string x1, .string x2, .int .i64 x3, .slice a4 r4.length p4, .int .i64 x5, .int .i64 y0, .string y1, .string y2, .int .i64 y3, .slice b4 s4.length q4, .int .i64 y5]).alloc (.cells #[.int .i64 op, .int .i64 key, .int .i64 fr, .int .i64 dst, .int .i64 num, .slice pka acks.length pkc, .string body] LPkT))
  have e1 : (w.alloc (.cells #[.int .i64 x0, .string x1, .string x2, .int .i64 x3, .slice a4 r4.length p4, .int .i64 x5, .int .i64 y0, .string y1, .string y2, .int .i64 y3, .slice b4 s4.length q4, .int .i64 y5] LSsT)).heap.size = w.heap.size + 1 := by simp
  have P0 := Lib.hid (VarA.new (w.alloc (.cells #[.int .i64 x0, .string x1, .string x2, .int .i64 x3, .slice a4 r4.length p4, .int .i64 x5, .int .i64 y0, .string y1, .string y2, .int .i64 y3, .slice b4 s4.length q4, .int .i64 y5] LSsT)) LPkT #[.int .i64 op, .int .i64 key, .int .i64 fr, .int .i64 dst, .int .i64 num, .slice pka acks.length pkc, .string body])
  rw [e1] at P0
  have B0 := Lib.hid (((Below.refl w.heap.size w).alloc (Nat.le_refl _) (.cells #[.int .i64 x0, .string x1, .string x2, .int .i64 x3, .slice a4 r4.length p4, .int .i64 x5, .int .i64 y0, .string y1, .string y2, .int .i64 y3, .slice b4 s4.length q4, .int .i64 y5] LSsT)).alloc (by rw [e1]; omega) (.cells #[.int .i64 op, .int .i64 key, .int .i64 fr, .int .i64 dst, .int .i64 num, .slice pka acks.length pkc, .string body] LPkT))
  have hw0 : w.heap.size + 1 < ((w.alloc (.cells #[.int .i64 x0, .string x1, .string x2, .int .i64 x3, .slice a4 r4.length p4, .int .i64 x5, .int .i64 y0, .string y1, .string y2, .int .i64 y3, .slice b4 s4.length q4, .int .i64 y5] LSsT)).alloc (.cells #[.int .i64 op, .int .i64 key, .int .i64 fr, .int .i64 dst, .int .i64 num, .slice pka acks.length pkc, .string body] LPkT)).heap.size := by simp
  clear hI hS ha hb hp ht e1
  go_enter Tryz.func3, Tryz.ntmps3
  go_upto_region 1 with fail
  generalize (w.alloc (.cells #[.int .i64 x0, .string x1, .string x2, .int .i64 x3, .slice a4 r4.length p4, .int .i64 x5, .int .i64 y0, .string y1, .string y2, .int .i64 y3, .slice b4 s4.length q4, .int .i64 y5] LSsT)).alloc (.cells #[.int .i64 op, .int .i64 key, .int .i64 fr, .int .i64 dst, .int .i64 num, .slice pka acks.length pkc, .string body] LPkT) = Y0 at *
  have c0 : Y0.cell? ⟨w.heap.size, 0, none⟩ = some (.int .i64 x0) := A0.out.cell 0
  have c1 : Y0.cell? ⟨w.heap.size, 1, none⟩ = some (.string x1) := A0.out.cell 1
  have c2 : Y0.cell? ⟨w.heap.size, 2, none⟩ = some (.string x2) := A0.out.cell 2
  have c3 : Y0.cell? ⟨w.heap.size, 3, none⟩ = some (.int .i64 x3) := A0.out.cell 3
  have c4 : Y0.cell? ⟨w.heap.size, 4, none⟩ = some (.slice a4 r4.length p4) := A0.out.cell 4
  have c5 : Y0.cell? ⟨w.heap.size, 5, none⟩ = some (.int .i64 x5) := A0.out.cell 5
  have c6 : Y0.cell? ⟨w.heap.size, 6, none⟩ = some (.int .i64 y0) := A0.out.cell 6
  have c7 : Y0.cell? ⟨w.heap.size, 7, none⟩ = some (.string y1) := A0.out.cell 7
  have c8 : Y0.cell? ⟨w.heap.size, 8, none⟩ = some (.string y2) := A0.out.cell 8
  have c9 : Y0.cell? ⟨w.heap.size, 9, none⟩ = some (.int .i64 y3) := A0.out.cell 9
  have c10 : Y0.cell? ⟨w.heap.size, 10, none⟩ = some (.slice b4 s4.length q4) := A0.out.cell 10
  have c11 : Y0.cell? ⟨w.heap.size, 11, none⟩ = some (.int .i64 y5) := A0.out.cell 11
  have KZ := Lib.hid (szSlots_any x0 x1 x2 x3 _ r4 x5 y0 y1 y2 y3 _ s4 y5 1048576 (by omega) (by omega) m1 m2 m4 nm1 nm2 nm4 Y0 (layIntS.below HA.out B0.out) (layIntS.below HB.out B0.out))
  go_wp2_with fail
  refine (KZ.out).mono ?_
  rintro e Y1 ⟨⟨z, rfl, hz⟩, hb⟩
  have zY1 : Y0.heap.size ≤ Y1.heap.size := hb.size
  replace A0 := Lib.hid (A0.out.next hb)
  replace P0 := Lib.hid (P0.out.next hb)
  replace B0 := Lib.hid (B0.out.trans (hb.mono B0.out.size))
  clear hb KZ c0 c1 c2 c3 c4 c5 c6 c7 c8 c9 c10 c11
  rcases hz with rfl | ⟨hz0, hz1, hfit⟩
  · go_wp2_with fail
    go_ret
    exact ⟨rfl, B0.out⟩
  have hz2 : ¬ (z < 0) := by omega
  have KZ := Lib.hid (szPacket_left op key fr dst num pka acks.length pkc body pm1 pm2 z hz0 hz1 Y1)
  have d0 : Y1.cell? ⟨w.heap.size + 1, 0, none⟩ = some (.int .i64 op) := P0.out.cell 0
  have d1 : Y1.cell? ⟨w.heap.size + 1, 1, none⟩ = some (.int .i64 key) := P0.out.cell 1
  have d2 : Y1.cell? ⟨w.heap.size + 1, 2, none⟩ = some (.int .i64 fr) := P0.out.cell 2
  have d3 : Y1.cell? ⟨w.heap.size + 1, 3, none⟩ = some (.int .i64 dst) := P0.out.cell 3
  have d4 : Y1.cell? ⟨w.heap.size + 1, 4, none⟩ = some (.int .i64 num) := P0.out.cell 4
  have d5 : Y1.cell? ⟨w.heap.size + 1, 5, none⟩ = some (.slice pka acks.length pkc) := P0.out.cell 5
  have d6 : Y1.cell? ⟨w.heap.size + 1, 6, none⟩ = some (.string body) := P0.out.cell 6
  go_wp2_with fail
  refine (KZ.out).mono ?_
  rintro e Y2 ⟨⟨z', rfl, hz'⟩, hb⟩
  have zY2 : Y1.heap.size ≤ Y2.heap.size := hb.size
  replace A0 := Lib.hid (A0.out.next hb)
  replace P0 := Lib.hid (P0.out.next hb)
  replace B0 := Lib.hid (B0.out.trans (hb.mono B0.out.size))
  clear hb KZ d0 d1 d2 d3 d4 d5 d6 hz0 hz1 hz2
  rcases hz' with rfl | ⟨hz0, hf1, hf2⟩
  · go_wp2_with fail
    go_ret
    exact ⟨rfl, B0.out⟩
  have hz2 : ¬ (z' < 0) := by omega
  have HF1 := Lib.hid hfit.1
  have HF2 := Lib.hid hfit.2
  have HI := Lib.hid (HI0.out hfit.1 hfit.2 hf1 hf2)
  have HS := Lib.hid (HS0.out hfit.1 hfit.2 hf1 hf2)
  have TT : Hid (∀ X, Below w.heap.size w X → Calls Tryz.prog 7 #[.agg #[.int .i64 x0, .string x1, .string x2, .int .i64 x3, .slice a4 r4.length p4, .int .i64 x5, .int .i64 y0, .string y1, .string y2, .int .i64 y3, .slice b4 s4.length q4, .int .i64 y5]] X (SlotsMade x0 x1 x2 x3 r4 x5 y0 y1 y2 y3 s4 y5 X)) := Lib.hid (fun X hX => toSlots_any x0 x1 x2 x3 _ r4 x5 y0 y1 y2 y3 _ s4 y5 X (layIntS.below HA.out hX) (layIntS.below HB.out hX) HF1.out.2.2 HF2.out.2.2)
  have TP : Hid (∀ X, Below w.heap.size w X → Calls Tryz.prog 8 #[.agg #[.int .i64 op, .int .i64 key, .int .i64 fr, .int .i64 dst, .int .i64 num, .slice pka acks.length pkc, .string body]] X (PkMade op key fr dst num acks body X)) := Lib.hid (fun X hX => toPacket_any op key fr dst num _ acks body hf1 X (layIntS.below HP.out hX))
  have hr4 : r4.length ≤ 10000000 := by have := HF1.out.2.2; unfold FitsInt at this; omega
  have hs4 : s4.length ≤ 10000000 := by have := HF2.out.2.2; unfold FitsInt at this; omega
  clear hfit hz0 HI0 HS0
  have qv : ∀ X Y, (Hid (VarA w.heap.size LSsT #[.int .i64 x0, .string x1, .string x2, .int .i64 x3, .slice a4 r4.length p4, .int .i64 x5, .int .i64 y0, .string y1, .string y2, .int .i64 y3, .slice b4 s4.length q4, .int .i64 y5] X ∧ VarA (w.heap.size + 1) LPkT #[.int .i64 op, .int .i64 key, .int .i64 fr, .int .i64 dst, .int .i64 num, .slice pka acks.length pkc, .string body] X ∧ Below w.heap.size w X ∧ Below Y2.heap.size Y2 X)) → Below X.heap.size X Y → (Hid (VarA w.heap.size LSsT #[.int .i64 x0, .string x1, .string x2, .int .i64 x3, .slice a4 r4.length p4, .int .i64 x5, .int .i64 y0, .string y1, .string y2, .int .i64 y3, .slice b4 s4.length q4, .int .i64 y5] Y ∧ VarA (w.heap.size + 1) LPkT #[.int .i64 op, .int .i64 key, .int .i64 fr, .int .i64 dst, .int .i64 num, .slice pka acks.length pkc, .string body] Y ∧ Below w.heap.size w Y ∧ Below Y2.heap.size Y2 Y)) := fun X Y h hb => Lib.hid ⟨h.out.1.next hb, h.out.2.1.next hb, h.out.2.2.1.trans (hb.mono h.out.2.2.1.size), h.out.2.2.2.trans (hb.mono h.out.2.2.2.size)⟩
  have hdr : Below Y2.heap.size Y2 Y2.drew := (Below.refl _ _).drew
  have E0 : Hid (VarA w.heap.size LSsT #[.int .i64 x0, .string x1, .string x2, .int .i64 x3, .slice a4 r4.length p4, .int .i64 x5, .int .i64 y0, .string y1, .string y2, .int .i64 y3, .slice b4 s4.length q4, .int .i64 y5] Y2.drew ∧ VarA (w.heap.size + 1) LPkT #[.int .i64 op, .int .i64 key, .int .i64 fr, .int .i64 dst, .int .i64 num, .slice pka acks.length pkc, .string body] Y2.drew ∧ Below w.heap.size w Y2.drew ∧ Below Y2.heap.size Y2 Y2.drew) := qv _ _ (Lib.hid ⟨A0.out, P0.out, B0.out, Below.refl _ _⟩) hdr
  clear hdr A0 P0 B0 
  have putU_ : ∀ (X : World) (G : Nat) (u0 u1 u2 u3 u4 u5 u6 u7 u8 u9 u10 u11 : Value), Y2.heap.size ≤ G → (Hid (VarA w.heap.size LSsT #[.int .i64 x0, .string x1, .string x2, .int .i64 x3, .slice a4 r4.length p4, .int .i64 x5, .int .i64 y0, .string y1, .string y2, .int .i64 y3, .slice b4 s4.length q4, .int .i64 y5] X ∧ VarA (w.heap.size + 1) LPkT #[.int .i64 op, .int .i64 key, .int .i64 fr, .int .i64 dst, .int .i64 num, .slice pka acks.length pkc, .string body] X ∧ Below w.heap.size w X ∧ Below Y2.heap.size Y2 X)) → (Hid (VarA w.heap.size LSsT #[.int .i64 x0, .string x1, .string x2, .int .i64 x3, .slice a4 r4.length p4, .int .i64 x5, .int .i64 y0, .string y1, .string y2, .int .i64 y3, .slice b4 s4.length q4, .int .i64 y5] ((((((((((((X.setCell ⟨G, 0, none⟩ (u0)).setCell ⟨G, 1, none⟩ (u1)).setCell ⟨G, 2, none⟩ (u2)).setCell ⟨G, 3, none⟩ (u3)).setCell ⟨G, 4, none⟩ (u4)).setCell ⟨G, 5, none⟩ (u5)).setCell ⟨G, 6, none⟩ (u6)).setCell ⟨G, 7, none⟩ (u7)).setCell ⟨G, 8, none⟩ (u8)).setCell ⟨G, 9, none⟩ (u9)).setCell ⟨G, 10, none⟩ (u10)).setCell ⟨G, 11, none⟩ (u11)) ∧ VarA (w.heap.size + 1) LPkT #[.int .i64 op, .int .i64 key, .int .i64 fr, .int .i64 dst, .int .i64 num, .slice pka acks.length pkc, .string body] ((((((((((((X.setCell ⟨G, 0, none⟩ (u0)).setCell ⟨G, 1, none⟩ (u1)).setCell ⟨G, 2, none⟩ (u2)).setCell ⟨G, 3, none⟩ (u3)).setCell ⟨G, 4, none⟩ (u4)).setCell ⟨G, 5, none⟩ (u5)).setCell ⟨G, 6, none⟩ (u6)).setCell ⟨G, 7, none⟩ (u7)).setCell ⟨G, 8, none⟩ (u8)).setCell ⟨G, 9, none⟩ (u9)).setCell ⟨G, 10, none⟩ (u10)).setCell ⟨G, 11, none⟩ (u11)) ∧ Below w.heap.size w ((((((((((((X.setCell ⟨G, 0, none⟩ (u0)).setCell ⟨G, 1, none⟩ (u1)).setCell ⟨G, 2, none⟩ (u2)).setCell ⟨G, 3, none⟩ (u3)).setCell ⟨G, 4, none⟩ (u4)).setCell ⟨G, 5, none⟩ (u5)).setCell ⟨G, 6, none⟩ (u6)).setCell ⟨G, 7, none⟩ (u7)).setCell ⟨G, 8, none⟩ (u8)).setCell ⟨G, 9, none⟩ (u9)).setCell ⟨G, 10, none⟩ (u10)).setCell ⟨G, 11, none⟩ (u11)) ∧ Below Y2.heap.size Y2 ((((((((((((X.setCell ⟨G, 0, none⟩ (u0)).setCell ⟨G, 1, none⟩ (u1)).setCell ⟨G, 2, none⟩ (u2)).setCell ⟨G, 3, none⟩ (u3)).setCell ⟨G, 4, none⟩ (u4)).setCell ⟨G, 5, none⟩ (u5)).setCell ⟨G, 6, none⟩ (u6)).setCell ⟨G, 7, none⟩ (u7)).setCell ⟨G, 8, none⟩ (u8)).setCell ⟨G, 9, none⟩ (u9)).setCell ⟨G, 10, none⟩ (u10)).setCell ⟨G, 11, none⟩ (u11)))) := fun X G u0 u1 u2 u3 u4 u5 u6 u7 u8 u9 u10 u11 hG h => by
    have ho : Only G X ((((((((((((X.setCell ⟨G, 0, none⟩ (u0)).setCell ⟨G, 1, none⟩ (u1)).setCell ⟨G, 2, none⟩ (u2)).setCell ⟨G, 3, none⟩ (u3)).setCell ⟨G, 4, none⟩ (u4)).setCell ⟨G, 5, none⟩ (u5)).setCell ⟨G, 6, none⟩ (u6)).setCell ⟨G, 7, none⟩ (u7)).setCell ⟨G, 8, none⟩ (u8)).setCell ⟨G, 9, none⟩ (u9)).setCell ⟨G, 10, none⟩ (u10)).setCell ⟨G, 11, none⟩ (u11)) := (putMain_only X G _ _ _ _ _ _).trans (putLame_only _ G _ _ _ _ _ _)
    have hsz := h.out.2.2.2.size
    have hci : ChgIn G (G + 1) X ((((((((((((X.setCell ⟨G, 0, none⟩ (u0)).setCell ⟨G, 1, none⟩ (u1)).setCell ⟨G, 2, none⟩ (u2)).setCell ⟨G, 3, none⟩ (u3)).setCell ⟨G, 4, none⟩ (u4)).setCell ⟨G, 5, none⟩ (u5)).setCell ⟨G, 6, none⟩ (u6)).setCell ⟨G, 7, none⟩ (u7)).setCell ⟨G, 8, none⟩ (u8)).setCell ⟨G, 9, none⟩ (u9)).setCell ⟨G, 10, none⟩ (u10)).setCell ⟨G, 11, none⟩ (u11)) := ⟨[G], fun a ha => (by rw [List.mem_singleton] at ha; omega), only_chg ho⟩
    exact Lib.hid ⟨h.out.1.only ho (by have := h.out.1.lt; omega), h.out.2.1.only ho (by have := h.out.2.1.lt; omega), h.out.2.2.1.trans (ho.below (by have := h.out.2.2.1.size; omega) h.out.2.2.1.size), h.out.2.2.2.trans (ho.below hG h.out.2.2.2.size)⟩
  go_wp2_with fail
  go_cut [8, 9, 10] (fun z y x wx => ∃ (g : Nat) (ua : Option Addr) (uk : Nat) (ua' : Option Addr) (uk' : Nat), z = .pointer (some ⟨g, 0, none⟩) ∧ y = .string t ∧ x = .bool ok ∧ Hid (SR Y2.heap.size wx.heap.size g #[.int .i64 x0, .string x1, .string x2, .int .i64 x3, .slice ua r5.length uk, .int .i64 x5, .int .i64 y0, .string y1, .string y2, .int .i64 y3, .slice ua' s5.length uk', .int .i64 y5] (.slice ua r5.length uk) (.slice ua' s5.length uk') r5 s5 wx) ∧ (Hid (VarA w.heap.size LSsT #[.int .i64 x0, .string x1, .string x2, .int .i64 x3, .slice a4 r4.length p4, .int .i64 x5, .int .i64 y0, .string y1, .string y2, .int .i64 y3, .slice b4 s4.length q4, .int .i64 y5] wx ∧ VarA (w.heap.size + 1) LPkT #[.int .i64 op, .int .i64 key, .int .i64 fr, .int .i64 dst, .int .i64 num, .slice pka acks.length pkc, .string body] wx ∧ Below w.heap.size w wx ∧ Below Y2.heap.size Y2 wx)))
  case first =>
    refine wp_region_held_drew (S := fun X => Hid (VarA w.heap.size LSsT #[.int .i64 x0, .string x1, .string x2, .int .i64 x3, .slice a4 r4.length p4, .int .i64 x5, .int .i64 y0, .string y1, .string y2, .int .i64 y3, .slice b4 s4.length q4, .int .i64 y5] X ∧ VarA (w.heap.size + 1) LPkT #[.int .i64 op, .int .i64 key, .int .i64 fr, .int .i64 dst, .int .i64 num, .slice pka acks.length pkc, .string body] X ∧ Below w.heap.size w X ∧ Below Y2.heap.size Y2 X)) (by kernel_rfl) E0 (fun hHeld => ?_)
    clear E0
    generalize Y2.drew = X0 at *
    refine wpAnyH_take (i := 0) (v := ?_) rfl (by kernel_rfl) (by kernel_rfl) (by kernel_rfl) (fun _ _ _ h => h) (Or.inl ⟨by kernel_rfl, ?_⟩) hHeld ?_
    rotate_left
    · intro X hX
      have yy0 : X.cell? ⟨w.heap.size, 0, none⟩ = some (.int .i64 x0) := hX.out.1.cell 0
      have yy1 : X.cell? ⟨w.heap.size, 1, none⟩ = some (.string x1) := hX.out.1.cell 1
      have yy2 : X.cell? ⟨w.heap.size, 2, none⟩ = some (.string x2) := hX.out.1.cell 2
      have yy3 : X.cell? ⟨w.heap.size, 3, none⟩ = some (.int .i64 x3) := hX.out.1.cell 3
      have yy4 : X.cell? ⟨w.heap.size, 4, none⟩ = some (.slice a4 r4.length p4) := hX.out.1.cell 4
      have yy5 : X.cell? ⟨w.heap.size, 5, none⟩ = some (.int .i64 x5) := hX.out.1.cell 5
      have yy6 : X.cell? ⟨w.heap.size, 6, none⟩ = some (.int .i64 y0) := hX.out.1.cell 6
      have yy7 : X.cell? ⟨w.heap.size, 7, none⟩ = some (.string y1) := hX.out.1.cell 7
      have yy8 : X.cell? ⟨w.heap.size, 8, none⟩ = some (.string y2) := hX.out.1.cell 8
      have yy9 : X.cell? ⟨w.heap.size, 9, none⟩ = some (.int .i64 y3) := hX.out.1.cell 9
      have yy10 : X.cell? ⟨w.heap.size, 10, none⟩ = some (.slice b4 s4.length q4) := hX.out.1.cell 10
      have yy11 : X.cell? ⟨w.heap.size, 11, none⟩ = some (.int .i64 y5) := hX.out.1.cell 11
      first | (go_simp; done) | (go_simp; with_reducible rfl)
    try simp only [Act.put, List.getElem_toArray, List.getElem_cons_zero, List.setIfInBounds_toArray, List.set_cons_zero, List.set_cons_succ]
    refine wpAnyH_take (i := 2) (v := ?_) rfl (by kernel_rfl) (by kernel_rfl) (by kernel_rfl) (fun _ _ _ h => h) (Or.inl ⟨by kernel_rfl, ?_⟩) hHeld ?_
    rotate_left
    · intro X hX
      have yy0 : X.cell? ⟨w.heap.size + 1, 0, none⟩ = some (.int .i64 op) := hX.out.2.1.cell 0
      have yy1 : X.cell? ⟨w.heap.size + 1, 1, none⟩ = some (.int .i64 key) := hX.out.2.1.cell 1
      have yy2 : X.cell? ⟨w.heap.size + 1, 2, none⟩ = some (.int .i64 fr) := hX.out.2.1.cell 2
      have yy3 : X.cell? ⟨w.heap.size + 1, 3, none⟩ = some (.int .i64 dst) := hX.out.2.1.cell 3
      have yy4 : X.cell? ⟨w.heap.size + 1, 4, none⟩ = some (.int .i64 num) := hX.out.2.1.cell 4
      have yy5 : X.cell? ⟨w.heap.size + 1, 5, none⟩ = some (.slice pka acks.length pkc) := hX.out.2.1.cell 5
      have yy6 : X.cell? ⟨w.heap.size + 1, 6, none⟩ = some (.string body) := hX.out.2.1.cell 6
      first | (go_simp; done) | (go_simp; with_reducible rfl)
    try simp only [Act.put, List.getElem_toArray, List.getElem_cons_succ, List.getElem_cons_zero, List.setIfInBounds_toArray, List.set_cons_zero, List.set_cons_succ]
    refine wpAnyH_take (i := 4) (v := ?_) rfl (by kernel_rfl) (by kernel_rfl) (by kernel_rfl) (fun _ _ _ h => h) (Or.inl ⟨by kernel_rfl, ?_⟩) hHeld ?_
    rotate_left
    · intro X hX
      first | (go_simp; done) | (go_simp; with_reducible rfl)
    try simp only [Act.put, List.getElem_toArray, List.getElem_cons_succ, List.getElem_cons_zero, List.setIfInBounds_toArray, List.set_cons_zero, List.set_cons_succ]
    refine wpAnyH_ready (rs := [1, 10]) (by kernel_rfl) (by simp) ?_
    refine AllReadyH.cons rfl (fun K hK => ?_) (AllReadyH.cons rfl (fun K hK => ?_) AllReadyH.nil)
    · go_simp
      go_wp2_with (go_at_call 7; refine (TT.out X0 hHeld.out.2.2.1).mono ?_; rintro e X1 ⟨v5, u5, f5, g5, rfl, hd, o1, o2, hb0⟩; obtain ⟨ta, tk, rfl⟩ := (show ∃ a c, v5 = .slice a r4.length c from rows_form (layIntS.read o1)); obtain ⟨ta', tk', rfl⟩ := (show ∃ a c, u5 = .slice a s4.length c from rows_form (layIntS.read o2)); have hS := qv _ _ hHeld hb0; have R1 := Lib.hid (layIntS.read o1); have R2 := Lib.hid (layIntS.read o2); have hb := Lib.hid hb0; clear hb0 o1 o2 hd f5 g5)
      refine hK.out _ _ hS (fun hHeld => ?_)
      clear hK K hS
      clear hb
      try simp only [Act.put, List.getElem_toArray, List.getElem_cons_succ, List.getElem_cons_zero, List.setIfInBounds_toArray, List.set_cons_zero, List.set_cons_succ]
      refine wpAnyH_ready (rs := [3, 10]) (by kernel_rfl) (by simp) ?_
      refine AllReadyH.cons rfl (fun K hK => ?_) (AllReadyH.cons rfl (fun K hK => ?_) AllReadyH.nil)
      · go_simp
        go_wp2_with (go_at_call 8; refine (TP.out X1 hHeld.out.2.2.1).mono ?_; rintro e X2 ⟨ma, mk, f5, rfl, hd, o1, hb0⟩; have hS := qv _ _ hHeld hb0; have R3 := Lib.hid (layIntS.read o1); have hb := Lib.hid hb0; clear hb0 o1 hd f5)
        refine hK.out _ _ hS (fun hHeld => ?_)
        clear hK K hS
        replace R1 := Lib.hid (layIntS.below R1.out hb.out)
        replace R2 := Lib.hid (layIntS.below R2.out hb.out)
        clear hb
        try simp only [Act.put, List.getElem_toArray, List.getElem_cons_succ, List.getElem_cons_zero, List.setIfInBounds_toArray, List.set_cons_zero, List.set_cons_succ]
        refine wpAnyH_ready (rs := [5, 10]) (by kernel_rfl) (by simp) ?_
        refine AllReadyH.cons rfl (fun K hK => ?_) (AllReadyH.cons rfl (fun K hK => ?_) AllReadyH.nil)
        · go_simp
          go_wp2_with (go_at_call 6; refine (HS.out _ _ _ X2 R1.out R2.out R3.out).mono ?_; rintro e X3 ⟨v5, u5, f5, g5, rfl, hd, o1, o2, hb0⟩; obtain ⟨ua, uk, rfl⟩ := (show ∃ a c, v5 = .slice a r5.length c from rows_form (layIntS.read o1)); obtain ⟨ua', uk', rfl⟩ := (show ∃ a c, u5 = .slice a s5.length c from rows_form (layIntS.read o2)); have hlz : Y2.heap.size ≤ X2.heap.size := hHeld.out.2.2.2.size; have hS := qv _ _ hHeld hb0; have O1 := Lib.hid (layIntS.lower o1 hlz); have O2 := Lib.hid (layIntS.lower o2 hlz); have hb := Lib.hid hb0; clear hb0 o1 o2 hd hlz R1 R2 R3)
          refine hK.out _ _ hS (fun hHeld => ?_)
          clear hK K hS
          clear hb
          try simp only [Act.put, List.getElem_toArray, List.getElem_cons_succ, List.getElem_cons_zero, List.setIfInBounds_toArray, List.set_cons_zero, List.set_cons_succ]
          refine wpAnyH_take (i := 6) (v := ?_) rfl (by kernel_rfl) (by kernel_rfl) (by kernel_rfl) (fun _ _ _ h => h) (Or.inl ⟨by kernel_rfl, ?_⟩) hHeld ?_
          rotate_left
          · intro X hX
            first | (go_simp; done) | (go_simp; with_reducible rfl)
          try simp only [Act.put, List.getElem_toArray, List.getElem_cons_succ, List.getElem_cons_zero, List.setIfInBounds_toArray, List.set_cons_zero, List.set_cons_succ]
          refine wpAnyH_take (i := 7) (v := ?_) rfl (by kernel_rfl) (by kernel_rfl) (by kernel_rfl) (fun _ _ _ h => h) (Or.inl ⟨by kernel_rfl, ?_⟩) hHeld ?_
          rotate_left
          · intro X hX
            first | (go_simp; done) | (go_simp; with_reducible rfl)
          try simp only [Act.put, List.getElem_toArray, List.getElem_cons_succ, List.getElem_cons_zero, List.setIfInBounds_toArray, List.set_cons_zero, List.set_cons_succ]
          refine wpAnyH_take (i := 8) (v := ?_) rfl (by kernel_rfl) (by kernel_rfl) (by kernel_rfl) (fun _ _ _ h => h) (Or.inl ⟨by kernel_rfl, ?_⟩) hHeld ?_
          rotate_left
          · intro X hX
            first | (go_simp; done) | (go_simp; with_reducible rfl)
          try simp only [Act.put, List.getElem_toArray, List.getElem_cons_succ, List.getElem_cons_zero, List.setIfInBounds_toArray, List.set_cons_zero, List.set_cons_succ]
          refine wpAnyH_take (i := 9) (v := ?_) rfl (by kernel_rfl) (by kernel_rfl) (by kernel_rfl) (fun _ _ _ h => h) (Or.inl ⟨by kernel_rfl, ?_⟩) hHeld ?_
          rotate_left
          · intro X hX
            first | (go_simp; done) | (go_simp; with_reducible rfl)
          try simp only [Act.put, List.getElem_toArray, List.getElem_cons_succ, List.getElem_cons_zero, List.setIfInBounds_toArray, List.set_cons_zero, List.set_cons_succ]
          refine wpAnyH_ready (rs := [10]) (by kernel_rfl) (by simp) ?_
          refine AllReadyH.cons rfl (fun K hK => ?_) AllReadyH.nil
          go_simp
          have hal : Below X3.heap.size X3 (X3.alloc (.cells #[.int .i64 0, .string ⟨#[]⟩, .string ⟨#[]⟩, .int .i64 0, .slice none 0 0, .int .i64 0, .int .i64 0, .string ⟨#[]⟩, .string ⟨#[]⟩, .int .i64 0, .slice none 0 0, .int .i64 0] SlotsT)) := (Below.refl _ _).alloc (Nat.le_refl _) _
          have hlo : Y2.heap.size ≤ X3.heap.size := hHeld.out.2.2.2.size
          refine hK.out _ _ (qv _ _ hHeld hal) (fun hHeld => ?_)
          clear hK K
          have hb := Lib.hid hal
          replace O1 := Lib.hid (layIntS.next O1.out hb.out)
          replace O2 := Lib.hid (layIntS.next O2.out hb.out)
          have rr := Lib.hid (VarA.new X3 SlotsT #[.int .i64 0, .string ⟨#[]⟩, .string ⟨#[]⟩, .int .i64 0, .slice none 0 0, .int .i64 0, .int .i64 0, .string ⟨#[]⟩, .string ⟨#[]⟩, .int .i64 0, .slice none 0 0, .int .i64 0])
          clear hal hb
          generalize X3.alloc (.cells #[.int .i64 0, .string ⟨#[]⟩, .string ⟨#[]⟩, .int .i64 0, .slice none 0 0, .int .i64 0, .int .i64 0, .string ⟨#[]⟩, .string ⟨#[]⟩, .int .i64 0, .slice none 0 0, .int .i64 0] SlotsT) = X4 at *
          generalize X3.heap.size = G at *
          try simp only [Act.put, List.getElem_toArray, List.getElem_cons_succ, List.getElem_cons_zero, List.setIfInBounds_toArray, List.set_cons_zero, List.set_cons_succ]
          refine wpAnyH_ready (rs := [11]) (by kernel_rfl) (by simp) ?_
          refine AllReadyH.cons rfl (fun K hK => ?_) AllReadyH.nil
          have r0_ : X4.cell? ⟨G, 0, none⟩ = some (.int .i64 0) := rr.out.cell 0
          have r1_ : X4.cell? ⟨G, 1, none⟩ = some (.string ⟨#[]⟩) := rr.out.cell 1
          have r2_ : X4.cell? ⟨G, 2, none⟩ = some (.string ⟨#[]⟩) := rr.out.cell 2
          have r3_ : X4.cell? ⟨G, 3, none⟩ = some (.int .i64 0) := rr.out.cell 3
          have r4_ : X4.cell? ⟨G, 4, none⟩ = some (.slice none 0 0) := rr.out.cell 4
          have r5_ : X4.cell? ⟨G, 5, none⟩ = some (.int .i64 0) := rr.out.cell 5
          have r6_ : X4.cell? ⟨G, 6, none⟩ = some (.int .i64 0) := rr.out.cell 6
          have r7_ : X4.cell? ⟨G, 7, none⟩ = some (.string ⟨#[]⟩) := rr.out.cell 7
          have r8_ : X4.cell? ⟨G, 8, none⟩ = some (.string ⟨#[]⟩) := rr.out.cell 8
          have r9_ : X4.cell? ⟨G, 9, none⟩ = some (.int .i64 0) := rr.out.cell 9
          have r10_ : X4.cell? ⟨G, 10, none⟩ = some (.slice none 0 0) := rr.out.cell 10
          have r11_ : X4.cell? ⟨G, 11, none⟩ = some (.int .i64 0) := rr.out.cell 11
          have g0_ := rr.out.free 0
          have g1_ := rr.out.free 1
          have g2_ := rr.out.free 2
          have g3_ := rr.out.free 3
          have g4_ := rr.out.free 4
          have g5_ := rr.out.free 5
          have g6_ := rr.out.free 6
          have g7_ := rr.out.free 7
          have g8_ := rr.out.free 8
          have g9_ := rr.out.free 9
          have g10_ := rr.out.free 10
          have g11_ := rr.out.free 11
          go_simp
          clear r0_ g0_ r1_ g1_ r2_ g2_ r3_ g3_ r4_ g4_ r5_ g5_ r6_ g6_ r7_ g7_ r8_ g8_ r9_ g9_ r10_ g10_ r11_ g11_
          have hS := putU_ X4 G (.int .i64 x0) (.string x1) (.string x2) (.int .i64 x3) (.slice ua r5.length uk) (.int .i64 x5) (.int .i64 y0) (.string y1) (.string y2) (.int .i64 y3) (.slice ua' s5.length uk') (.int .i64 y5) hlo hHeld
          refine hK.out _ _ hS (fun hHeld => ?_)
          have ho : Only G X4 ((((((((((((X4.setCell ⟨G, 0, none⟩ (.int .i64 x0)).setCell ⟨G, 1, none⟩ (.string x1)).setCell ⟨G, 2, none⟩ (.string x2)).setCell ⟨G, 3, none⟩ (.int .i64 x3)).setCell ⟨G, 4, none⟩ (.slice ua r5.length uk)).setCell ⟨G, 5, none⟩ (.int .i64 x5)).setCell ⟨G, 6, none⟩ (.int .i64 y0)).setCell ⟨G, 7, none⟩ (.string y1)).setCell ⟨G, 8, none⟩ (.string y2)).setCell ⟨G, 9, none⟩ (.int .i64 y3)).setCell ⟨G, 10, none⟩ (.slice ua' s5.length uk')).setCell ⟨G, 11, none⟩ (.int .i64 y5)) := (putMain_only X4 G _ _ _ _ _ _).trans (putLame_only _ G _ _ _ _ _ _)
          replace O1 := Lib.hid (own_only O1.out ho (row_off flatIntK O1.out rr.out (by decide)))
          replace O2 := Lib.hid (own_only O2.out ho (row_off flatIntK O2.out rr.out (by decide)))
          replace rr := Lib.hid (putBoth rr.out (.int .i64 x0) (.string x1) (.string x2) (.int .i64 x3) (.slice ua r5.length uk) (.int .i64 x5) (.int .i64 y0) (.string y1) (.string y2) (.int .i64 y3) (.slice ua' s5.length uk') (.int .i64 y5))
          clear hK K ho hS
          generalize ((((((((((((X4.setCell ⟨G, 0, none⟩ (.int .i64 x0)).setCell ⟨G, 1, none⟩ (.string x1)).setCell ⟨G, 2, none⟩ (.string x2)).setCell ⟨G, 3, none⟩ (.int .i64 x3)).setCell ⟨G, 4, none⟩ (.slice ua r5.length uk)).setCell ⟨G, 5, none⟩ (.int .i64 x5)).setCell ⟨G, 6, none⟩ (.int .i64 y0)).setCell ⟨G, 7, none⟩ (.string y1)).setCell ⟨G, 8, none⟩ (.string y2)).setCell ⟨G, 9, none⟩ (.int .i64 y3)).setCell ⟨G, 10, none⟩ (.slice ua' s5.length uk')).setCell ⟨G, 11, none⟩ (.int .i64 y5)) = X5 at *
          try simp only [Act.put, List.getElem_toArray, List.getElem_cons_succ, List.getElem_cons_zero, List.setIfInBounds_toArray, List.set_cons_zero, List.set_cons_succ]
          refine wpAnyH_take (i := 12) (v := ?_) rfl (by kernel_rfl) (by kernel_rfl) (by kernel_rfl) (fun _ _ _ h => h) (Or.inl ⟨by kernel_rfl, ?_⟩) hHeld ?_
          rotate_left
          · intro X hX
            first | (go_simp; done) | (go_simp; with_reducible rfl)
          try simp only [Act.put, List.getElem_toArray, List.getElem_cons_succ, List.getElem_cons_zero, List.setIfInBounds_toArray, List.set_cons_zero, List.set_cons_succ]
          refine wpAnyH_take (i := 13) (v := ?_) rfl (by kernel_rfl) (by kernel_rfl) (by kernel_rfl) (fun _ _ _ h => h) (Or.inl ⟨by kernel_rfl, ?_⟩) hHeld ?_
          rotate_left
          · intro X hX
            first | (go_simp; done) | (go_simp; with_reducible rfl)
          try simp only [Act.put, List.getElem_toArray, List.getElem_cons_succ, List.getElem_cons_zero, List.setIfInBounds_toArray, List.set_cons_zero, List.set_cons_succ]
          refine wpAnyH_done (by kernel_rfl) ?_ _
          clear qv putU_
          go_wp2_with fail
          go_meet
          exact ⟨G, ua, uk, ua', uk', rfl, rfl, rfl, Lib.hid ⟨rr.out, ⟨_, _, O1.out, O2.out, fun a ha => (by rcases List.mem_append.1 ha with h | h <;> first | exact (layIntS.blocks O1.out a h).2 | exact (layIntS.blocks O2.out a h).2)⟩, ⟨hlo, rr.out.lt⟩⟩, hHeld⟩
        · go_simp
          have hal : Below X2.heap.size X2 (X2.alloc (.cells #[.int .i64 0, .string ⟨#[]⟩, .string ⟨#[]⟩, .int .i64 0, .slice none 0 0, .int .i64 0, .int .i64 0, .string ⟨#[]⟩, .string ⟨#[]⟩, .int .i64 0, .slice none 0 0, .int .i64 0] SlotsT)) := (Below.refl _ _).alloc (Nat.le_refl _) _
          have hlo : Y2.heap.size ≤ X2.heap.size := hHeld.out.2.2.2.size
          refine hK.out _ _ (qv _ _ hHeld hal) (fun hHeld => ?_)
          clear hK K
          have hb := Lib.hid hal
          replace R1 := Lib.hid (layIntS.below R1.out hb.out)
          replace R2 := Lib.hid (layIntS.below R2.out hb.out)
          replace R3 := Lib.hid (layIntS.below R3.out hb.out)
          have rr := Lib.hid (VarA.new X2 SlotsT #[.int .i64 0, .string ⟨#[]⟩, .string ⟨#[]⟩, .int .i64 0, .slice none 0 0, .int .i64 0, .int .i64 0, .string ⟨#[]⟩, .string ⟨#[]⟩, .int .i64 0, .slice none 0 0, .int .i64 0])
          clear hal hb
          generalize X2.alloc (.cells #[.int .i64 0, .string ⟨#[]⟩, .string ⟨#[]⟩, .int .i64 0, .slice none 0 0, .int .i64 0, .int .i64 0, .string ⟨#[]⟩, .string ⟨#[]⟩, .int .i64 0, .slice none 0 0, .int .i64 0] SlotsT) = X3 at *
          generalize X2.heap.size = G at *
          try simp only [Act.put, List.getElem_toArray, List.getElem_cons_succ, List.getElem_cons_zero, List.setIfInBounds_toArray, List.set_cons_zero, List.set_cons_succ]
          refine wpAnyH_ready (rs := [5]) (by kernel_rfl) (by simp) ?_
          refine AllReadyH.cons rfl (fun K hK => ?_) AllReadyH.nil
          go_simp
          go_wp2_with (go_at_call 6; refine (HS.out _ _ _ X3 R1.out R2.out R3.out).mono ?_; rintro e X4 ⟨v5, u5, f5, g5, rfl, hd, o1, o2, hb0⟩; obtain ⟨ua, uk, rfl⟩ := (show ∃ a c, v5 = .slice a r5.length c from rows_form (layIntS.read o1)); obtain ⟨ua', uk', rfl⟩ := (show ∃ a c, u5 = .slice a s5.length c from rows_form (layIntS.read o2)); have hlz : Y2.heap.size ≤ X3.heap.size := hHeld.out.2.2.2.size; have hS := qv _ _ hHeld hb0; have O1 := Lib.hid (layIntS.lower o1 hlz); have O2 := Lib.hid (layIntS.lower o2 hlz); have hb := Lib.hid hb0; clear hb0 o1 o2 hd hlz R1 R2 R3)
          refine hK.out _ _ hS (fun hHeld => ?_)
          clear hK K hS
          replace rr := Lib.hid (rr.out.next hb.out)
          clear hb
          try simp only [Act.put, List.getElem_toArray, List.getElem_cons_succ, List.getElem_cons_zero, List.setIfInBounds_toArray, List.set_cons_zero, List.set_cons_succ]
          refine wpAnyH_take (i := 6) (v := ?_) rfl (by kernel_rfl) (by kernel_rfl) (by kernel_rfl) (fun _ _ _ h => h) (Or.inl ⟨by kernel_rfl, ?_⟩) hHeld ?_
          rotate_left
          · intro X hX
            first | (go_simp; done) | (go_simp; with_reducible rfl)
          try simp only [Act.put, List.getElem_toArray, List.getElem_cons_succ, List.getElem_cons_zero, List.setIfInBounds_toArray, List.set_cons_zero, List.set_cons_succ]
          refine wpAnyH_take (i := 7) (v := ?_) rfl (by kernel_rfl) (by kernel_rfl) (by kernel_rfl) (fun _ _ _ h => h) (Or.inl ⟨by kernel_rfl, ?_⟩) hHeld ?_
          rotate_left
          · intro X hX
            first | (go_simp; done) | (go_simp; with_reducible rfl)
          try simp only [Act.put, List.getElem_toArray, List.getElem_cons_succ, List.getElem_cons_zero, List.setIfInBounds_toArray, List.set_cons_zero, List.set_cons_succ]
          refine wpAnyH_take (i := 8) (v := ?_) rfl (by kernel_rfl) (by kernel_rfl) (by kernel_rfl) (fun _ _ _ h => h) (Or.inl ⟨by kernel_rfl, ?_⟩) hHeld ?_
          rotate_left
          · intro X hX
            first | (go_simp; done) | (go_simp; with_reducible rfl)
          try simp only [Act.put, List.getElem_toArray, List.getElem_cons_succ, List.getElem_cons_zero, List.setIfInBounds_toArray, List.set_cons_zero, List.set_cons_succ]
          refine wpAnyH_take (i := 9) (v := ?_) rfl (by kernel_rfl) (by kernel_rfl) (by kernel_rfl) (fun _ _ _ h => h) (Or.inl ⟨by kernel_rfl, ?_⟩) hHeld ?_
          rotate_left
          · intro X hX
            first | (go_simp; done) | (go_simp; with_reducible rfl)
          try simp only [Act.put, List.getElem_toArray, List.getElem_cons_succ, List.getElem_cons_zero, List.setIfInBounds_toArray, List.set_cons_zero, List.set_cons_succ]
          refine wpAnyH_ready (rs := [11]) (by kernel_rfl) (by simp) ?_
          refine AllReadyH.cons rfl (fun K hK => ?_) AllReadyH.nil
          have r0_ : X4.cell? ⟨G, 0, none⟩ = some (.int .i64 0) := rr.out.cell 0
          have r1_ : X4.cell? ⟨G, 1, none⟩ = some (.string ⟨#[]⟩) := rr.out.cell 1
          have r2_ : X4.cell? ⟨G, 2, none⟩ = some (.string ⟨#[]⟩) := rr.out.cell 2
          have r3_ : X4.cell? ⟨G, 3, none⟩ = some (.int .i64 0) := rr.out.cell 3
          have r4_ : X4.cell? ⟨G, 4, none⟩ = some (.slice none 0 0) := rr.out.cell 4
          have r5_ : X4.cell? ⟨G, 5, none⟩ = some (.int .i64 0) := rr.out.cell 5
          have r6_ : X4.cell? ⟨G, 6, none⟩ = some (.int .i64 0) := rr.out.cell 6
          have r7_ : X4.cell? ⟨G, 7, none⟩ = some (.string ⟨#[]⟩) := rr.out.cell 7
          have r8_ : X4.cell? ⟨G, 8, none⟩ = some (.string ⟨#[]⟩) := rr.out.cell 8
          have r9_ : X4.cell? ⟨G, 9, none⟩ = some (.int .i64 0) := rr.out.cell 9
          have r10_ : X4.cell? ⟨G, 10, none⟩ = some (.slice none 0 0) := rr.out.cell 10
          have r11_ : X4.cell? ⟨G, 11, none⟩ = some (.int .i64 0) := rr.out.cell 11
          have g0_ := rr.out.free 0
          have g1_ := rr.out.free 1
          have g2_ := rr.out.free 2
          have g3_ := rr.out.free 3
          have g4_ := rr.out.free 4
          have g5_ := rr.out.free 5
          have g6_ := rr.out.free 6
          have g7_ := rr.out.free 7
          have g8_ := rr.out.free 8
          have g9_ := rr.out.free 9
          have g10_ := rr.out.free 10
          have g11_ := rr.out.free 11
          go_simp
          clear r0_ g0_ r1_ g1_ r2_ g2_ r3_ g3_ r4_ g4_ r5_ g5_ r6_ g6_ r7_ g7_ r8_ g8_ r9_ g9_ r10_ g10_ r11_ g11_
          have hS := putU_ X4 G (.int .i64 x0) (.string x1) (.string x2) (.int .i64 x3) (.slice ua r5.length uk) (.int .i64 x5) (.int .i64 y0) (.string y1) (.string y2) (.int .i64 y3) (.slice ua' s5.length uk') (.int .i64 y5) hlo hHeld
          refine hK.out _ _ hS (fun hHeld => ?_)
          have ho : Only G X4 ((((((((((((X4.setCell ⟨G, 0, none⟩ (.int .i64 x0)).setCell ⟨G, 1, none⟩ (.string x1)).setCell ⟨G, 2, none⟩ (.string x2)).setCell ⟨G, 3, none⟩ (.int .i64 x3)).setCell ⟨G, 4, none⟩ (.slice ua r5.length uk)).setCell ⟨G, 5, none⟩ (.int .i64 x5)).setCell ⟨G, 6, none⟩ (.int .i64 y0)).setCell ⟨G, 7, none⟩ (.string y1)).setCell ⟨G, 8, none⟩ (.string y2)).setCell ⟨G, 9, none⟩ (.int .i64 y3)).setCell ⟨G, 10, none⟩ (.slice ua' s5.length uk')).setCell ⟨G, 11, none⟩ (.int .i64 y5)) := (putMain_only X4 G _ _ _ _ _ _).trans (putLame_only _ G _ _ _ _ _ _)
          replace O1 := Lib.hid (own_only O1.out ho (row_off flatIntK O1.out rr.out (by decide)))
          replace O2 := Lib.hid (own_only O2.out ho (row_off flatIntK O2.out rr.out (by decide)))
          replace rr := Lib.hid (putBoth rr.out (.int .i64 x0) (.string x1) (.string x2) (.int .i64 x3) (.slice ua r5.length uk) (.int .i64 x5) (.int .i64 y0) (.string y1) (.string y2) (.int .i64 y3) (.slice ua' s5.length uk') (.int .i64 y5))
          clear hK K ho hS
          generalize ((((((((((((X4.setCell ⟨G, 0, none⟩ (.int .i64 x0)).setCell ⟨G, 1, none⟩ (.string x1)).setCell ⟨G, 2, none⟩ (.string x2)).setCell ⟨G, 3, none⟩ (.int .i64 x3)).setCell ⟨G, 4, none⟩ (.slice ua r5.length uk)).setCell ⟨G, 5, none⟩ (.int .i64 x5)).setCell ⟨G, 6, none⟩ (.int .i64 y0)).setCell ⟨G, 7, none⟩ (.string y1)).setCell ⟨G, 8, none⟩ (.string y2)).setCell ⟨G, 9, none⟩ (.int .i64 y3)).setCell ⟨G, 10, none⟩ (.slice ua' s5.length uk')).setCell ⟨G, 11, none⟩ (.int .i64 y5)) = X5 at *
          try simp only [Act.put, List.getElem_toArray, List.getElem_cons_succ, List.getElem_cons_zero, List.setIfInBounds_toArray, List.set_cons_zero, List.set_cons_succ]
          refine wpAnyH_take (i := 12) (v := ?_) rfl (by kernel_rfl) (by kernel_rfl) (by kernel_rfl) (fun _ _ _ h => h) (Or.inl ⟨by kernel_rfl, ?_⟩) hHeld ?_
          rotate_left
          · intro X hX
            first | (go_simp; done) | (go_simp; with_reducible rfl)
          try simp only [Act.put, List.getElem_toArray, List.getElem_cons_succ, List.getElem_cons_zero, List.setIfInBounds_toArray, List.set_cons_zero, List.set_cons_succ]
          refine wpAnyH_take (i := 13) (v := ?_) rfl (by kernel_rfl) (by kernel_rfl) (by kernel_rfl) (fun _ _ _ h => h) (Or.inl ⟨by kernel_rfl, ?_⟩) hHeld ?_
          rotate_left
          · intro X hX
            first | (go_simp; done) | (go_simp; with_reducible rfl)
          try simp only [Act.put, List.getElem_toArray, List.getElem_cons_succ, List.getElem_cons_zero, List.setIfInBounds_toArray, List.set_cons_zero, List.set_cons_succ]
          refine wpAnyH_done (by kernel_rfl) ?_ _
          clear qv putU_
          go_wp2_with fail
          go_meet
          exact ⟨G, ua, uk, ua', uk', rfl, rfl, rfl, Lib.hid ⟨rr.out, ⟨_, _, O1.out, O2.out, fun a ha => (by rcases List.mem_append.1 ha with h | h <;> first | exact (layIntS.blocks O1.out a h).2 | exact (layIntS.blocks O2.out a h).2)⟩, ⟨hlo, rr.out.lt⟩⟩, hHeld⟩
      · go_simp
        have hal : Below X1.heap.size X1 (X1.alloc (.cells #[.int .i64 0, .string ⟨#[]⟩, .string ⟨#[]⟩, .int .i64 0, .slice none 0 0, .int .i64 0, .int .i64 0, .string ⟨#[]⟩, .string ⟨#[]⟩, .int .i64 0, .slice none 0 0, .int .i64 0] SlotsT)) := (Below.refl _ _).alloc (Nat.le_refl _) _
        have hlo : Y2.heap.size ≤ X1.heap.size := hHeld.out.2.2.2.size
        refine hK.out _ _ (qv _ _ hHeld hal) (fun hHeld => ?_)
        clear hK K
        have hb := Lib.hid hal
        replace R1 := Lib.hid (layIntS.below R1.out hb.out)
        replace R2 := Lib.hid (layIntS.below R2.out hb.out)
        have rr := Lib.hid (VarA.new X1 SlotsT #[.int .i64 0, .string ⟨#[]⟩, .string ⟨#[]⟩, .int .i64 0, .slice none 0 0, .int .i64 0, .int .i64 0, .string ⟨#[]⟩, .string ⟨#[]⟩, .int .i64 0, .slice none 0 0, .int .i64 0])
        clear hal hb
        generalize X1.alloc (.cells #[.int .i64 0, .string ⟨#[]⟩, .string ⟨#[]⟩, .int .i64 0, .slice none 0 0, .int .i64 0, .int .i64 0, .string ⟨#[]⟩, .string ⟨#[]⟩, .int .i64 0, .slice none 0 0, .int .i64 0] SlotsT) = X2 at *
        generalize X1.heap.size = G at *
        try simp only [Act.put, List.getElem_toArray, List.getElem_cons_succ, List.getElem_cons_zero, List.setIfInBounds_toArray, List.set_cons_zero, List.set_cons_succ]
        refine wpAnyH_ready (rs := [3]) (by kernel_rfl) (by simp) ?_
        refine AllReadyH.cons rfl (fun K hK => ?_) AllReadyH.nil
        go_simp
        go_wp2_with (go_at_call 8; refine (TP.out X2 hHeld.out.2.2.1).mono ?_; rintro e X3 ⟨ma, mk, f5, rfl, hd, o1, hb0⟩; have hS := qv _ _ hHeld hb0; have R3 := Lib.hid (layIntS.read o1); have hb := Lib.hid hb0; clear hb0 o1 hd f5)
        refine hK.out _ _ hS (fun hHeld => ?_)
        clear hK K hS
        replace R1 := Lib.hid (layIntS.below R1.out hb.out)
        replace R2 := Lib.hid (layIntS.below R2.out hb.out)
        replace rr := Lib.hid (rr.out.next hb.out)
        clear hb
        try simp only [Act.put, List.getElem_toArray, List.getElem_cons_succ, List.getElem_cons_zero, List.setIfInBounds_toArray, List.set_cons_zero, List.set_cons_succ]
        refine wpAnyH_ready (rs := [5]) (by kernel_rfl) (by simp) ?_
        refine AllReadyH.cons rfl (fun K hK => ?_) AllReadyH.nil
        go_simp
        go_wp2_with (go_at_call 6; refine (HS.out _ _ _ X3 R1.out R2.out R3.out).mono ?_; rintro e X4 ⟨v5, u5, f5, g5, rfl, hd, o1, o2, hb0⟩; obtain ⟨ua, uk, rfl⟩ := (show ∃ a c, v5 = .slice a r5.length c from rows_form (layIntS.read o1)); obtain ⟨ua', uk', rfl⟩ := (show ∃ a c, u5 = .slice a s5.length c from rows_form (layIntS.read o2)); have hlz : Y2.heap.size ≤ X3.heap.size := hHeld.out.2.2.2.size; have hS := qv _ _ hHeld hb0; have O1 := Lib.hid (layIntS.lower o1 hlz); have O2 := Lib.hid (layIntS.lower o2 hlz); have hb := Lib.hid hb0; clear hb0 o1 o2 hd hlz R1 R2 R3)
        refine hK.out _ _ hS (fun hHeld => ?_)
        clear hK K hS
        replace rr := Lib.hid (rr.out.next hb.out)
        clear hb
        try simp only [Act.put, List.getElem_toArray, List.getElem_cons_succ, List.getElem_cons_zero, List.setIfInBounds_toArray, List.set_cons_zero, List.set_cons_succ]
        refine wpAnyH_take (i := 6) (v := ?_) rfl (by kernel_rfl) (by kernel_rfl) (by kernel_rfl) (fun _ _ _ h => h) (Or.inl ⟨by kernel_rfl, ?_⟩) hHeld ?_
        rotate_left
        · intro X hX
          first | (go_simp; done) | (go_simp; with_reducible rfl)
        try simp only [Act.put, List.getElem_toArray, List.getElem_cons_succ, List.getElem_cons_zero, List.setIfInBounds_toArray, List.set_cons_zero, List.set_cons_succ]
        refine wpAnyH_take (i := 7) (v := ?_) rfl (by kernel_rfl) (by kernel_rfl) (by kernel_rfl) (fun _ _ _ h => h) (Or.inl ⟨by kernel_rfl, ?_⟩) hHeld ?_
        rotate_left
        · intro X hX
          first | (go_simp; done) | (go_simp; with_reducible rfl)
        try simp only [Act.put, List.getElem_toArray, List.getElem_cons_succ, List.getElem_cons_zero, List.setIfInBounds_toArray, List.set_cons_zero, List.set_cons_succ]
        refine wpAnyH_take (i := 8) (v := ?_) rfl (by kernel_rfl) (by kernel_rfl) (by kernel_rfl) (fun _ _ _ h => h) (Or.inl ⟨by kernel_rfl, ?_⟩) hHeld ?_
        rotate_left
        · intro X hX
          first | (go_simp; done) | (go_simp; with_reducible rfl)
        try simp only [Act.put, List.getElem_toArray, List.getElem_cons_succ, List.getElem_cons_zero, List.setIfInBounds_toArray, List.set_cons_zero, List.set_cons_succ]
        refine wpAnyH_take (i := 9) (v := ?_) rfl (by kernel_rfl) (by kernel_rfl) (by kernel_rfl) (fun _ _ _ h => h) (Or.inl ⟨by kernel_rfl, ?_⟩) hHeld ?_
        rotate_left
        · intro X hX
          first | (go_simp; done) | (go_simp; with_reducible rfl)
        try simp only [Act.put, List.getElem_toArray, List.getElem_cons_succ, List.getElem_cons_zero, List.setIfInBounds_toArray, List.set_cons_zero, List.set_cons_succ]
        refine wpAnyH_ready (rs := [11]) (by kernel_rfl) (by simp) ?_
        refine AllReadyH.cons rfl (fun K hK => ?_) AllReadyH.nil
        have r0_ : X4.cell? ⟨G, 0, none⟩ = some (.int .i64 0) := rr.out.cell 0
        have r1_ : X4.cell? ⟨G, 1, none⟩ = some (.string ⟨#[]⟩) := rr.out.cell 1
        have r2_ : X4.cell? ⟨G, 2, none⟩ = some (.string ⟨#[]⟩) := rr.out.cell 2
        have r3_ : X4.cell? ⟨G, 3, none⟩ = some (.int .i64 0) := rr.out.cell 3
        have r4_ : X4.cell? ⟨G, 4, none⟩ = some (.slice none 0 0) := rr.out.cell 4
        have r5_ : X4.cell? ⟨G, 5, none⟩ = some (.int .i64 0) := rr.out.cell 5
        have r6_ : X4.cell? ⟨G, 6, none⟩ = some (.int .i64 0) := rr.out.cell 6
        have r7_ : X4.cell? ⟨G, 7, none⟩ = some (.string ⟨#[]⟩) := rr.out.cell 7
        have r8_ : X4.cell? ⟨G, 8, none⟩ = some (.string ⟨#[]⟩) := rr.out.cell 8
        have r9_ : X4.cell? ⟨G, 9, none⟩ = some (.int .i64 0) := rr.out.cell 9
        have r10_ : X4.cell? ⟨G, 10, none⟩ = some (.slice none 0 0) := rr.out.cell 10
        have r11_ : X4.cell? ⟨G, 11, none⟩ = some (.int .i64 0) := rr.out.cell 11
        have g0_ := rr.out.free 0
        have g1_ := rr.out.free 1
        have g2_ := rr.out.free 2
        have g3_ := rr.out.free 3
        have g4_ := rr.out.free 4
        have g5_ := rr.out.free 5
        have g6_ := rr.out.free 6
        have g7_ := rr.out.free 7
        have g8_ := rr.out.free 8
        have g9_ := rr.out.free 9
        have g10_ := rr.out.free 10
        have g11_ := rr.out.free 11
        go_simp
        clear r0_ g0_ r1_ g1_ r2_ g2_ r3_ g3_ r4_ g4_ r5_ g5_ r6_ g6_ r7_ g7_ r8_ g8_ r9_ g9_ r10_ g10_ r11_ g11_
        have hS := putU_ X4 G (.int .i64 x0) (.string x1) (.string x2) (.int .i64 x3) (.slice ua r5.length uk) (.int .i64 x5) (.int .i64 y0) (.string y1) (.string y2) (.int .i64 y3) (.slice ua' s5.length uk') (.int .i64 y5) hlo hHeld
        refine hK.out _ _ hS (fun hHeld => ?_)
        have ho : Only G X4 ((((((((((((X4.setCell ⟨G, 0, none⟩ (.int .i64 x0)).setCell ⟨G, 1, none⟩ (.string x1)).setCell ⟨G, 2, none⟩ (.string x2)).setCell ⟨G, 3, none⟩ (.int .i64 x3)).setCell ⟨G, 4, none⟩ (.slice ua r5.length uk)).setCell ⟨G, 5, none⟩ (.int .i64 x5)).setCell ⟨G, 6, none⟩ (.int .i64 y0)).setCell ⟨G, 7, none⟩ (.string y1)).setCell ⟨G, 8, none⟩ (.string y2)).setCell ⟨G, 9, none⟩ (.int .i64 y3)).setCell ⟨G, 10, none⟩ (.slice ua' s5.length uk')).setCell ⟨G, 11, none⟩ (.int .i64 y5)) := (putMain_only X4 G _ _ _ _ _ _).trans (putLame_only _ G _ _ _ _ _ _)
        replace O1 := Lib.hid (own_only O1.out ho (row_off flatIntK O1.out rr.out (by decide)))
        replace O2 := Lib.hid (own_only O2.out ho (row_off flatIntK O2.out rr.out (by decide)))
        replace rr := Lib.hid (putBoth rr.out (.int .i64 x0) (.string x1) (.string x2) (.int .i64 x3) (.slice ua r5.length uk) (.int .i64 x5) (.int .i64 y0) (.string y1) (.string y2) (.int .i64 y3) (.slice ua' s5.length uk') (.int .i64 y5))
        clear hK K ho hS
        generalize ((((((((((((X4.setCell ⟨G, 0, none⟩ (.int .i64 x0)).setCell ⟨G, 1, none⟩ (.string x1)).setCell ⟨G, 2, none⟩ (.string x2)).setCell ⟨G, 3, none⟩ (.int .i64 x3)).setCell ⟨G, 4, none⟩ (.slice ua r5.length uk)).setCell ⟨G, 5, none⟩ (.int .i64 x5)).setCell ⟨G, 6, none⟩ (.int .i64 y0)).setCell ⟨G, 7, none⟩ (.string y1)).setCell ⟨G, 8, none⟩ (.string y2)).setCell ⟨G, 9, none⟩ (.int .i64 y3)).setCell ⟨G, 10, none⟩ (.slice ua' s5.length uk')).setCell ⟨G, 11, none⟩ (.int .i64 y5)) = X5 at *
        try simp only [Act.put, List.getElem_toArray, List.getElem_cons_succ, List.getElem_cons_zero, List.setIfInBounds_toArray, List.set_cons_zero, List.set_cons_succ]
        refine wpAnyH_take (i := 12) (v := ?_) rfl (by kernel_rfl) (by kernel_rfl) (by kernel_rfl) (fun _ _ _ h => h) (Or.inl ⟨by kernel_rfl, ?_⟩) hHeld ?_
        rotate_left
        · intro X hX
          first | (go_simp; done) | (go_simp; with_reducible rfl)
        try simp only [Act.put, List.getElem_toArray, List.getElem_cons_succ, List.getElem_cons_zero, List.setIfInBounds_toArray, List.set_cons_zero, List.set_cons_succ]
        refine wpAnyH_take (i := 13) (v := ?_) rfl (by kernel_rfl) (by kernel_rfl) (by kernel_rfl) (fun _ _ _ h => h) (Or.inl ⟨by kernel_rfl, ?_⟩) hHeld ?_
        rotate_left
        · intro X hX
          first | (go_simp; done) | (go_simp; with_reducible rfl)
        try simp only [Act.put, List.getElem_toArray, List.getElem_cons_succ, List.getElem_cons_zero, List.setIfInBounds_toArray, List.set_cons_zero, List.set_cons_succ]
        refine wpAnyH_done (by kernel_rfl) ?_ _
        clear qv putU_
        go_wp2_with fail
        go_meet
        exact ⟨G, ua, uk, ua', uk', rfl, rfl, rfl, Lib.hid ⟨rr.out, ⟨_, _, O1.out, O2.out, fun a ha => (by rcases List.mem_append.1 ha with h | h <;> first | exact (layIntS.blocks O1.out a h).2 | exact (layIntS.blocks O2.out a h).2)⟩, ⟨hlo, rr.out.lt⟩⟩, hHeld⟩
    · go_simp
      have hal : Below X0.heap.size X0 (X0.alloc (.cells #[.int .i64 0, .string ⟨#[]⟩, .string ⟨#[]⟩, .int .i64 0, .slice none 0 0, .int .i64 0, .int .i64 0, .string ⟨#[]⟩, .string ⟨#[]⟩, .int .i64 0, .slice none 0 0, .int .i64 0] SlotsT)) := (Below.refl _ _).alloc (Nat.le_refl _) _
      have hlo : Y2.heap.size ≤ X0.heap.size := hHeld.out.2.2.2.size
      refine hK.out _ _ (qv _ _ hHeld hal) (fun hHeld => ?_)
      clear hK K
      have hb := Lib.hid hal
      have rr := Lib.hid (VarA.new X0 SlotsT #[.int .i64 0, .string ⟨#[]⟩, .string ⟨#[]⟩, .int .i64 0, .slice none 0 0, .int .i64 0, .int .i64 0, .string ⟨#[]⟩, .string ⟨#[]⟩, .int .i64 0, .slice none 0 0, .int .i64 0])
      clear hal hb
      generalize X0.alloc (.cells #[.int .i64 0, .string ⟨#[]⟩, .string ⟨#[]⟩, .int .i64 0, .slice none 0 0, .int .i64 0, .int .i64 0, .string ⟨#[]⟩, .string ⟨#[]⟩, .int .i64 0, .slice none 0 0, .int .i64 0] SlotsT) = X1 at *
      generalize X0.heap.size = G at *
      try simp only [Act.put, List.getElem_toArray, List.getElem_cons_succ, List.getElem_cons_zero, List.setIfInBounds_toArray, List.set_cons_zero, List.set_cons_succ]
      refine wpAnyH_ready (rs := [1]) (by kernel_rfl) (by simp) ?_
      refine AllReadyH.cons rfl (fun K hK => ?_) AllReadyH.nil
      go_simp
      go_wp2_with (go_at_call 7; refine (TT.out X1 hHeld.out.2.2.1).mono ?_; rintro e X2 ⟨v5, u5, f5, g5, rfl, hd, o1, o2, hb0⟩; obtain ⟨ta, tk, rfl⟩ := (show ∃ a c, v5 = .slice a r4.length c from rows_form (layIntS.read o1)); obtain ⟨ta', tk', rfl⟩ := (show ∃ a c, u5 = .slice a s4.length c from rows_form (layIntS.read o2)); have hS := qv _ _ hHeld hb0; have R1 := Lib.hid (layIntS.read o1); have R2 := Lib.hid (layIntS.read o2); have hb := Lib.hid hb0; clear hb0 o1 o2 hd f5 g5)
      refine hK.out _ _ hS (fun hHeld => ?_)
      clear hK K hS
      replace rr := Lib.hid (rr.out.next hb.out)
      clear hb
      try simp only [Act.put, List.getElem_toArray, List.getElem_cons_succ, List.getElem_cons_zero, List.setIfInBounds_toArray, List.set_cons_zero, List.set_cons_succ]
      refine wpAnyH_ready (rs := [3]) (by kernel_rfl) (by simp) ?_
      refine AllReadyH.cons rfl (fun K hK => ?_) AllReadyH.nil
      go_simp
      go_wp2_with (go_at_call 8; refine (TP.out X2 hHeld.out.2.2.1).mono ?_; rintro e X3 ⟨ma, mk, f5, rfl, hd, o1, hb0⟩; have hS := qv _ _ hHeld hb0; have R3 := Lib.hid (layIntS.read o1); have hb := Lib.hid hb0; clear hb0 o1 hd f5)
      refine hK.out _ _ hS (fun hHeld => ?_)
      clear hK K hS
      replace R1 := Lib.hid (layIntS.below R1.out hb.out)
      replace R2 := Lib.hid (layIntS.below R2.out hb.out)
      replace rr := Lib.hid (rr.out.next hb.out)
      clear hb
      try simp only [Act.put, List.getElem_toArray, List.getElem_cons_succ, List.getElem_cons_zero, List.setIfInBounds_toArray, List.set_cons_zero, List.set_cons_succ]
      refine wpAnyH_ready (rs := [5]) (by kernel_rfl) (by simp) ?_
      refine AllReadyH.cons rfl (fun K hK => ?_) AllReadyH.nil
      go_simp
      go_wp2_with (go_at_call 6; refine (HS.out _ _ _ X3 R1.out R2.out R3.out).mono ?_; rintro e X4 ⟨v5, u5, f5, g5, rfl, hd, o1, o2, hb0⟩; obtain ⟨ua, uk, rfl⟩ := (show ∃ a c, v5 = .slice a r5.length c from rows_form (layIntS.read o1)); obtain ⟨ua', uk', rfl⟩ := (show ∃ a c, u5 = .slice a s5.length c from rows_form (layIntS.read o2)); have hlz : Y2.heap.size ≤ X3.heap.size := hHeld.out.2.2.2.size; have hS := qv _ _ hHeld hb0; have O1 := Lib.hid (layIntS.lower o1 hlz); have O2 := Lib.hid (layIntS.lower o2 hlz); have hb := Lib.hid hb0; clear hb0 o1 o2 hd hlz R1 R2 R3)
      refine hK.out _ _ hS (fun hHeld => ?_)
      clear hK K hS
      replace rr := Lib.hid (rr.out.next hb.out)
      clear hb
      try simp only [Act.put, List.getElem_toArray, List.getElem_cons_succ, List.getElem_cons_zero, List.setIfInBounds_toArray, List.set_cons_zero, List.set_cons_succ]
      refine wpAnyH_take (i := 6) (v := ?_) rfl (by kernel_rfl) (by kernel_rfl) (by kernel_rfl) (fun _ _ _ h => h) (Or.inl ⟨by kernel_rfl, ?_⟩) hHeld ?_
      rotate_left
      · intro X hX
        first | (go_simp; done) | (go_simp; with_reducible rfl)
      try simp only [Act.put, List.getElem_toArray, List.getElem_cons_succ, List.getElem_cons_zero, List.setIfInBounds_toArray, List.set_cons_zero, List.set_cons_succ]
      refine wpAnyH_take (i := 7) (v := ?_) rfl (by kernel_rfl) (by kernel_rfl) (by kernel_rfl) (fun _ _ _ h => h) (Or.inl ⟨by kernel_rfl, ?_⟩) hHeld ?_
      rotate_left
      · intro X hX
        first | (go_simp; done) | (go_simp; with_reducible rfl)
      try simp only [Act.put, List.getElem_toArray, List.getElem_cons_succ, List.getElem_cons_zero, List.setIfInBounds_toArray, List.set_cons_zero, List.set_cons_succ]
      refine wpAnyH_take (i := 8) (v := ?_) rfl (by kernel_rfl) (by kernel_rfl) (by kernel_rfl) (fun _ _ _ h => h) (Or.inl ⟨by kernel_rfl, ?_⟩) hHeld ?_
      rotate_left
      · intro X hX
        first | (go_simp; done) | (go_simp; with_reducible rfl)
      try simp only [Act.put, List.getElem_toArray, List.getElem_cons_succ, List.getElem_cons_zero, List.setIfInBounds_toArray, List.set_cons_zero, List.set_cons_succ]
      refine wpAnyH_take (i := 9) (v := ?_) rfl (by kernel_rfl) (by kernel_rfl) (by kernel_rfl) (fun _ _ _ h => h) (Or.inl ⟨by kernel_rfl, ?_⟩) hHeld ?_
      rotate_left
      · intro X hX
        first | (go_simp; done) | (go_simp; with_reducible rfl)
      try simp only [Act.put, List.getElem_toArray, List.getElem_cons_succ, List.getElem_cons_zero, List.setIfInBounds_toArray, List.set_cons_zero, List.set_cons_succ]
      refine wpAnyH_ready (rs := [11]) (by kernel_rfl) (by simp) ?_
      refine AllReadyH.cons rfl (fun K hK => ?_) AllReadyH.nil
      have r0_ : X4.cell? ⟨G, 0, none⟩ = some (.int .i64 0) := rr.out.cell 0
      have r1_ : X4.cell? ⟨G, 1, none⟩ = some (.string ⟨#[]⟩) := rr.out.cell 1
      have r2_ : X4.cell? ⟨G, 2, none⟩ = some (.string ⟨#[]⟩) := rr.out.cell 2
      have r3_ : X4.cell? ⟨G, 3, none⟩ = some (.int .i64 0) := rr.out.cell 3
      have r4_ : X4.cell? ⟨G, 4, none⟩ = some (.slice none 0 0) := rr.out.cell 4
      have r5_ : X4.cell? ⟨G, 5, none⟩ = some (.int .i64 0) := rr.out.cell 5
      have r6_ : X4.cell? ⟨G, 6, none⟩ = some (.int .i64 0) := rr.out.cell 6
      have r7_ : X4.cell? ⟨G, 7, none⟩ = some (.string ⟨#[]⟩) := rr.out.cell 7
      have r8_ : X4.cell? ⟨G, 8, none⟩ = some (.string ⟨#[]⟩) := rr.out.cell 8
      have r9_ : X4.cell? ⟨G, 9, none⟩ = some (.int .i64 0) := rr.out.cell 9
      have r10_ : X4.cell? ⟨G, 10, none⟩ = some (.slice none 0 0) := rr.out.cell 10
      have r11_ : X4.cell? ⟨G, 11, none⟩ = some (.int .i64 0) := rr.out.cell 11
      have g0_ := rr.out.free 0
      have g1_ := rr.out.free 1
      have g2_ := rr.out.free 2
      have g3_ := rr.out.free 3
      have g4_ := rr.out.free 4
      have g5_ := rr.out.free 5
      have g6_ := rr.out.free 6
      have g7_ := rr.out.free 7
      have g8_ := rr.out.free 8
      have g9_ := rr.out.free 9
      have g10_ := rr.out.free 10
      have g11_ := rr.out.free 11
      go_simp
      clear r0_ g0_ r1_ g1_ r2_ g2_ r3_ g3_ r4_ g4_ r5_ g5_ r6_ g6_ r7_ g7_ r8_ g8_ r9_ g9_ r10_ g10_ r11_ g11_
      have hS := putU_ X4 G (.int .i64 x0) (.string x1) (.string x2) (.int .i64 x3) (.slice ua r5.length uk) (.int .i64 x5) (.int .i64 y0) (.string y1) (.string y2) (.int .i64 y3) (.slice ua' s5.length uk') (.int .i64 y5) hlo hHeld
      refine hK.out _ _ hS (fun hHeld => ?_)
      have ho : Only G X4 ((((((((((((X4.setCell ⟨G, 0, none⟩ (.int .i64 x0)).setCell ⟨G, 1, none⟩ (.string x1)).setCell ⟨G, 2, none⟩ (.string x2)).setCell ⟨G, 3, none⟩ (.int .i64 x3)).setCell ⟨G, 4, none⟩ (.slice ua r5.length uk)).setCell ⟨G, 5, none⟩ (.int .i64 x5)).setCell ⟨G, 6, none⟩ (.int .i64 y0)).setCell ⟨G, 7, none⟩ (.string y1)).setCell ⟨G, 8, none⟩ (.string y2)).setCell ⟨G, 9, none⟩ (.int .i64 y3)).setCell ⟨G, 10, none⟩ (.slice ua' s5.length uk')).setCell ⟨G, 11, none⟩ (.int .i64 y5)) := (putMain_only X4 G _ _ _ _ _ _).trans (putLame_only _ G _ _ _ _ _ _)
      replace O1 := Lib.hid (own_only O1.out ho (row_off flatIntK O1.out rr.out (by decide)))
      replace O2 := Lib.hid (own_only O2.out ho (row_off flatIntK O2.out rr.out (by decide)))
      replace rr := Lib.hid (putBoth rr.out (.int .i64 x0) (.string x1) (.string x2) (.int .i64 x3) (.slice ua r5.length uk) (.int .i64 x5) (.int .i64 y0) (.string y1) (.string y2) (.int .i64 y3) (.slice ua' s5.length uk') (.int .i64 y5))
      clear hK K ho hS
      generalize ((((((((((((X4.setCell ⟨G, 0, none⟩ (.int .i64 x0)).setCell ⟨G, 1, none⟩ (.string x1)).setCell ⟨G, 2, none⟩ (.string x2)).setCell ⟨G, 3, none⟩ (.int .i64 x3)).setCell ⟨G, 4, none⟩ (.slice ua r5.length uk)).setCell ⟨G, 5, none⟩ (.int .i64 x5)).setCell ⟨G, 6, none⟩ (.int .i64 y0)).setCell ⟨G, 7, none⟩ (.string y1)).setCell ⟨G, 8, none⟩ (.string y2)).setCell ⟨G, 9, none⟩ (.int .i64 y3)).setCell ⟨G, 10, none⟩ (.slice ua' s5.length uk')).setCell ⟨G, 11, none⟩ (.int .i64 y5)) = X5 at *
      try simp only [Act.put, List.getElem_toArray, List.getElem_cons_succ, List.getElem_cons_zero, List.setIfInBounds_toArray, List.set_cons_zero, List.set_cons_succ]
      refine wpAnyH_take (i := 12) (v := ?_) rfl (by kernel_rfl) (by kernel_rfl) (by kernel_rfl) (fun _ _ _ h => h) (Or.inl ⟨by kernel_rfl, ?_⟩) hHeld ?_
      rotate_left
      · intro X hX
        first | (go_simp; done) | (go_simp; with_reducible rfl)
      try simp only [Act.put, List.getElem_toArray, List.getElem_cons_succ, List.getElem_cons_zero, List.setIfInBounds_toArray, List.set_cons_zero, List.set_cons_succ]
      refine wpAnyH_take (i := 13) (v := ?_) rfl (by kernel_rfl) (by kernel_rfl) (by kernel_rfl) (fun _ _ _ h => h) (Or.inl ⟨by kernel_rfl, ?_⟩) hHeld ?_
      rotate_left
      · intro X hX
        first | (go_simp; done) | (go_simp; with_reducible rfl)
      try simp only [Act.put, List.getElem_toArray, List.getElem_cons_succ, List.getElem_cons_zero, List.setIfInBounds_toArray, List.set_cons_zero, List.set_cons_succ]
      refine wpAnyH_done (by kernel_rfl) ?_ _
      clear qv putU_
      go_wp2_with fail
      go_meet
      exact ⟨G, ua, uk, ua', uk', rfl, rfl, rfl, Lib.hid ⟨rr.out, ⟨_, _, O1.out, O2.out, fun a ha => (by rcases List.mem_append.1 ha with h | h <;> first | exact (layIntS.blocks O1.out a h).2 | exact (layIntS.blocks O2.out a h).2)⟩, ⟨hlo, rr.out.lt⟩⟩, hHeld⟩
  case rest =>
  obtain ⟨gU, ua, uk, ua', uk', rfl, rfl, rfl, U, hHeld⟩ := hcut
  clear E0 putU_
  have zY3 : Y2.heap.size ≤ wc.heap.size := hHeld.out.2.2.2.size
  have A0 := Lib.hid (hHeld.out.1)
  have P0 := Lib.hid (hHeld.out.2.1)
  have B0 := Lib.hid (hHeld.out.2.2.1)
  clear hHeld qv
  generalize wc = Y3 at *
  have c0 : Y3.cell? ⟨w.heap.size, 0, none⟩ = some (.int .i64 x0) := A0.out.cell 0
  have c1 : Y3.cell? ⟨w.heap.size, 1, none⟩ = some (.string x1) := A0.out.cell 1
  have c2 : Y3.cell? ⟨w.heap.size, 2, none⟩ = some (.string x2) := A0.out.cell 2
  have c3 : Y3.cell? ⟨w.heap.size, 3, none⟩ = some (.int .i64 x3) := A0.out.cell 3
  have c4 : Y3.cell? ⟨w.heap.size, 4, none⟩ = some (.slice a4 r4.length p4) := A0.out.cell 4
  have c5 : Y3.cell? ⟨w.heap.size, 5, none⟩ = some (.int .i64 x5) := A0.out.cell 5
  have c6 : Y3.cell? ⟨w.heap.size, 6, none⟩ = some (.int .i64 y0) := A0.out.cell 6
  have c7 : Y3.cell? ⟨w.heap.size, 7, none⟩ = some (.string y1) := A0.out.cell 7
  have c8 : Y3.cell? ⟨w.heap.size, 8, none⟩ = some (.string y2) := A0.out.cell 8
  have c9 : Y3.cell? ⟨w.heap.size, 9, none⟩ = some (.int .i64 y3) := A0.out.cell 9
  have c10 : Y3.cell? ⟨w.heap.size, 10, none⟩ = some (.slice b4 s4.length q4) := A0.out.cell 10
  have c11 : Y3.cell? ⟨w.heap.size, 11, none⟩ = some (.int .i64 y5) := A0.out.cell 11
  go_wp2_with fail
  refine (TT.out Y3 B0.out).mono ?_
  rintro e Y4 ⟨v5, u5, f5, g5, rfl, hd, o1, o2, hb⟩
  obtain ⟨xa, xk, rfl⟩ := rows_form (layIntS.read o1)
  obtain ⟨xa', xk', rfl⟩ := rows_form (layIntS.read o2)
  have zY4 : Y3.heap.size ≤ Y4.heap.size := hb.size
  replace A0 := Lib.hid (A0.out.next hb)
  replace P0 := Lib.hid (P0.out.next hb)
  replace B0 := Lib.hid (B0.out.trans (hb.mono B0.out.size))
  replace U := Lib.hid (U.out.next hb)
  have hal : Below Y4.heap.size Y4 (Y4.alloc (.cells #[.int .i64 x0, .string x1, .string x2, .int .i64 x3, .slice xa r4.length xk, .int .i64 x5, .int .i64 y0, .string y1, .string y2, .int .i64 y3, .slice xa' s4.length xk', .int .i64 y5] SlotsT)) := (Below.refl _ _).alloc (Nat.le_refl _) _
  have hszY5 : (Y4.alloc (.cells #[.int .i64 x0, .string x1, .string x2, .int .i64 x3, .slice xa r4.length xk, .int .i64 x5, .int .i64 y0, .string y1, .string y2, .int .i64 y3, .slice xa' s4.length xk', .int .i64 y5] SlotsT)).heap.size = Y4.heap.size + 1 := by simp
  replace A0 := Lib.hid (A0.out.next hal)
  replace P0 := Lib.hid (P0.out.next hal)
  replace B0 := Lib.hid (B0.out.trans (hal.mono B0.out.size))
  replace U := Lib.hid (U.out.next hal)
  have VV := Lib.hid (SO.new (cs := #[.int .i64 x0, .string x1, .string x2, .int .i64 x3, .slice xa r4.length xk, .int .i64 x5, .int .i64 y0, .string y1, .string y2, .int .i64 y3, .slice xa' s4.length xk', .int .i64 y5]) hd o1 o2)
  clear hb hal hd o1 o2 f5 g5 c0 c1 c2 c3 c4 c5 c6 c7 c8 c9 c10 c11
  go_upto_region 10 with fail
  generalize Y4.alloc (.cells #[.int .i64 x0, .string x1, .string x2, .int .i64 x3, .slice xa r4.length xk, .int .i64 x5, .int .i64 y0, .string y1, .string y2, .int .i64 y3, .slice xa' s4.length xk', .int .i64 y5] SlotsT) = Y5 at *
  have d0 : Y5.cell? ⟨w.heap.size + 1, 0, none⟩ = some (.int .i64 op) := P0.out.cell 0
  have d1 : Y5.cell? ⟨w.heap.size + 1, 1, none⟩ = some (.int .i64 key) := P0.out.cell 1
  have d2 : Y5.cell? ⟨w.heap.size + 1, 2, none⟩ = some (.int .i64 fr) := P0.out.cell 2
  have d3 : Y5.cell? ⟨w.heap.size + 1, 3, none⟩ = some (.int .i64 dst) := P0.out.cell 3
  have d4 : Y5.cell? ⟨w.heap.size + 1, 4, none⟩ = some (.int .i64 num) := P0.out.cell 4
  have d5 : Y5.cell? ⟨w.heap.size + 1, 5, none⟩ = some (.slice pka acks.length pkc) := P0.out.cell 5
  have d6 : Y5.cell? ⟨w.heap.size + 1, 6, none⟩ = some (.string body) := P0.out.cell 6
  go_wp2_with fail
  refine (TP.out Y5 B0.out).mono ?_
  rintro e Y6 ⟨pa, pk, f5, rfl, hd, o1, hb⟩
  have zY6 : Y5.heap.size ≤ Y6.heap.size := hb.size
  replace A0 := Lib.hid (A0.out.next hb)
  replace P0 := Lib.hid (P0.out.next hb)
  replace B0 := Lib.hid (B0.out.trans (hb.mono B0.out.size))
  replace U := Lib.hid (U.out.next hb)
  replace VV := Lib.hid (VV.out.next hb)
  have hal : Below Y6.heap.size Y6 (Y6.alloc (.cells #[.int .i64 op, .int .i64 key, .int .i64 fr, .int .i64 dst, .int .i64 num, .slice pa acks.length pk, .string body] PkT)) := (Below.refl _ _).alloc (Nat.le_refl _) _
  have hszY7 : (Y6.alloc (.cells #[.int .i64 op, .int .i64 key, .int .i64 fr, .int .i64 dst, .int .i64 num, .slice pa acks.length pk, .string body] PkT)).heap.size = Y6.heap.size + 1 := by simp
  replace A0 := Lib.hid (A0.out.next hal)
  replace P0 := Lib.hid (P0.out.next hal)
  replace B0 := Lib.hid (B0.out.trans (hal.mono B0.out.size))
  replace U := Lib.hid (U.out.next hal)
  replace VV := Lib.hid (VV.out.next hal)
  have PX := Lib.hid (PO.new (op := op) (key := key) (fr := fr) (dst := dst) (num := num) (body := body) hd o1)
  clear hb hal hd o1 f5 d0 d1 d2 d3 d4 d5 d6
  go_upto_region 11 with fail
  generalize Y6.alloc (.cells #[.int .i64 op, .int .i64 key, .int .i64 fr, .int .i64 dst, .int .i64 num, .slice pa acks.length pk, .string body] PkT) = Y7 at *
  have c0 : Y7.cell? ⟨Y4.heap.size, 0, none⟩ = some (.int .i64 x0) := VV.out.var.cell 0
  have c1 : Y7.cell? ⟨Y4.heap.size, 1, none⟩ = some (.string x1) := VV.out.var.cell 1
  have c2 : Y7.cell? ⟨Y4.heap.size, 2, none⟩ = some (.string x2) := VV.out.var.cell 2
  have c3 : Y7.cell? ⟨Y4.heap.size, 3, none⟩ = some (.int .i64 x3) := VV.out.var.cell 3
  have c4 : Y7.cell? ⟨Y4.heap.size, 4, none⟩ = some (.slice xa r4.length xk) := VV.out.var.cell 4
  have c5 : Y7.cell? ⟨Y4.heap.size, 5, none⟩ = some (.int .i64 x5) := VV.out.var.cell 5
  have c6 : Y7.cell? ⟨Y4.heap.size, 6, none⟩ = some (.int .i64 y0) := VV.out.var.cell 6
  have c7 : Y7.cell? ⟨Y4.heap.size, 7, none⟩ = some (.string y1) := VV.out.var.cell 7
  have c8 : Y7.cell? ⟨Y4.heap.size, 8, none⟩ = some (.string y2) := VV.out.var.cell 8
  have c9 : Y7.cell? ⟨Y4.heap.size, 9, none⟩ = some (.int .i64 y3) := VV.out.var.cell 9
  have c10 : Y7.cell? ⟨Y4.heap.size, 10, none⟩ = some (.slice xa' s4.length xk') := VV.out.var.cell 10
  have c11 : Y7.cell? ⟨Y4.heap.size, 11, none⟩ = some (.int .i64 y5) := VV.out.var.cell 11
  have d0 : Y7.cell? ⟨Y6.heap.size, 0, none⟩ = some (.int .i64 op) := PX.out.var.cell 0
  have d1 : Y7.cell? ⟨Y6.heap.size, 1, none⟩ = some (.int .i64 key) := PX.out.var.cell 1
  have d2 : Y7.cell? ⟨Y6.heap.size, 2, none⟩ = some (.int .i64 fr) := PX.out.var.cell 2
  have d3 : Y7.cell? ⟨Y6.heap.size, 3, none⟩ = some (.int .i64 dst) := PX.out.var.cell 3
  have d4 : Y7.cell? ⟨Y6.heap.size, 4, none⟩ = some (.int .i64 num) := PX.out.var.cell 4
  have d5 : Y7.cell? ⟨Y6.heap.size, 5, none⟩ = some (.slice pa acks.length pk) := PX.out.var.cell 5
  have d6 : Y7.cell? ⟨Y6.heap.size, 6, none⟩ = some (.string body) := PX.out.var.cell 6
  have K := Lib.hid (HI.out _ _ _ Y7 (LL.out _ B0.out) VV.out.rd1 VV.out.rd2 PX.out.rd)
  go_wp2_with fail
  refine (K.out).mono ?_
  rintro e Y8 ⟨v5, u5, f5, g5, rfl, hd, o1, o2, hb⟩
  obtain ⟨ga, gk, rfl⟩ := rows_form (layIntS.read o1)
  obtain ⟨ga', gk', rfl⟩ := rows_form (layIntS.read o2)
  have zY8 : Y7.heap.size ≤ Y8.heap.size := hb.size
  replace A0 := Lib.hid (A0.out.next hb)
  replace P0 := Lib.hid (P0.out.next hb)
  replace B0 := Lib.hid (B0.out.trans (hb.mono B0.out.size))
  replace U := Lib.hid (U.out.next hb)
  replace VV := Lib.hid (VV.out.next hb)
  replace PX := Lib.hid (PX.out.next hb)
  have hal : Below Y8.heap.size Y8 (Y8.alloc (.cells #[.int .i64 x0, .string x1, .string x2, .int .i64 x3, .slice ga r5.length gk, .int .i64 x5, .int .i64 y0, .string y1, .string y2, .int .i64 y3, .slice ga' s5.length gk', .int .i64 y5] SlotsT)) := (Below.refl _ _).alloc (Nat.le_refl _) _
  have hszY9 : (Y8.alloc (.cells #[.int .i64 x0, .string x1, .string x2, .int .i64 x3, .slice ga r5.length gk, .int .i64 x5, .int .i64 y0, .string y1, .string y2, .int .i64 y3, .slice ga' s5.length gk', .int .i64 y5] SlotsT)).heap.size = Y8.heap.size + 1 := by simp
  replace A0 := Lib.hid (A0.out.next hal)
  replace P0 := Lib.hid (P0.out.next hal)
  replace B0 := Lib.hid (B0.out.trans (hal.mono B0.out.size))
  replace U := Lib.hid (U.out.next hal)
  replace VV := Lib.hid (VV.out.next hal)
  replace PX := Lib.hid (PX.out.next hal)
  have GG := Lib.hid (SO.new (cs := #[.int .i64 x0, .string x1, .string x2, .int .i64 x3, .slice ga r5.length gk, .int .i64 x5, .int .i64 y0, .string y1, .string y2, .int .i64 y3, .slice ga' s5.length gk', .int .i64 y5]) hd o1 o2)
  clear hb hal hd o1 o2 f5 g5 K c0 c1 c2 c3 c4 c5 c6 c7 c8 c9 c10 c11 d0 d1 d2 d3 d4 d5 d6
  go_upto_region 12 with fail
  generalize Y8.alloc (.cells #[.int .i64 x0, .string x1, .string x2, .int .i64 x3, .slice ga r5.length gk, .int .i64 x5, .int .i64 y0, .string y1, .string y2, .int .i64 y3, .slice ga' s5.length gk', .int .i64 y5] SlotsT) = Y9 at *
  have c0 : Y9.cell? ⟨Y8.heap.size, 0, none⟩ = some (.int .i64 x0) := GG.out.var.cell 0
  have c1 : Y9.cell? ⟨Y8.heap.size, 1, none⟩ = some (.string x1) := GG.out.var.cell 1
  have c2 : Y9.cell? ⟨Y8.heap.size, 2, none⟩ = some (.string x2) := GG.out.var.cell 2
  have c3 : Y9.cell? ⟨Y8.heap.size, 3, none⟩ = some (.int .i64 x3) := GG.out.var.cell 3
  have c4 : Y9.cell? ⟨Y8.heap.size, 4, none⟩ = some (.slice ga r5.length gk) := GG.out.var.cell 4
  have c5 : Y9.cell? ⟨Y8.heap.size, 5, none⟩ = some (.int .i64 x5) := GG.out.var.cell 5
  have c6 : Y9.cell? ⟨Y8.heap.size, 6, none⟩ = some (.int .i64 y0) := GG.out.var.cell 6
  have c7 : Y9.cell? ⟨Y8.heap.size, 7, none⟩ = some (.string y1) := GG.out.var.cell 7
  have c8 : Y9.cell? ⟨Y8.heap.size, 8, none⟩ = some (.string y2) := GG.out.var.cell 8
  have c9 : Y9.cell? ⟨Y8.heap.size, 9, none⟩ = some (.int .i64 y3) := GG.out.var.cell 9
  have c10 : Y9.cell? ⟨Y8.heap.size, 10, none⟩ = some (.slice ga' s5.length gk') := GG.out.var.cell 10
  have c11 : Y9.cell? ⟨Y8.heap.size, 11, none⟩ = some (.int .i64 y5) := GG.out.var.cell 11
  have d0 : Y9.cell? ⟨gU, 0, none⟩ = some (.int .i64 x0) := U.out.var.cell 0
  have d1 : Y9.cell? ⟨gU, 1, none⟩ = some (.string x1) := U.out.var.cell 1
  have d2 : Y9.cell? ⟨gU, 2, none⟩ = some (.string x2) := U.out.var.cell 2
  have d3 : Y9.cell? ⟨gU, 3, none⟩ = some (.int .i64 x3) := U.out.var.cell 3
  have d4 : Y9.cell? ⟨gU, 4, none⟩ = some (.slice ua r5.length uk) := U.out.var.cell 4
  have d5 : Y9.cell? ⟨gU, 5, none⟩ = some (.int .i64 x5) := U.out.var.cell 5
  have d6 : Y9.cell? ⟨gU, 6, none⟩ = some (.int .i64 y0) := U.out.var.cell 6
  have d7 : Y9.cell? ⟨gU, 7, none⟩ = some (.string y1) := U.out.var.cell 7
  have d8 : Y9.cell? ⟨gU, 8, none⟩ = some (.string y2) := U.out.var.cell 8
  have d9 : Y9.cell? ⟨gU, 9, none⟩ = some (.int .i64 y3) := U.out.var.cell 9
  have d10 : Y9.cell? ⟨gU, 10, none⟩ = some (.slice ua' s5.length uk') := U.out.var.cell 10
  have d11 : Y9.cell? ⟨gU, 11, none⟩ = some (.int .i64 y5) := U.out.var.cell 11
  have K := Lib.hid (eqSlots_same x0 x1 x2 x3 _ r5 x5 y0 y1 y2 y3 _ s5 y5 _ _ Y9 GG.out.rd1 GG.out.rd2 U.out.rd1 U.out.rd2 (by omega) (by omega))
  go_wp2_with fail
  refine (K.out).mono ?_
  rintro e Y10 ⟨rfl, hb⟩
  have zY10 : Y9.heap.size ≤ Y10.heap.size := hb.size
  replace A0 := Lib.hid (A0.out.next hb)
  replace P0 := Lib.hid (P0.out.next hb)
  replace B0 := Lib.hid (B0.out.trans (hb.mono B0.out.size))
  replace U := Lib.hid (U.out.next hb)
  replace VV := Lib.hid (VV.out.next hb)
  replace PX := Lib.hid (PX.out.next hb)
  replace GG := Lib.hid (GG.out.next hb)
  clear hb K c0 c1 c2 c3 c4 c5 c6 c7 c8 c9 c10 c11 d0 d1 d2 d3 d4 d5 d6 d7 d8 d9 d10 d11
  have qv : ∀ X Y, (Hid (VarA w.heap.size LSsT #[.int .i64 x0, .string x1, .string x2, .int .i64 x3, .slice a4 r4.length p4, .int .i64 x5, .int .i64 y0, .string y1, .string y2, .int .i64 y3, .slice b4 s4.length q4, .int .i64 y5] X ∧ VarA (w.heap.size + 1) LPkT #[.int .i64 op, .int .i64 key, .int .i64 fr, .int .i64 dst, .int .i64 num, .slice pka acks.length pkc, .string body] X ∧ SR Y2.heap.size Y3.heap.size gU #[.int .i64 x0, .string x1, .string x2, .int .i64 x3, .slice ua r5.length uk, .int .i64 x5, .int .i64 y0, .string y1, .string y2, .int .i64 y3, .slice ua' s5.length uk', .int .i64 y5] (.slice ua r5.length uk) (.slice ua' s5.length uk') r5 s5 X ∧ SO Y3.heap.size Y4.heap.size Y4.heap.size #[.int .i64 x0, .string x1, .string x2, .int .i64 x3, .slice xa r4.length xk, .int .i64 x5, .int .i64 y0, .string y1, .string y2, .int .i64 y3, .slice xa' s4.length xk', .int .i64 y5] (.slice xa r4.length xk) (.slice xa' s4.length xk') r4 s4 X ∧ PO Y5.heap.size Y6.heap.size Y6.heap.size op key fr dst num (.slice pa acks.length pk) acks body X ∧ SO Y7.heap.size Y8.heap.size Y8.heap.size #[.int .i64 x0, .string x1, .string x2, .int .i64 x3, .slice ga r5.length gk, .int .i64 x5, .int .i64 y0, .string y1, .string y2, .int .i64 y3, .slice ga' s5.length gk', .int .i64 y5] (.slice ga r5.length gk) (.slice ga' s5.length gk') r5 s5 X ∧ Below w.heap.size w X ∧ Below Y10.heap.size Y10 X)) → Below X.heap.size X Y → (Hid (VarA w.heap.size LSsT #[.int .i64 x0, .string x1, .string x2, .int .i64 x3, .slice a4 r4.length p4, .int .i64 x5, .int .i64 y0, .string y1, .string y2, .int .i64 y3, .slice b4 s4.length q4, .int .i64 y5] Y ∧ VarA (w.heap.size + 1) LPkT #[.int .i64 op, .int .i64 key, .int .i64 fr, .int .i64 dst, .int .i64 num, .slice pka acks.length pkc, .string body] Y ∧ SR Y2.heap.size Y3.heap.size gU #[.int .i64 x0, .string x1, .string x2, .int .i64 x3, .slice ua r5.length uk, .int .i64 x5, .int .i64 y0, .string y1, .string y2, .int .i64 y3, .slice ua' s5.length uk', .int .i64 y5] (.slice ua r5.length uk) (.slice ua' s5.length uk') r5 s5 Y ∧ SO Y3.heap.size Y4.heap.size Y4.heap.size #[.int .i64 x0, .string x1, .string x2, .int .i64 x3, .slice xa r4.length xk, .int .i64 x5, .int .i64 y0, .string y1, .string y2, .int .i64 y3, .slice xa' s4.length xk', .int .i64 y5] (.slice xa r4.length xk) (.slice xa' s4.length xk') r4 s4 Y ∧ PO Y5.heap.size Y6.heap.size Y6.heap.size op key fr dst num (.slice pa acks.length pk) acks body Y ∧ SO Y7.heap.size Y8.heap.size Y8.heap.size #[.int .i64 x0, .string x1, .string x2, .int .i64 x3, .slice ga r5.length gk, .int .i64 x5, .int .i64 y0, .string y1, .string y2, .int .i64 y3, .slice ga' s5.length gk', .int .i64 y5] (.slice ga r5.length gk) (.slice ga' s5.length gk') r5 s5 Y ∧ Below w.heap.size w Y ∧ Below Y10.heap.size Y10 Y)) := fun X Y h hb => Lib.hid ⟨h.out.1.next hb, h.out.2.1.next hb, h.out.2.2.1.next hb, h.out.2.2.2.1.next hb, h.out.2.2.2.2.1.next hb, h.out.2.2.2.2.2.1.next hb, h.out.2.2.2.2.2.2.1.trans (hb.mono h.out.2.2.2.2.2.2.1.size), h.out.2.2.2.2.2.2.2.trans (hb.mono h.out.2.2.2.2.2.2.2.size)⟩
  have hdr : Below Y10.heap.size Y10 Y10.drew := (Below.refl _ _).drew
  have E0 : Hid (VarA w.heap.size LSsT #[.int .i64 x0, .string x1, .string x2, .int .i64 x3, .slice a4 r4.length p4, .int .i64 x5, .int .i64 y0, .string y1, .string y2, .int .i64 y3, .slice b4 s4.length q4, .int .i64 y5] Y10.drew ∧ VarA (w.heap.size + 1) LPkT #[.int .i64 op, .int .i64 key, .int .i64 fr, .int .i64 dst, .int .i64 num, .slice pka acks.length pkc, .string body] Y10.drew ∧ SR Y2.heap.size Y3.heap.size gU #[.int .i64 x0, .string x1, .string x2, .int .i64 x3, .slice ua r5.length uk, .int .i64 x5, .int .i64 y0, .string y1, .string y2, .int .i64 y3, .slice ua' s5.length uk', .int .i64 y5] (.slice ua r5.length uk) (.slice ua' s5.length uk') r5 s5 Y10.drew ∧ SO Y3.heap.size Y4.heap.size Y4.heap.size #[.int .i64 x0, .string x1, .string x2, .int .i64 x3, .slice xa r4.length xk, .int .i64 x5, .int .i64 y0, .string y1, .string y2, .int .i64 y3, .slice xa' s4.length xk', .int .i64 y5] (.slice xa r4.length xk) (.slice xa' s4.length xk') r4 s4 Y10.drew ∧ PO Y5.heap.size Y6.heap.size Y6.heap.size op key fr dst num (.slice pa acks.length pk) acks body Y10.drew ∧ SO Y7.heap.size Y8.heap.size Y8.heap.size #[.int .i64 x0, .string x1, .string x2, .int .i64 x3, .slice ga r5.length gk, .int .i64 x5, .int .i64 y0, .string y1, .string y2, .int .i64 y3, .slice ga' s5.length gk', .int .i64 y5] (.slice ga r5.length gk) (.slice ga' s5.length gk') r5 s5 Y10.drew ∧ Below w.heap.size w Y10.drew ∧ Below Y10.heap.size Y10 Y10.drew) := qv _ _ (Lib.hid ⟨A0.out, P0.out, U.out, VV.out, PX.out, GG.out, B0.out, Below.refl _ _⟩) hdr
  clear hdr A0 P0 B0 U VV PX GG
  go_wp2_with fail
  refine wp_region_held_drew (S := fun X => Hid (VarA w.heap.size LSsT #[.int .i64 x0, .string x1, .string x2, .int .i64 x3, .slice a4 r4.length p4, .int .i64 x5, .int .i64 y0, .string y1, .string y2, .int .i64 y3, .slice b4 s4.length q4, .int .i64 y5] X ∧ VarA (w.heap.size + 1) LPkT #[.int .i64 op, .int .i64 key, .int .i64 fr, .int .i64 dst, .int .i64 num, .slice pka acks.length pkc, .string body] X ∧ SR Y2.heap.size Y3.heap.size gU #[.int .i64 x0, .string x1, .string x2, .int .i64 x3, .slice ua r5.length uk, .int .i64 x5, .int .i64 y0, .string y1, .string y2, .int .i64 y3, .slice ua' s5.length uk', .int .i64 y5] (.slice ua r5.length uk) (.slice ua' s5.length uk') r5 s5 X ∧ SO Y3.heap.size Y4.heap.size Y4.heap.size #[.int .i64 x0, .string x1, .string x2, .int .i64 x3, .slice xa r4.length xk, .int .i64 x5, .int .i64 y0, .string y1, .string y2, .int .i64 y3, .slice xa' s4.length xk', .int .i64 y5] (.slice xa r4.length xk) (.slice xa' s4.length xk') r4 s4 X ∧ PO Y5.heap.size Y6.heap.size Y6.heap.size op key fr dst num (.slice pa acks.length pk) acks body X ∧ SO Y7.heap.size Y8.heap.size Y8.heap.size #[.int .i64 x0, .string x1, .string x2, .int .i64 x3, .slice ga r5.length gk, .int .i64 x5, .int .i64 y0, .string y1, .string y2, .int .i64 y3, .slice ga' s5.length gk', .int .i64 y5] (.slice ga r5.length gk) (.slice ga' s5.length gk') r5 s5 X ∧ Below w.heap.size w X ∧ Below Y10.heap.size Y10 X)) (by kernel_rfl) E0 (fun hHeld => ?_)
  clear E0
  generalize Y10.drew = X0 at *
  refine wpAnyH_take (i := 0) (v := ?_) rfl (by kernel_rfl) (by kernel_rfl) (by kernel_rfl) (fun _ _ _ h => h) (Or.inl ⟨by kernel_rfl, ?_⟩) hHeld ?_
  rotate_left
  · intro X hX
    have yy0 : X.cell? ⟨Y4.heap.size, 0, none⟩ = some (.int .i64 x0) := hX.out.2.2.2.1.var.cell 0
    have yy1 : X.cell? ⟨Y4.heap.size, 1, none⟩ = some (.string x1) := hX.out.2.2.2.1.var.cell 1
    have yy2 : X.cell? ⟨Y4.heap.size, 2, none⟩ = some (.string x2) := hX.out.2.2.2.1.var.cell 2
    have yy3 : X.cell? ⟨Y4.heap.size, 3, none⟩ = some (.int .i64 x3) := hX.out.2.2.2.1.var.cell 3
    have yy4 : X.cell? ⟨Y4.heap.size, 4, none⟩ = some (.slice xa r4.length xk) := hX.out.2.2.2.1.var.cell 4
    have yy5 : X.cell? ⟨Y4.heap.size, 5, none⟩ = some (.int .i64 x5) := hX.out.2.2.2.1.var.cell 5
    have yy6 : X.cell? ⟨Y4.heap.size, 6, none⟩ = some (.int .i64 y0) := hX.out.2.2.2.1.var.cell 6
    have yy7 : X.cell? ⟨Y4.heap.size, 7, none⟩ = some (.string y1) := hX.out.2.2.2.1.var.cell 7
    have yy8 : X.cell? ⟨Y4.heap.size, 8, none⟩ = some (.string y2) := hX.out.2.2.2.1.var.cell 8
    have yy9 : X.cell? ⟨Y4.heap.size, 9, none⟩ = some (.int .i64 y3) := hX.out.2.2.2.1.var.cell 9
    have yy10 : X.cell? ⟨Y4.heap.size, 10, none⟩ = some (.slice xa' s4.length xk') := hX.out.2.2.2.1.var.cell 10
    have yy11 : X.cell? ⟨Y4.heap.size, 11, none⟩ = some (.int .i64 y5) := hX.out.2.2.2.1.var.cell 11
    first | (go_simp; done) | (go_simp; with_reducible rfl)
  try simp only [Act.put, List.getElem_toArray, List.getElem_cons_zero, List.setIfInBounds_toArray, List.set_cons_zero, List.set_cons_succ]
  refine wpAnyH_take (i := 1) (v := ?_) rfl (by kernel_rfl) (by kernel_rfl) (by kernel_rfl) (fun _ _ _ h => h) (Or.inl ⟨by kernel_rfl, ?_⟩) hHeld ?_
  rotate_left
  · intro X hX
    have yy0 : X.cell? ⟨w.heap.size, 0, none⟩ = some (.int .i64 x0) := hX.out.1.cell 0
    have yy1 : X.cell? ⟨w.heap.size, 1, none⟩ = some (.string x1) := hX.out.1.cell 1
    have yy2 : X.cell? ⟨w.heap.size, 2, none⟩ = some (.string x2) := hX.out.1.cell 2
    have yy3 : X.cell? ⟨w.heap.size, 3, none⟩ = some (.int .i64 x3) := hX.out.1.cell 3
    have yy4 : X.cell? ⟨w.heap.size, 4, none⟩ = some (.slice a4 r4.length p4) := hX.out.1.cell 4
    have yy5 : X.cell? ⟨w.heap.size, 5, none⟩ = some (.int .i64 x5) := hX.out.1.cell 5
    have yy6 : X.cell? ⟨w.heap.size, 6, none⟩ = some (.int .i64 y0) := hX.out.1.cell 6
    have yy7 : X.cell? ⟨w.heap.size, 7, none⟩ = some (.string y1) := hX.out.1.cell 7
    have yy8 : X.cell? ⟨w.heap.size, 8, none⟩ = some (.string y2) := hX.out.1.cell 8
    have yy9 : X.cell? ⟨w.heap.size, 9, none⟩ = some (.int .i64 y3) := hX.out.1.cell 9
    have yy10 : X.cell? ⟨w.heap.size, 10, none⟩ = some (.slice b4 s4.length q4) := hX.out.1.cell 10
    have yy11 : X.cell? ⟨w.heap.size, 11, none⟩ = some (.int .i64 y5) := hX.out.1.cell 11
    first | (go_simp; done) | (go_simp; with_reducible rfl)
  try simp only [Act.put, List.getElem_toArray, List.getElem_cons_succ, List.getElem_cons_zero, List.setIfInBounds_toArray, List.set_cons_zero, List.set_cons_succ]
  refine wpAnyH_ready (rs := [2]) (by kernel_rfl) (by simp) ?_
  refine AllReadyH.cons rfl (fun K hK => ?_) AllReadyH.nil
  go_simp
  go_wp2_with (go_at_call 7; refine (TT.out X0 hHeld.out.2.2.2.2.2.2.1).mono ?_; rintro e X1 ⟨v5, u5, f5, g5, rfl, hd, o1, o2, hb⟩; obtain ⟨ta, tk, rfl⟩ := rows_form (layIntS.read o1); obtain ⟨sa, sk, rfl⟩ := rows_form (layIntS.read o2); have hS := qv _ _ hHeld hb; have R1 := Lib.hid (layIntS.read o1); have R2 := Lib.hid (layIntS.read o2); clear hb o1 o2 g5 hd f5)
  refine hK.out _ _ hS (fun hHeld => ?_)
  clear hK K hS
  try simp only [Act.put, List.getElem_toArray, List.getElem_cons_succ, List.getElem_cons_zero, List.setIfInBounds_toArray, List.set_cons_zero, List.set_cons_succ]
  refine wpAnyH_ready (rs := [3]) (by kernel_rfl) (by simp) ?_
  refine AllReadyH.cons rfl (fun K hK => ?_) AllReadyH.nil
  have KE := Lib.hid (eqSlots_same x0 x1 x2 x3 _ r4 x5 y0 y1 y2 y3 _ s4 y5 _ _ X1 hHeld.out.2.2.2.1.rd1 hHeld.out.2.2.2.1.rd2 R1.out R2.out (by omega) (by omega))
  go_simp
  go_wp2_with (go_at_call 10; refine (KE.out).mono ?_; rintro e X2 ⟨rfl, hb⟩; have hS := qv _ _ hHeld hb; clear hb)
  refine hK.out _ _ hS (fun hHeld => ?_)
  clear hK K hS KE R1 R2
  try simp only [Act.put, List.getElem_toArray, List.getElem_cons_succ, List.getElem_cons_zero, List.setIfInBounds_toArray, List.set_cons_zero, List.set_cons_succ]
  refine wpAnyH_take (i := 4) (v := ?_) rfl (by kernel_rfl) (by kernel_rfl) (by kernel_rfl) (fun _ _ _ h => h) (Or.inl ⟨by kernel_rfl, ?_⟩) hHeld ?_
  rotate_left
  · intro X hX
    first | (go_simp; done) | (go_simp; with_reducible rfl)
  try simp only [Act.put, List.getElem_toArray, List.getElem_cons_succ, List.getElem_cons_zero, List.setIfInBounds_toArray, List.set_cons_zero, List.set_cons_succ]
  refine wpAnyH_done (by kernel_rfl) ?_ _
  have zX2 : Y10.heap.size ≤ X2.heap.size := hHeld.out.2.2.2.2.2.2.2.size
  have A0 := Lib.hid (hHeld.out.1)
  have P0 := Lib.hid (hHeld.out.2.1)
  have U := Lib.hid (hHeld.out.2.2.1)
  have VV := Lib.hid (hHeld.out.2.2.2.1)
  have PX := Lib.hid (hHeld.out.2.2.2.2.1)
  have GG := Lib.hid (hHeld.out.2.2.2.2.2.1)
  have B0 := Lib.hid (hHeld.out.2.2.2.2.2.2.1)
  clear hHeld qv
  generalize X2 = Y11 at *
  have qv : ∀ X Y, (Hid (VarA w.heap.size LSsT #[.int .i64 x0, .string x1, .string x2, .int .i64 x3, .slice a4 r4.length p4, .int .i64 x5, .int .i64 y0, .string y1, .string y2, .int .i64 y3, .slice b4 s4.length q4, .int .i64 y5] X ∧ VarA (w.heap.size + 1) LPkT #[.int .i64 op, .int .i64 key, .int .i64 fr, .int .i64 dst, .int .i64 num, .slice pka acks.length pkc, .string body] X ∧ SR Y2.heap.size Y3.heap.size gU #[.int .i64 x0, .string x1, .string x2, .int .i64 x3, .slice ua r5.length uk, .int .i64 x5, .int .i64 y0, .string y1, .string y2, .int .i64 y3, .slice ua' s5.length uk', .int .i64 y5] (.slice ua r5.length uk) (.slice ua' s5.length uk') r5 s5 X ∧ SO Y3.heap.size Y4.heap.size Y4.heap.size #[.int .i64 x0, .string x1, .string x2, .int .i64 x3, .slice xa r4.length xk, .int .i64 x5, .int .i64 y0, .string y1, .string y2, .int .i64 y3, .slice xa' s4.length xk', .int .i64 y5] (.slice xa r4.length xk) (.slice xa' s4.length xk') r4 s4 X ∧ PO Y5.heap.size Y6.heap.size Y6.heap.size op key fr dst num (.slice pa acks.length pk) acks body X ∧ SO Y7.heap.size Y8.heap.size Y8.heap.size #[.int .i64 x0, .string x1, .string x2, .int .i64 x3, .slice ga r5.length gk, .int .i64 x5, .int .i64 y0, .string y1, .string y2, .int .i64 y3, .slice ga' s5.length gk', .int .i64 y5] (.slice ga r5.length gk) (.slice ga' s5.length gk') r5 s5 X ∧ Below w.heap.size w X ∧ Below Y11.heap.size Y11 X)) → Below X.heap.size X Y → (Hid (VarA w.heap.size LSsT #[.int .i64 x0, .string x1, .string x2, .int .i64 x3, .slice a4 r4.length p4, .int .i64 x5, .int .i64 y0, .string y1, .string y2, .int .i64 y3, .slice b4 s4.length q4, .int .i64 y5] Y ∧ VarA (w.heap.size + 1) LPkT #[.int .i64 op, .int .i64 key, .int .i64 fr, .int .i64 dst, .int .i64 num, .slice pka acks.length pkc, .string body] Y ∧ SR Y2.heap.size Y3.heap.size gU #[.int .i64 x0, .string x1, .string x2, .int .i64 x3, .slice ua r5.length uk, .int .i64 x5, .int .i64 y0, .string y1, .string y2, .int .i64 y3, .slice ua' s5.length uk', .int .i64 y5] (.slice ua r5.length uk) (.slice ua' s5.length uk') r5 s5 Y ∧ SO Y3.heap.size Y4.heap.size Y4.heap.size #[.int .i64 x0, .string x1, .string x2, .int .i64 x3, .slice xa r4.length xk, .int .i64 x5, .int .i64 y0, .string y1, .string y2, .int .i64 y3, .slice xa' s4.length xk', .int .i64 y5] (.slice xa r4.length xk) (.slice xa' s4.length xk') r4 s4 Y ∧ PO Y5.heap.size Y6.heap.size Y6.heap.size op key fr dst num (.slice pa acks.length pk) acks body Y ∧ SO Y7.heap.size Y8.heap.size Y8.heap.size #[.int .i64 x0, .string x1, .string x2, .int .i64 x3, .slice ga r5.length gk, .int .i64 x5, .int .i64 y0, .string y1, .string y2, .int .i64 y3, .slice ga' s5.length gk', .int .i64 y5] (.slice ga r5.length gk) (.slice ga' s5.length gk') r5 s5 Y ∧ Below w.heap.size w Y ∧ Below Y11.heap.size Y11 Y)) := fun X Y h hb => Lib.hid ⟨h.out.1.next hb, h.out.2.1.next hb, h.out.2.2.1.next hb, h.out.2.2.2.1.next hb, h.out.2.2.2.2.1.next hb, h.out.2.2.2.2.2.1.next hb, h.out.2.2.2.2.2.2.1.trans (hb.mono h.out.2.2.2.2.2.2.1.size), h.out.2.2.2.2.2.2.2.trans (hb.mono h.out.2.2.2.2.2.2.2.size)⟩
  have hdr : Below Y11.heap.size Y11 Y11.drew := (Below.refl _ _).drew
  have E0 : Hid (VarA w.heap.size LSsT #[.int .i64 x0, .string x1, .string x2, .int .i64 x3, .slice a4 r4.length p4, .int .i64 x5, .int .i64 y0, .string y1, .string y2, .int .i64 y3, .slice b4 s4.length q4, .int .i64 y5] Y11.drew ∧ VarA (w.heap.size + 1) LPkT #[.int .i64 op, .int .i64 key, .int .i64 fr, .int .i64 dst, .int .i64 num, .slice pka acks.length pkc, .string body] Y11.drew ∧ SR Y2.heap.size Y3.heap.size gU #[.int .i64 x0, .string x1, .string x2, .int .i64 x3, .slice ua r5.length uk, .int .i64 x5, .int .i64 y0, .string y1, .string y2, .int .i64 y3, .slice ua' s5.length uk', .int .i64 y5] (.slice ua r5.length uk) (.slice ua' s5.length uk') r5 s5 Y11.drew ∧ SO Y3.heap.size Y4.heap.size Y4.heap.size #[.int .i64 x0, .string x1, .string x2, .int .i64 x3, .slice xa r4.length xk, .int .i64 x5, .int .i64 y0, .string y1, .string y2, .int .i64 y3, .slice xa' s4.length xk', .int .i64 y5] (.slice xa r4.length xk) (.slice xa' s4.length xk') r4 s4 Y11.drew ∧ PO Y5.heap.size Y6.heap.size Y6.heap.size op key fr dst num (.slice pa acks.length pk) acks body Y11.drew ∧ SO Y7.heap.size Y8.heap.size Y8.heap.size #[.int .i64 x0, .string x1, .string x2, .int .i64 x3, .slice ga r5.length gk, .int .i64 x5, .int .i64 y0, .string y1, .string y2, .int .i64 y3, .slice ga' s5.length gk', .int .i64 y5] (.slice ga r5.length gk) (.slice ga' s5.length gk') r5 s5 Y11.drew ∧ Below w.heap.size w Y11.drew ∧ Below Y11.heap.size Y11 Y11.drew) := qv _ _ (Lib.hid ⟨A0.out, P0.out, U.out, VV.out, PX.out, GG.out, B0.out, Below.refl _ _⟩) hdr
  clear hdr A0 P0 B0 U VV PX GG
  go_wp2_with fail
  refine wp_region_held_drew (S := fun X => Hid (VarA w.heap.size LSsT #[.int .i64 x0, .string x1, .string x2, .int .i64 x3, .slice a4 r4.length p4, .int .i64 x5, .int .i64 y0, .string y1, .string y2, .int .i64 y3, .slice b4 s4.length q4, .int .i64 y5] X ∧ VarA (w.heap.size + 1) LPkT #[.int .i64 op, .int .i64 key, .int .i64 fr, .int .i64 dst, .int .i64 num, .slice pka acks.length pkc, .string body] X ∧ SR Y2.heap.size Y3.heap.size gU #[.int .i64 x0, .string x1, .string x2, .int .i64 x3, .slice ua r5.length uk, .int .i64 x5, .int .i64 y0, .string y1, .string y2, .int .i64 y3, .slice ua' s5.length uk', .int .i64 y5] (.slice ua r5.length uk) (.slice ua' s5.length uk') r5 s5 X ∧ SO Y3.heap.size Y4.heap.size Y4.heap.size #[.int .i64 x0, .string x1, .string x2, .int .i64 x3, .slice xa r4.length xk, .int .i64 x5, .int .i64 y0, .string y1, .string y2, .int .i64 y3, .slice xa' s4.length xk', .int .i64 y5] (.slice xa r4.length xk) (.slice xa' s4.length xk') r4 s4 X ∧ PO Y5.heap.size Y6.heap.size Y6.heap.size op key fr dst num (.slice pa acks.length pk) acks body X ∧ SO Y7.heap.size Y8.heap.size Y8.heap.size #[.int .i64 x0, .string x1, .string x2, .int .i64 x3, .slice ga r5.length gk, .int .i64 x5, .int .i64 y0, .string y1, .string y2, .int .i64 y3, .slice ga' s5.length gk', .int .i64 y5] (.slice ga r5.length gk) (.slice ga' s5.length gk') r5 s5 X ∧ Below w.heap.size w X ∧ Below Y11.heap.size Y11 X)) (by kernel_rfl) E0 (fun hHeld => ?_)
  clear E0
  generalize Y11.drew = X0 at *
  refine wpAnyH_take (i := 0) (v := ?_) rfl (by kernel_rfl) (by kernel_rfl) (by kernel_rfl) (fun _ _ _ h => h) (Or.inl ⟨by kernel_rfl, ?_⟩) hHeld ?_
  rotate_left
  · intro X hX
    have yy0 : X.cell? ⟨Y6.heap.size, 0, none⟩ = some (.int .i64 op) := hX.out.2.2.2.2.1.var.cell 0
    have yy1 : X.cell? ⟨Y6.heap.size, 1, none⟩ = some (.int .i64 key) := hX.out.2.2.2.2.1.var.cell 1
    have yy2 : X.cell? ⟨Y6.heap.size, 2, none⟩ = some (.int .i64 fr) := hX.out.2.2.2.2.1.var.cell 2
    have yy3 : X.cell? ⟨Y6.heap.size, 3, none⟩ = some (.int .i64 dst) := hX.out.2.2.2.2.1.var.cell 3
    have yy4 : X.cell? ⟨Y6.heap.size, 4, none⟩ = some (.int .i64 num) := hX.out.2.2.2.2.1.var.cell 4
    have yy5 : X.cell? ⟨Y6.heap.size, 5, none⟩ = some (.slice pa acks.length pk) := hX.out.2.2.2.2.1.var.cell 5
    have yy6 : X.cell? ⟨Y6.heap.size, 6, none⟩ = some (.string body) := hX.out.2.2.2.2.1.var.cell 6
    first | (go_simp; done) | (go_simp; with_reducible rfl)
  try simp only [Act.put, List.getElem_toArray, List.getElem_cons_zero, List.setIfInBounds_toArray, List.set_cons_zero, List.set_cons_succ]
  refine wpAnyH_take (i := 1) (v := ?_) rfl (by kernel_rfl) (by kernel_rfl) (by kernel_rfl) (fun _ _ _ h => h) (Or.inl ⟨by kernel_rfl, ?_⟩) hHeld ?_
  rotate_left
  · intro X hX
    have yy0 : X.cell? ⟨w.heap.size + 1, 0, none⟩ = some (.int .i64 op) := hX.out.2.1.cell 0
    have yy1 : X.cell? ⟨w.heap.size + 1, 1, none⟩ = some (.int .i64 key) := hX.out.2.1.cell 1
    have yy2 : X.cell? ⟨w.heap.size + 1, 2, none⟩ = some (.int .i64 fr) := hX.out.2.1.cell 2
    have yy3 : X.cell? ⟨w.heap.size + 1, 3, none⟩ = some (.int .i64 dst) := hX.out.2.1.cell 3
    have yy4 : X.cell? ⟨w.heap.size + 1, 4, none⟩ = some (.int .i64 num) := hX.out.2.1.cell 4
    have yy5 : X.cell? ⟨w.heap.size + 1, 5, none⟩ = some (.slice pka acks.length pkc) := hX.out.2.1.cell 5
    have yy6 : X.cell? ⟨w.heap.size + 1, 6, none⟩ = some (.string body) := hX.out.2.1.cell 6
    first | (go_simp; done) | (go_simp; with_reducible rfl)
  try simp only [Act.put, List.getElem_toArray, List.getElem_cons_succ, List.getElem_cons_zero, List.setIfInBounds_toArray, List.set_cons_zero, List.set_cons_succ]
  refine wpAnyH_ready (rs := [2]) (by kernel_rfl) (by simp) ?_
  refine AllReadyH.cons rfl (fun K hK => ?_) AllReadyH.nil
  go_simp
  go_wp2_with (go_at_call 8; refine (TP.out X0 hHeld.out.2.2.2.2.2.2.1).mono ?_; rintro e X1 ⟨ma, mk, f5, rfl, hd, o1, hb⟩; have hS := qv _ _ hHeld hb; have R1 := Lib.hid (layIntS.read o1); clear hb o1 hd f5)
  refine hK.out _ _ hS (fun hHeld => ?_)
  clear hK K hS
  try simp only [Act.put, List.getElem_toArray, List.getElem_cons_succ, List.getElem_cons_zero, List.setIfInBounds_toArray, List.set_cons_zero, List.set_cons_succ]
  refine wpAnyH_ready (rs := [3]) (by kernel_rfl) (by simp) ?_
  refine AllReadyH.cons rfl (fun K hK => ?_) AllReadyH.nil
  have KE := Lib.hid (eqPacket_same op key fr dst num _ _ acks body (by omega) X1 hHeld.out.2.2.2.2.1.rd R1.out)
  go_simp
  go_wp2_with (go_at_call 11; refine (KE.out).mono ?_; rintro e X2 ⟨rfl, hb⟩; have hS := qv _ _ hHeld hb; clear hb)
  refine hK.out _ _ hS (fun hHeld => ?_)
  clear hK K hS KE R1
  try simp only [Act.put, List.getElem_toArray, List.getElem_cons_succ, List.getElem_cons_zero, List.setIfInBounds_toArray, List.set_cons_zero, List.set_cons_succ]
  refine wpAnyH_take (i := 4) (v := ?_) rfl (by kernel_rfl) (by kernel_rfl) (by kernel_rfl) (fun _ _ _ h => h) (Or.inl ⟨by kernel_rfl, ?_⟩) hHeld ?_
  rotate_left
  · intro X hX
    first | (go_simp; done) | (go_simp; with_reducible rfl)
  try simp only [Act.put, List.getElem_toArray, List.getElem_cons_succ, List.getElem_cons_zero, List.setIfInBounds_toArray, List.set_cons_zero, List.set_cons_succ]
  refine wpAnyH_done (by kernel_rfl) ?_ _
  have zX2 : Y11.heap.size ≤ X2.heap.size := hHeld.out.2.2.2.2.2.2.2.size
  have A0 := Lib.hid (hHeld.out.1)
  have P0 := Lib.hid (hHeld.out.2.1)
  have U := Lib.hid (hHeld.out.2.2.1)
  have VV := Lib.hid (hHeld.out.2.2.2.1)
  have PX := Lib.hid (hHeld.out.2.2.2.2.1)
  have GG := Lib.hid (hHeld.out.2.2.2.2.2.1)
  have B0 := Lib.hid (hHeld.out.2.2.2.2.2.2.1)
  clear hHeld qv
  generalize X2 = Y12 at *
  have ghVV := VV.out.gh
  have ghPX := PX.out.gh
  have ghGG := GG.out.gh
  have glU := U.out.gl
  have c0 : Y12.cell? ⟨Y4.heap.size, 0, none⟩ = some (.int .i64 x0) := VV.out.var.cell 0
  have c1 : Y12.cell? ⟨Y4.heap.size, 1, none⟩ = some (.string x1) := VV.out.var.cell 1
  have c2 : Y12.cell? ⟨Y4.heap.size, 2, none⟩ = some (.string x2) := VV.out.var.cell 2
  have c3 : Y12.cell? ⟨Y4.heap.size, 3, none⟩ = some (.int .i64 x3) := VV.out.var.cell 3
  have c4 : Y12.cell? ⟨Y4.heap.size, 4, none⟩ = some (.slice xa r4.length xk) := VV.out.var.cell 4
  have c5 : Y12.cell? ⟨Y4.heap.size, 5, none⟩ = some (.int .i64 x5) := VV.out.var.cell 5
  have c6 : Y12.cell? ⟨Y4.heap.size, 6, none⟩ = some (.int .i64 y0) := VV.out.var.cell 6
  have c7 : Y12.cell? ⟨Y4.heap.size, 7, none⟩ = some (.string y1) := VV.out.var.cell 7
  have c8 : Y12.cell? ⟨Y4.heap.size, 8, none⟩ = some (.string y2) := VV.out.var.cell 8
  have c9 : Y12.cell? ⟨Y4.heap.size, 9, none⟩ = some (.int .i64 y3) := VV.out.var.cell 9
  have c10 : Y12.cell? ⟨Y4.heap.size, 10, none⟩ = some (.slice xa' s4.length xk') := VV.out.var.cell 10
  have c11 : Y12.cell? ⟨Y4.heap.size, 11, none⟩ = some (.int .i64 y5) := VV.out.var.cell 11
  have K := Lib.hid (VV.out.mark (by omega) (by omega))
  go_wp2_with fail
  refine (K.out).mono ?_
  rintro e Y13 ⟨rfl, hm, hc⟩
  have zY13 : Y12.heap.size ≤ Y13.heap.size := hc.size
  replace U := Lib.hid (U.out.away hc (by omega))
  replace PX := Lib.hid (PX.out.away hc (by omega) (by omega))
  replace GG := Lib.hid (GG.out.away hc (by omega) (by omega))
  replace A0 := Lib.hid (hc.var A0.out (by omega))
  replace P0 := Lib.hid (hc.var P0.out (by omega))
  replace B0 := Lib.hid (hc.below B0.out (by omega))
  clear hm hc K VV c0 c1 c2 c3 c4 c5 c6 c7 c8 c9 c10 c11
  obtain ⟨mx, HMX⟩ : ∃ mx : Int, Hid (mx = 1 + 1 * (r4.length : Int) + 1 * (s4.length : Int)) := ⟨_, Lib.hid rfl⟩
  have hmx : 0 ≤ mx ∧ mx ≤ 1000000000 := by have := HMX.out; omega
  rw [← HMX.out]
  have d0 : Y13.cell? ⟨Y6.heap.size, 0, none⟩ = some (.int .i64 op) := PX.out.var.cell 0
  have d1 : Y13.cell? ⟨Y6.heap.size, 1, none⟩ = some (.int .i64 key) := PX.out.var.cell 1
  have d2 : Y13.cell? ⟨Y6.heap.size, 2, none⟩ = some (.int .i64 fr) := PX.out.var.cell 2
  have d3 : Y13.cell? ⟨Y6.heap.size, 3, none⟩ = some (.int .i64 dst) := PX.out.var.cell 3
  have d4 : Y13.cell? ⟨Y6.heap.size, 4, none⟩ = some (.int .i64 num) := PX.out.var.cell 4
  have d5 : Y13.cell? ⟨Y6.heap.size, 5, none⟩ = some (.slice pa acks.length pk) := PX.out.var.cell 5
  have d6 : Y13.cell? ⟨Y6.heap.size, 6, none⟩ = some (.string body) := PX.out.var.cell 6
  have K := Lib.hid (PX.out.mark mx (by omega) (by omega) (by omega))
  go_wp2_with fail
  refine (K.out).mono ?_
  rintro e Y14 ⟨rfl, hc⟩
  have zY14 : Y13.heap.size ≤ Y14.heap.size := hc.size
  replace U := Lib.hid (U.out.away hc (by omega))
  replace GG := Lib.hid (GG.out.away hc (by omega) (by omega))
  replace A0 := Lib.hid (hc.var A0.out (by omega))
  replace P0 := Lib.hid (hc.var P0.out (by omega))
  replace B0 := Lib.hid (hc.below B0.out (by omega))
  clear hc K PX d0 d1 d2 d3 d4 d5 d6
  have hk1 : ¬ (mx + (acks.length : Int) < 0) := by omega
  generalize mx + (acks.length : Int) = my at *
  have c0 : Y14.cell? ⟨Y8.heap.size, 0, none⟩ = some (.int .i64 x0) := GG.out.var.cell 0
  have c1 : Y14.cell? ⟨Y8.heap.size, 1, none⟩ = some (.string x1) := GG.out.var.cell 1
  have c2 : Y14.cell? ⟨Y8.heap.size, 2, none⟩ = some (.string x2) := GG.out.var.cell 2
  have c3 : Y14.cell? ⟨Y8.heap.size, 3, none⟩ = some (.int .i64 x3) := GG.out.var.cell 3
  have c4 : Y14.cell? ⟨Y8.heap.size, 4, none⟩ = some (.slice ga r5.length gk) := GG.out.var.cell 4
  have c5 : Y14.cell? ⟨Y8.heap.size, 5, none⟩ = some (.int .i64 x5) := GG.out.var.cell 5
  have c6 : Y14.cell? ⟨Y8.heap.size, 6, none⟩ = some (.int .i64 y0) := GG.out.var.cell 6
  have c7 : Y14.cell? ⟨Y8.heap.size, 7, none⟩ = some (.string y1) := GG.out.var.cell 7
  have c8 : Y14.cell? ⟨Y8.heap.size, 8, none⟩ = some (.string y2) := GG.out.var.cell 8
  have c9 : Y14.cell? ⟨Y8.heap.size, 9, none⟩ = some (.int .i64 y3) := GG.out.var.cell 9
  have c10 : Y14.cell? ⟨Y8.heap.size, 10, none⟩ = some (.slice ga' s5.length gk') := GG.out.var.cell 10
  have c11 : Y14.cell? ⟨Y8.heap.size, 11, none⟩ = some (.int .i64 y5) := GG.out.var.cell 11
  have d0 : Y14.cell? ⟨gU, 0, none⟩ = some (.int .i64 x0) := U.out.var.cell 0
  have d1 : Y14.cell? ⟨gU, 1, none⟩ = some (.string x1) := U.out.var.cell 1
  have d2 : Y14.cell? ⟨gU, 2, none⟩ = some (.string x2) := U.out.var.cell 2
  have d3 : Y14.cell? ⟨gU, 3, none⟩ = some (.int .i64 x3) := U.out.var.cell 3
  have d4 : Y14.cell? ⟨gU, 4, none⟩ = some (.slice ua r5.length uk) := U.out.var.cell 4
  have d5 : Y14.cell? ⟨gU, 5, none⟩ = some (.int .i64 x5) := U.out.var.cell 5
  have d6 : Y14.cell? ⟨gU, 6, none⟩ = some (.int .i64 y0) := U.out.var.cell 6
  have d7 : Y14.cell? ⟨gU, 7, none⟩ = some (.string y1) := U.out.var.cell 7
  have d8 : Y14.cell? ⟨gU, 8, none⟩ = some (.string y2) := U.out.var.cell 8
  have d9 : Y14.cell? ⟨gU, 9, none⟩ = some (.int .i64 y3) := U.out.var.cell 9
  have d10 : Y14.cell? ⟨gU, 10, none⟩ = some (.slice ua' s5.length uk') := U.out.var.cell 10
  have d11 : Y14.cell? ⟨gU, 11, none⟩ = some (.int .i64 y5) := U.out.var.cell 11
  have K := Lib.hid (eqSlots_same x0 x1 x2 x3 _ r5 x5 y0 y1 y2 y3 _ s5 y5 _ _ Y14 GG.out.rd1 GG.out.rd2 U.out.rd1 U.out.rd2 (by omega) (by omega))
  go_wp2_with fail
  refine (K.out).mono ?_
  rintro e Y15 ⟨rfl, hb⟩
  have zY15 : Y14.heap.size ≤ Y15.heap.size := hb.size
  replace A0 := Lib.hid (A0.out.next hb)
  replace P0 := Lib.hid (P0.out.next hb)
  replace B0 := Lib.hid (B0.out.trans (hb.mono B0.out.size))
  replace U := Lib.hid (U.out.next hb)
  replace GG := Lib.hid (GG.out.next hb)
  clear hb K c0 c1 c2 c3 c4 c5 c6 c7 c8 c9 c10 c11 d0 d1 d2 d3 d4 d5 d6 d7 d8 d9 d10 d11
  have c0 : Y15.cell? ⟨Y8.heap.size, 0, none⟩ = some (.int .i64 x0) := GG.out.var.cell 0
  have c1 : Y15.cell? ⟨Y8.heap.size, 1, none⟩ = some (.string x1) := GG.out.var.cell 1
  have c2 : Y15.cell? ⟨Y8.heap.size, 2, none⟩ = some (.string x2) := GG.out.var.cell 2
  have c3 : Y15.cell? ⟨Y8.heap.size, 3, none⟩ = some (.int .i64 x3) := GG.out.var.cell 3
  have c4 : Y15.cell? ⟨Y8.heap.size, 4, none⟩ = some (.slice ga r5.length gk) := GG.out.var.cell 4
  have c5 : Y15.cell? ⟨Y8.heap.size, 5, none⟩ = some (.int .i64 x5) := GG.out.var.cell 5
  have c6 : Y15.cell? ⟨Y8.heap.size, 6, none⟩ = some (.int .i64 y0) := GG.out.var.cell 6
  have c7 : Y15.cell? ⟨Y8.heap.size, 7, none⟩ = some (.string y1) := GG.out.var.cell 7
  have c8 : Y15.cell? ⟨Y8.heap.size, 8, none⟩ = some (.string y2) := GG.out.var.cell 8
  have c9 : Y15.cell? ⟨Y8.heap.size, 9, none⟩ = some (.int .i64 y3) := GG.out.var.cell 9
  have c10 : Y15.cell? ⟨Y8.heap.size, 10, none⟩ = some (.slice ga' s5.length gk') := GG.out.var.cell 10
  have c11 : Y15.cell? ⟨Y8.heap.size, 11, none⟩ = some (.int .i64 y5) := GG.out.var.cell 11
  have K := Lib.hid (GG.out.mark (by omega) (by omega))
  go_wp2_with fail
  refine (K.out).mono ?_
  rintro e Y16 ⟨rfl, hm, hc⟩
  have zY16 : Y15.heap.size ≤ Y16.heap.size := hc.size
  replace U := Lib.hid (U.out.away hc (by omega))
  replace A0 := Lib.hid (hc.var A0.out (by omega))
  replace P0 := Lib.hid (hc.var P0.out (by omega))
  replace B0 := Lib.hid (hc.below B0.out (by omega))
  replace GG := Lib.hid hm
  clear hm hc K c0 c1 c2 c3 c4 c5 c6 c7 c8 c9 c10 c11
  obtain ⟨mg, HMG⟩ : ∃ mg : Int, Hid (mg = 1 + 1 * (r5.length : Int) + 1 * (s5.length : Int)) := ⟨_, Lib.hid rfl⟩
  have hk2 : ¬ (mg < 0) := by have := HMG.out; omega
  rw [← HMG.out]
  have c0 : Y16.cell? ⟨Y8.heap.size, 0, none⟩ = some (.int .i64 x0) := GG.out.var.cell 0
  have c1 : Y16.cell? ⟨Y8.heap.size, 1, none⟩ = some (.string x1) := GG.out.var.cell 1
  have c2 : Y16.cell? ⟨Y8.heap.size, 2, none⟩ = some (.string x2) := GG.out.var.cell 2
  have c3 : Y16.cell? ⟨Y8.heap.size, 3, none⟩ = some (.int .i64 x3) := GG.out.var.cell 3
  have c4 : Y16.cell? ⟨Y8.heap.size, 4, none⟩ = some (.slice ga r5.length gk) := GG.out.var.cell 4
  have c5 : Y16.cell? ⟨Y8.heap.size, 5, none⟩ = some (.int .i64 x5) := GG.out.var.cell 5
  have c6 : Y16.cell? ⟨Y8.heap.size, 6, none⟩ = some (.int .i64 y0) := GG.out.var.cell 6
  have c7 : Y16.cell? ⟨Y8.heap.size, 7, none⟩ = some (.string y1) := GG.out.var.cell 7
  have c8 : Y16.cell? ⟨Y8.heap.size, 8, none⟩ = some (.string y2) := GG.out.var.cell 8
  have c9 : Y16.cell? ⟨Y8.heap.size, 9, none⟩ = some (.int .i64 y3) := GG.out.var.cell 9
  have c10 : Y16.cell? ⟨Y8.heap.size, 10, none⟩ = some (.slice ga' s5.length gk') := GG.out.var.cell 10
  have c11 : Y16.cell? ⟨Y8.heap.size, 11, none⟩ = some (.int .i64 y5) := GG.out.var.cell 11
  have K := Lib.hid (GG.out.held (by omega) (by omega))
  rw [← HMG.out] at K
  go_wp2_with fail
  refine (K.out).mono ?_
  rintro e Y17 ⟨rfl, hb⟩
  have zY17 : Y16.heap.size ≤ Y17.heap.size := hb.size
  replace A0 := Lib.hid (A0.out.next hb)
  replace P0 := Lib.hid (P0.out.next hb)
  replace B0 := Lib.hid (B0.out.trans (hb.mono B0.out.size))
  replace U := Lib.hid (U.out.next hb)
  replace GG := Lib.hid (GG.out.next hb)
  clear hb K c0 c1 c2 c3 c4 c5 c6 c7 c8 c9 c10 c11
  have qv : ∀ X Y, (Hid (VarA w.heap.size LSsT #[.int .i64 x0, .string x1, .string x2, .int .i64 x3, .slice a4 r4.length p4, .int .i64 x5, .int .i64 y0, .string y1, .string y2, .int .i64 y3, .slice b4 s4.length q4, .int .i64 y5] X ∧ VarA (w.heap.size + 1) LPkT #[.int .i64 op, .int .i64 key, .int .i64 fr, .int .i64 dst, .int .i64 num, .slice pka acks.length pkc, .string body] X ∧ SR Y2.heap.size Y3.heap.size gU #[.int .i64 x0, .string x1, .string x2, .int .i64 x3, .slice ua r5.length uk, .int .i64 x5, .int .i64 y0, .string y1, .string y2, .int .i64 y3, .slice ua' s5.length uk', .int .i64 y5] (.slice ua r5.length uk) (.slice ua' s5.length uk') r5 s5 X ∧ SO Y7.heap.size Y8.heap.size Y8.heap.size #[.int .i64 x0, .string x1, .string x2, .int .i64 x3, .slice ga r5.length gk, .int .i64 x5, .int .i64 y0, .string y1, .string y2, .int .i64 y3, .slice ga' s5.length gk', .int .i64 y5] (.slice ga r5.length gk) (.slice ga' s5.length gk') (layIntS.mark 1 r5).1 (layIntS.mark (1 + 1 * (r5.length : Int)) s5).1 X ∧ Below w.heap.size w X ∧ Below Y17.heap.size Y17 X)) → Below X.heap.size X Y → (Hid (VarA w.heap.size LSsT #[.int .i64 x0, .string x1, .string x2, .int .i64 x3, .slice a4 r4.length p4, .int .i64 x5, .int .i64 y0, .string y1, .string y2, .int .i64 y3, .slice b4 s4.length q4, .int .i64 y5] Y ∧ VarA (w.heap.size + 1) LPkT #[.int .i64 op, .int .i64 key, .int .i64 fr, .int .i64 dst, .int .i64 num, .slice pka acks.length pkc, .string body] Y ∧ SR Y2.heap.size Y3.heap.size gU #[.int .i64 x0, .string x1, .string x2, .int .i64 x3, .slice ua r5.length uk, .int .i64 x5, .int .i64 y0, .string y1, .string y2, .int .i64 y3, .slice ua' s5.length uk', .int .i64 y5] (.slice ua r5.length uk) (.slice ua' s5.length uk') r5 s5 Y ∧ SO Y7.heap.size Y8.heap.size Y8.heap.size #[.int .i64 x0, .string x1, .string x2, .int .i64 x3, .slice ga r5.length gk, .int .i64 x5, .int .i64 y0, .string y1, .string y2, .int .i64 y3, .slice ga' s5.length gk', .int .i64 y5] (.slice ga r5.length gk) (.slice ga' s5.length gk') (layIntS.mark 1 r5).1 (layIntS.mark (1 + 1 * (r5.length : Int)) s5).1 Y ∧ Below w.heap.size w Y ∧ Below Y17.heap.size Y17 Y)) := fun X Y h hb => Lib.hid ⟨h.out.1.next hb, h.out.2.1.next hb, h.out.2.2.1.next hb, h.out.2.2.2.1.next hb, h.out.2.2.2.2.1.trans (hb.mono h.out.2.2.2.2.1.size), h.out.2.2.2.2.2.trans (hb.mono h.out.2.2.2.2.2.size)⟩
  have hdr : Below Y17.heap.size Y17 Y17.drew := (Below.refl _ _).drew
  have E0 : Hid (VarA w.heap.size LSsT #[.int .i64 x0, .string x1, .string x2, .int .i64 x3, .slice a4 r4.length p4, .int .i64 x5, .int .i64 y0, .string y1, .string y2, .int .i64 y3, .slice b4 s4.length q4, .int .i64 y5] Y17.drew ∧ VarA (w.heap.size + 1) LPkT #[.int .i64 op, .int .i64 key, .int .i64 fr, .int .i64 dst, .int .i64 num, .slice pka acks.length pkc, .string body] Y17.drew ∧ SR Y2.heap.size Y3.heap.size gU #[.int .i64 x0, .string x1, .string x2, .int .i64 x3, .slice ua r5.length uk, .int .i64 x5, .int .i64 y0, .string y1, .string y2, .int .i64 y3, .slice ua' s5.length uk', .int .i64 y5] (.slice ua r5.length uk) (.slice ua' s5.length uk') r5 s5 Y17.drew ∧ SO Y7.heap.size Y8.heap.size Y8.heap.size #[.int .i64 x0, .string x1, .string x2, .int .i64 x3, .slice ga r5.length gk, .int .i64 x5, .int .i64 y0, .string y1, .string y2, .int .i64 y3, .slice ga' s5.length gk', .int .i64 y5] (.slice ga r5.length gk) (.slice ga' s5.length gk') (layIntS.mark 1 r5).1 (layIntS.mark (1 + 1 * (r5.length : Int)) s5).1 Y17.drew ∧ Below w.heap.size w Y17.drew ∧ Below Y17.heap.size Y17 Y17.drew) := qv _ _ (Lib.hid ⟨A0.out, P0.out, U.out, GG.out, B0.out, Below.refl _ _⟩) hdr
  clear hdr A0 P0 B0 U GG
  have putHH_ : ∀ (X : World) (G : Nat) (u0 u1 u2 u3 u4 u5 u6 u7 u8 u9 u10 u11 : Value), Y17.heap.size ≤ G → (Hid (VarA w.heap.size LSsT #[.int .i64 x0, .string x1, .string x2, .int .i64 x3, .slice a4 r4.length p4, .int .i64 x5, .int .i64 y0, .string y1, .string y2, .int .i64 y3, .slice b4 s4.length q4, .int .i64 y5] X ∧ VarA (w.heap.size + 1) LPkT #[.int .i64 op, .int .i64 key, .int .i64 fr, .int .i64 dst, .int .i64 num, .slice pka acks.length pkc, .string body] X ∧ SR Y2.heap.size Y3.heap.size gU #[.int .i64 x0, .string x1, .string x2, .int .i64 x3, .slice ua r5.length uk, .int .i64 x5, .int .i64 y0, .string y1, .string y2, .int .i64 y3, .slice ua' s5.length uk', .int .i64 y5] (.slice ua r5.length uk) (.slice ua' s5.length uk') r5 s5 X ∧ SO Y7.heap.size Y8.heap.size Y8.heap.size #[.int .i64 x0, .string x1, .string x2, .int .i64 x3, .slice ga r5.length gk, .int .i64 x5, .int .i64 y0, .string y1, .string y2, .int .i64 y3, .slice ga' s5.length gk', .int .i64 y5] (.slice ga r5.length gk) (.slice ga' s5.length gk') (layIntS.mark 1 r5).1 (layIntS.mark (1 + 1 * (r5.length : Int)) s5).1 X ∧ Below w.heap.size w X ∧ Below Y17.heap.size Y17 X)) → (Hid (VarA w.heap.size LSsT #[.int .i64 x0, .string x1, .string x2, .int .i64 x3, .slice a4 r4.length p4, .int .i64 x5, .int .i64 y0, .string y1, .string y2, .int .i64 y3, .slice b4 s4.length q4, .int .i64 y5] ((((((((((((X.setCell ⟨G, 0, none⟩ (u0)).setCell ⟨G, 1, none⟩ (u1)).setCell ⟨G, 2, none⟩ (u2)).setCell ⟨G, 3, none⟩ (u3)).setCell ⟨G, 4, none⟩ (u4)).setCell ⟨G, 5, none⟩ (u5)).setCell ⟨G, 6, none⟩ (u6)).setCell ⟨G, 7, none⟩ (u7)).setCell ⟨G, 8, none⟩ (u8)).setCell ⟨G, 9, none⟩ (u9)).setCell ⟨G, 10, none⟩ (u10)).setCell ⟨G, 11, none⟩ (u11)) ∧ VarA (w.heap.size + 1) LPkT #[.int .i64 op, .int .i64 key, .int .i64 fr, .int .i64 dst, .int .i64 num, .slice pka acks.length pkc, .string body] ((((((((((((X.setCell ⟨G, 0, none⟩ (u0)).setCell ⟨G, 1, none⟩ (u1)).setCell ⟨G, 2, none⟩ (u2)).setCell ⟨G, 3, none⟩ (u3)).setCell ⟨G, 4, none⟩ (u4)).setCell ⟨G, 5, none⟩ (u5)).setCell ⟨G, 6, none⟩ (u6)).setCell ⟨G, 7, none⟩ (u7)).setCell ⟨G, 8, none⟩ (u8)).setCell ⟨G, 9, none⟩ (u9)).setCell ⟨G, 10, none⟩ (u10)).setCell ⟨G, 11, none⟩ (u11)) ∧ SR Y2.heap.size Y3.heap.size gU #[.int .i64 x0, .string x1, .string x2, .int .i64 x3, .slice ua r5.length uk, .int .i64 x5, .int .i64 y0, .string y1, .string y2, .int .i64 y3, .slice ua' s5.length uk', .int .i64 y5] (.slice ua r5.length uk) (.slice ua' s5.length uk') r5 s5 ((((((((((((X.setCell ⟨G, 0, none⟩ (u0)).setCell ⟨G, 1, none⟩ (u1)).setCell ⟨G, 2, none⟩ (u2)).setCell ⟨G, 3, none⟩ (u3)).setCell ⟨G, 4, none⟩ (u4)).setCell ⟨G, 5, none⟩ (u5)).setCell ⟨G, 6, none⟩ (u6)).setCell ⟨G, 7, none⟩ (u7)).setCell ⟨G, 8, none⟩ (u8)).setCell ⟨G, 9, none⟩ (u9)).setCell ⟨G, 10, none⟩ (u10)).setCell ⟨G, 11, none⟩ (u11)) ∧ SO Y7.heap.size Y8.heap.size Y8.heap.size #[.int .i64 x0, .string x1, .string x2, .int .i64 x3, .slice ga r5.length gk, .int .i64 x5, .int .i64 y0, .string y1, .string y2, .int .i64 y3, .slice ga' s5.length gk', .int .i64 y5] (.slice ga r5.length gk) (.slice ga' s5.length gk') (layIntS.mark 1 r5).1 (layIntS.mark (1 + 1 * (r5.length : Int)) s5).1 ((((((((((((X.setCell ⟨G, 0, none⟩ (u0)).setCell ⟨G, 1, none⟩ (u1)).setCell ⟨G, 2, none⟩ (u2)).setCell ⟨G, 3, none⟩ (u3)).setCell ⟨G, 4, none⟩ (u4)).setCell ⟨G, 5, none⟩ (u5)).setCell ⟨G, 6, none⟩ (u6)).setCell ⟨G, 7, none⟩ (u7)).setCell ⟨G, 8, none⟩ (u8)).setCell ⟨G, 9, none⟩ (u9)).setCell ⟨G, 10, none⟩ (u10)).setCell ⟨G, 11, none⟩ (u11)) ∧ Below w.heap.size w ((((((((((((X.setCell ⟨G, 0, none⟩ (u0)).setCell ⟨G, 1, none⟩ (u1)).setCell ⟨G, 2, none⟩ (u2)).setCell ⟨G, 3, none⟩ (u3)).setCell ⟨G, 4, none⟩ (u4)).setCell ⟨G, 5, none⟩ (u5)).setCell ⟨G, 6, none⟩ (u6)).setCell ⟨G, 7, none⟩ (u7)).setCell ⟨G, 8, none⟩ (u8)).setCell ⟨G, 9, none⟩ (u9)).setCell ⟨G, 10, none⟩ (u10)).setCell ⟨G, 11, none⟩ (u11)) ∧ Below Y17.heap.size Y17 ((((((((((((X.setCell ⟨G, 0, none⟩ (u0)).setCell ⟨G, 1, none⟩ (u1)).setCell ⟨G, 2, none⟩ (u2)).setCell ⟨G, 3, none⟩ (u3)).setCell ⟨G, 4, none⟩ (u4)).setCell ⟨G, 5, none⟩ (u5)).setCell ⟨G, 6, none⟩ (u6)).setCell ⟨G, 7, none⟩ (u7)).setCell ⟨G, 8, none⟩ (u8)).setCell ⟨G, 9, none⟩ (u9)).setCell ⟨G, 10, none⟩ (u10)).setCell ⟨G, 11, none⟩ (u11)))) := fun X G u0 u1 u2 u3 u4 u5 u6 u7 u8 u9 u10 u11 hG h => by
    have ho : Only G X ((((((((((((X.setCell ⟨G, 0, none⟩ (u0)).setCell ⟨G, 1, none⟩ (u1)).setCell ⟨G, 2, none⟩ (u2)).setCell ⟨G, 3, none⟩ (u3)).setCell ⟨G, 4, none⟩ (u4)).setCell ⟨G, 5, none⟩ (u5)).setCell ⟨G, 6, none⟩ (u6)).setCell ⟨G, 7, none⟩ (u7)).setCell ⟨G, 8, none⟩ (u8)).setCell ⟨G, 9, none⟩ (u9)).setCell ⟨G, 10, none⟩ (u10)).setCell ⟨G, 11, none⟩ (u11)) := (putMain_only X G _ _ _ _ _ _).trans (putLame_only _ G _ _ _ _ _ _)
    have hsz := h.out.2.2.2.2.2.size
    have hci : ChgIn G (G + 1) X ((((((((((((X.setCell ⟨G, 0, none⟩ (u0)).setCell ⟨G, 1, none⟩ (u1)).setCell ⟨G, 2, none⟩ (u2)).setCell ⟨G, 3, none⟩ (u3)).setCell ⟨G, 4, none⟩ (u4)).setCell ⟨G, 5, none⟩ (u5)).setCell ⟨G, 6, none⟩ (u6)).setCell ⟨G, 7, none⟩ (u7)).setCell ⟨G, 8, none⟩ (u8)).setCell ⟨G, 9, none⟩ (u9)).setCell ⟨G, 10, none⟩ (u10)).setCell ⟨G, 11, none⟩ (u11)) := ⟨[G], fun a ha => (by rw [List.mem_singleton] at ha; omega), only_chg ho⟩
    exact Lib.hid ⟨h.out.1.only ho (by have := h.out.1.lt; omega), h.out.2.1.only ho (by have := h.out.2.1.lt; omega), h.out.2.2.1.away hci (by omega), h.out.2.2.2.1.away hci (by omega) (by omega), h.out.2.2.2.2.1.trans (ho.below (by have := h.out.2.2.2.2.1.size; omega) h.out.2.2.2.2.1.size), h.out.2.2.2.2.2.trans (ho.below hG h.out.2.2.2.2.2.size)⟩
  go_wp2_with fail
  go_cut [19, 20, 21] (fun z y x wx => ∃ (g : Nat) (ha : Option Addr) (hk : Nat) (ha' : Option Addr) (hk' : Nat), z = .pointer (some ⟨g, 0, none⟩) ∧ y = .string t ∧ x = .bool ok ∧ Hid (SR Y17.heap.size wx.heap.size g #[.int .i64 x0, .string x1, .string x2, .int .i64 x3, .slice ha r5.length hk, .int .i64 x5, .int .i64 y0, .string y1, .string y2, .int .i64 y3, .slice ha' s5.length hk', .int .i64 y5] (.slice ha r5.length hk) (.slice ha' s5.length hk') r5 s5 wx) ∧ (Hid (VarA w.heap.size LSsT #[.int .i64 x0, .string x1, .string x2, .int .i64 x3, .slice a4 r4.length p4, .int .i64 x5, .int .i64 y0, .string y1, .string y2, .int .i64 y3, .slice b4 s4.length q4, .int .i64 y5] wx ∧ VarA (w.heap.size + 1) LPkT #[.int .i64 op, .int .i64 key, .int .i64 fr, .int .i64 dst, .int .i64 num, .slice pka acks.length pkc, .string body] wx ∧ SR Y2.heap.size Y3.heap.size gU #[.int .i64 x0, .string x1, .string x2, .int .i64 x3, .slice ua r5.length uk, .int .i64 x5, .int .i64 y0, .string y1, .string y2, .int .i64 y3, .slice ua' s5.length uk', .int .i64 y5] (.slice ua r5.length uk) (.slice ua' s5.length uk') r5 s5 wx ∧ SO Y7.heap.size Y8.heap.size Y8.heap.size #[.int .i64 x0, .string x1, .string x2, .int .i64 x3, .slice ga r5.length gk, .int .i64 x5, .int .i64 y0, .string y1, .string y2, .int .i64 y3, .slice ga' s5.length gk', .int .i64 y5] (.slice ga r5.length gk) (.slice ga' s5.length gk') (layIntS.mark 1 r5).1 (layIntS.mark (1 + 1 * (r5.length : Int)) s5).1 wx ∧ Below w.heap.size w wx ∧ Below Y17.heap.size Y17 wx)))
  case first =>
    refine wp_region_held_drew (S := fun X => Hid (VarA w.heap.size LSsT #[.int .i64 x0, .string x1, .string x2, .int .i64 x3, .slice a4 r4.length p4, .int .i64 x5, .int .i64 y0, .string y1, .string y2, .int .i64 y3, .slice b4 s4.length q4, .int .i64 y5] X ∧ VarA (w.heap.size + 1) LPkT #[.int .i64 op, .int .i64 key, .int .i64 fr, .int .i64 dst, .int .i64 num, .slice pka acks.length pkc, .string body] X ∧ SR Y2.heap.size Y3.heap.size gU #[.int .i64 x0, .string x1, .string x2, .int .i64 x3, .slice ua r5.length uk, .int .i64 x5, .int .i64 y0, .string y1, .string y2, .int .i64 y3, .slice ua' s5.length uk', .int .i64 y5] (.slice ua r5.length uk) (.slice ua' s5.length uk') r5 s5 X ∧ SO Y7.heap.size Y8.heap.size Y8.heap.size #[.int .i64 x0, .string x1, .string x2, .int .i64 x3, .slice ga r5.length gk, .int .i64 x5, .int .i64 y0, .string y1, .string y2, .int .i64 y3, .slice ga' s5.length gk', .int .i64 y5] (.slice ga r5.length gk) (.slice ga' s5.length gk') (layIntS.mark 1 r5).1 (layIntS.mark (1 + 1 * (r5.length : Int)) s5).1 X ∧ Below w.heap.size w X ∧ Below Y17.heap.size Y17 X)) (by kernel_rfl) E0 (fun hHeld => ?_)
    clear E0
    generalize Y17.drew = X0 at *
    refine wpAnyH_take (i := 0) (v := ?_) rfl (by kernel_rfl) (by kernel_rfl) (by kernel_rfl) (fun _ _ _ h => h) (Or.inl ⟨by kernel_rfl, ?_⟩) hHeld ?_
    rotate_left
    · intro X hX
      have yy0 : X.cell? ⟨w.heap.size, 0, none⟩ = some (.int .i64 x0) := hX.out.1.cell 0
      have yy1 : X.cell? ⟨w.heap.size, 1, none⟩ = some (.string x1) := hX.out.1.cell 1
      have yy2 : X.cell? ⟨w.heap.size, 2, none⟩ = some (.string x2) := hX.out.1.cell 2
      have yy3 : X.cell? ⟨w.heap.size, 3, none⟩ = some (.int .i64 x3) := hX.out.1.cell 3
      have yy4 : X.cell? ⟨w.heap.size, 4, none⟩ = some (.slice a4 r4.length p4) := hX.out.1.cell 4
      have yy5 : X.cell? ⟨w.heap.size, 5, none⟩ = some (.int .i64 x5) := hX.out.1.cell 5
      have yy6 : X.cell? ⟨w.heap.size, 6, none⟩ = some (.int .i64 y0) := hX.out.1.cell 6
      have yy7 : X.cell? ⟨w.heap.size, 7, none⟩ = some (.string y1) := hX.out.1.cell 7
      have yy8 : X.cell? ⟨w.heap.size, 8, none⟩ = some (.string y2) := hX.out.1.cell 8
      have yy9 : X.cell? ⟨w.heap.size, 9, none⟩ = some (.int .i64 y3) := hX.out.1.cell 9
      have yy10 : X.cell? ⟨w.heap.size, 10, none⟩ = some (.slice b4 s4.length q4) := hX.out.1.cell 10
      have yy11 : X.cell? ⟨w.heap.size, 11, none⟩ = some (.int .i64 y5) := hX.out.1.cell 11
      first | (go_simp; done) | (go_simp; with_reducible rfl)
    try simp only [Act.put, List.getElem_toArray, List.getElem_cons_zero, List.setIfInBounds_toArray, List.set_cons_zero, List.set_cons_succ]
    refine wpAnyH_take (i := 2) (v := ?_) rfl (by kernel_rfl) (by kernel_rfl) (by kernel_rfl) (fun _ _ _ h => h) (Or.inl ⟨by kernel_rfl, ?_⟩) hHeld ?_
    rotate_left
    · intro X hX
      have yy0 : X.cell? ⟨w.heap.size + 1, 0, none⟩ = some (.int .i64 op) := hX.out.2.1.cell 0
      have yy1 : X.cell? ⟨w.heap.size + 1, 1, none⟩ = some (.int .i64 key) := hX.out.2.1.cell 1
      have yy2 : X.cell? ⟨w.heap.size + 1, 2, none⟩ = some (.int .i64 fr) := hX.out.2.1.cell 2
      have yy3 : X.cell? ⟨w.heap.size + 1, 3, none⟩ = some (.int .i64 dst) := hX.out.2.1.cell 3
      have yy4 : X.cell? ⟨w.heap.size + 1, 4, none⟩ = some (.int .i64 num) := hX.out.2.1.cell 4
      have yy5 : X.cell? ⟨w.heap.size + 1, 5, none⟩ = some (.slice pka acks.length pkc) := hX.out.2.1.cell 5
      have yy6 : X.cell? ⟨w.heap.size + 1, 6, none⟩ = some (.string body) := hX.out.2.1.cell 6
      first | (go_simp; done) | (go_simp; with_reducible rfl)
    try simp only [Act.put, List.getElem_toArray, List.getElem_cons_succ, List.getElem_cons_zero, List.setIfInBounds_toArray, List.set_cons_zero, List.set_cons_succ]
    refine wpAnyH_take (i := 4) (v := ?_) rfl (by kernel_rfl) (by kernel_rfl) (by kernel_rfl) (fun _ _ _ h => h) (Or.inl ⟨by kernel_rfl, ?_⟩) hHeld ?_
    rotate_left
    · intro X hX
      first | (go_simp; done) | (go_simp; with_reducible rfl)
    try simp only [Act.put, List.getElem_toArray, List.getElem_cons_succ, List.getElem_cons_zero, List.setIfInBounds_toArray, List.set_cons_zero, List.set_cons_succ]
    refine wpAnyH_ready (rs := [1, 10]) (by kernel_rfl) (by simp) ?_
    refine AllReadyH.cons rfl (fun K hK => ?_) (AllReadyH.cons rfl (fun K hK => ?_) AllReadyH.nil)
    · go_simp
      go_wp2_with (go_at_call 7; refine (TT.out X0 hHeld.out.2.2.2.2.1).mono ?_; rintro e X1 ⟨v5, u5, f5, g5, rfl, hd, o1, o2, hb0⟩; obtain ⟨ta, tk, rfl⟩ := (show ∃ a c, v5 = .slice a r4.length c from rows_form (layIntS.read o1)); obtain ⟨ta', tk', rfl⟩ := (show ∃ a c, u5 = .slice a s4.length c from rows_form (layIntS.read o2)); have hS := qv _ _ hHeld hb0; have R1 := Lib.hid (layIntS.read o1); have R2 := Lib.hid (layIntS.read o2); have hb := Lib.hid hb0; clear hb0 o1 o2 hd f5 g5)
      refine hK.out _ _ hS (fun hHeld => ?_)
      clear hK K hS
      clear hb
      try simp only [Act.put, List.getElem_toArray, List.getElem_cons_succ, List.getElem_cons_zero, List.setIfInBounds_toArray, List.set_cons_zero, List.set_cons_succ]
      refine wpAnyH_ready (rs := [3, 10]) (by kernel_rfl) (by simp) ?_
      refine AllReadyH.cons rfl (fun K hK => ?_) (AllReadyH.cons rfl (fun K hK => ?_) AllReadyH.nil)
      · go_simp
        go_wp2_with (go_at_call 8; refine (TP.out X1 hHeld.out.2.2.2.2.1).mono ?_; rintro e X2 ⟨ma, mk, f5, rfl, hd, o1, hb0⟩; have hS := qv _ _ hHeld hb0; have R3 := Lib.hid (layIntS.read o1); have hb := Lib.hid hb0; clear hb0 o1 hd f5)
        refine hK.out _ _ hS (fun hHeld => ?_)
        clear hK K hS
        replace R1 := Lib.hid (layIntS.below R1.out hb.out)
        replace R2 := Lib.hid (layIntS.below R2.out hb.out)
        clear hb
        try simp only [Act.put, List.getElem_toArray, List.getElem_cons_succ, List.getElem_cons_zero, List.setIfInBounds_toArray, List.set_cons_zero, List.set_cons_succ]
        refine wpAnyH_ready (rs := [5, 10]) (by kernel_rfl) (by simp) ?_
        refine AllReadyH.cons rfl (fun K hK => ?_) (AllReadyH.cons rfl (fun K hK => ?_) AllReadyH.nil)
        · go_simp
          go_wp2_with (go_at_call 9; refine (HI.out _ _ _ X2 (LL.out _ hHeld.out.2.2.2.2.1) R1.out R2.out R3.out).mono ?_; rintro e X3 ⟨v5, u5, f5, g5, rfl, hd, o1, o2, hb0⟩; obtain ⟨ha, hk, rfl⟩ := (show ∃ a c, v5 = .slice a r5.length c from rows_form (layIntS.read o1)); obtain ⟨ha', hk', rfl⟩ := (show ∃ a c, u5 = .slice a s5.length c from rows_form (layIntS.read o2)); have hlz : Y17.heap.size ≤ X2.heap.size := hHeld.out.2.2.2.2.2.size; have hS := qv _ _ hHeld hb0; have O1 := Lib.hid (layIntS.lower o1 hlz); have O2 := Lib.hid (layIntS.lower o2 hlz); have hb := Lib.hid hb0; clear hb0 o1 o2 hd hlz R1 R2 R3)
          refine hK.out _ _ hS (fun hHeld => ?_)
          clear hK K hS
          clear hb
          try simp only [Act.put, List.getElem_toArray, List.getElem_cons_succ, List.getElem_cons_zero, List.setIfInBounds_toArray, List.set_cons_zero, List.set_cons_succ]
          refine wpAnyH_take (i := 6) (v := ?_) rfl (by kernel_rfl) (by kernel_rfl) (by kernel_rfl) (fun _ _ _ h => h) (Or.inl ⟨by kernel_rfl, ?_⟩) hHeld ?_
          rotate_left
          · intro X hX
            first | (go_simp; done) | (go_simp; with_reducible rfl)
          try simp only [Act.put, List.getElem_toArray, List.getElem_cons_succ, List.getElem_cons_zero, List.setIfInBounds_toArray, List.set_cons_zero, List.set_cons_succ]
          refine wpAnyH_take (i := 7) (v := ?_) rfl (by kernel_rfl) (by kernel_rfl) (by kernel_rfl) (fun _ _ _ h => h) (Or.inl ⟨by kernel_rfl, ?_⟩) hHeld ?_
          rotate_left
          · intro X hX
            first | (go_simp; done) | (go_simp; with_reducible rfl)
          try simp only [Act.put, List.getElem_toArray, List.getElem_cons_succ, List.getElem_cons_zero, List.setIfInBounds_toArray, List.set_cons_zero, List.set_cons_succ]
          refine wpAnyH_take (i := 8) (v := ?_) rfl (by kernel_rfl) (by kernel_rfl) (by kernel_rfl) (fun _ _ _ h => h) (Or.inl ⟨by kernel_rfl, ?_⟩) hHeld ?_
          rotate_left
          · intro X hX
            first | (go_simp; done) | (go_simp; with_reducible rfl)
          try simp only [Act.put, List.getElem_toArray, List.getElem_cons_succ, List.getElem_cons_zero, List.setIfInBounds_toArray, List.set_cons_zero, List.set_cons_succ]
          refine wpAnyH_take (i := 9) (v := ?_) rfl (by kernel_rfl) (by kernel_rfl) (by kernel_rfl) (fun _ _ _ h => h) (Or.inl ⟨by kernel_rfl, ?_⟩) hHeld ?_
          rotate_left
          · intro X hX
            first | (go_simp; done) | (go_simp; with_reducible rfl)
          try simp only [Act.put, List.getElem_toArray, List.getElem_cons_succ, List.getElem_cons_zero, List.setIfInBounds_toArray, List.set_cons_zero, List.set_cons_succ]
          refine wpAnyH_ready (rs := [10]) (by kernel_rfl) (by simp) ?_
          refine AllReadyH.cons rfl (fun K hK => ?_) AllReadyH.nil
          go_simp
          have hal : Below X3.heap.size X3 (X3.alloc (.cells #[.int .i64 0, .string ⟨#[]⟩, .string ⟨#[]⟩, .int .i64 0, .slice none 0 0, .int .i64 0, .int .i64 0, .string ⟨#[]⟩, .string ⟨#[]⟩, .int .i64 0, .slice none 0 0, .int .i64 0] SlotsT)) := (Below.refl _ _).alloc (Nat.le_refl _) _
          have hlo : Y17.heap.size ≤ X3.heap.size := hHeld.out.2.2.2.2.2.size
          refine hK.out _ _ (qv _ _ hHeld hal) (fun hHeld => ?_)
          clear hK K
          have hb := Lib.hid hal
          replace O1 := Lib.hid (layIntS.next O1.out hb.out)
          replace O2 := Lib.hid (layIntS.next O2.out hb.out)
          have rr := Lib.hid (VarA.new X3 SlotsT #[.int .i64 0, .string ⟨#[]⟩, .string ⟨#[]⟩, .int .i64 0, .slice none 0 0, .int .i64 0, .int .i64 0, .string ⟨#[]⟩, .string ⟨#[]⟩, .int .i64 0, .slice none 0 0, .int .i64 0])
          clear hal hb
          generalize X3.alloc (.cells #[.int .i64 0, .string ⟨#[]⟩, .string ⟨#[]⟩, .int .i64 0, .slice none 0 0, .int .i64 0, .int .i64 0, .string ⟨#[]⟩, .string ⟨#[]⟩, .int .i64 0, .slice none 0 0, .int .i64 0] SlotsT) = X4 at *
          generalize X3.heap.size = G at *
          try simp only [Act.put, List.getElem_toArray, List.getElem_cons_succ, List.getElem_cons_zero, List.setIfInBounds_toArray, List.set_cons_zero, List.set_cons_succ]
          refine wpAnyH_ready (rs := [11]) (by kernel_rfl) (by simp) ?_
          refine AllReadyH.cons rfl (fun K hK => ?_) AllReadyH.nil
          have r0_ : X4.cell? ⟨G, 0, none⟩ = some (.int .i64 0) := rr.out.cell 0
          have r1_ : X4.cell? ⟨G, 1, none⟩ = some (.string ⟨#[]⟩) := rr.out.cell 1
          have r2_ : X4.cell? ⟨G, 2, none⟩ = some (.string ⟨#[]⟩) := rr.out.cell 2
          have r3_ : X4.cell? ⟨G, 3, none⟩ = some (.int .i64 0) := rr.out.cell 3
          have r4_ : X4.cell? ⟨G, 4, none⟩ = some (.slice none 0 0) := rr.out.cell 4
          have r5_ : X4.cell? ⟨G, 5, none⟩ = some (.int .i64 0) := rr.out.cell 5
          have r6_ : X4.cell? ⟨G, 6, none⟩ = some (.int .i64 0) := rr.out.cell 6
          have r7_ : X4.cell? ⟨G, 7, none⟩ = some (.string ⟨#[]⟩) := rr.out.cell 7
          have r8_ : X4.cell? ⟨G, 8, none⟩ = some (.string ⟨#[]⟩) := rr.out.cell 8
          have r9_ : X4.cell? ⟨G, 9, none⟩ = some (.int .i64 0) := rr.out.cell 9
          have r10_ : X4.cell? ⟨G, 10, none⟩ = some (.slice none 0 0) := rr.out.cell 10
          have r11_ : X4.cell? ⟨G, 11, none⟩ = some (.int .i64 0) := rr.out.cell 11
          have g0_ := rr.out.free 0
          have g1_ := rr.out.free 1
          have g2_ := rr.out.free 2
          have g3_ := rr.out.free 3
          have g4_ := rr.out.free 4
          have g5_ := rr.out.free 5
          have g6_ := rr.out.free 6
          have g7_ := rr.out.free 7
          have g8_ := rr.out.free 8
          have g9_ := rr.out.free 9
          have g10_ := rr.out.free 10
          have g11_ := rr.out.free 11
          go_simp
          clear r0_ g0_ r1_ g1_ r2_ g2_ r3_ g3_ r4_ g4_ r5_ g5_ r6_ g6_ r7_ g7_ r8_ g8_ r9_ g9_ r10_ g10_ r11_ g11_
          have hS := putHH_ X4 G (.int .i64 x0) (.string x1) (.string x2) (.int .i64 x3) (.slice ha r5.length hk) (.int .i64 x5) (.int .i64 y0) (.string y1) (.string y2) (.int .i64 y3) (.slice ha' s5.length hk') (.int .i64 y5) hlo hHeld
          refine hK.out _ _ hS (fun hHeld => ?_)
          have ho : Only G X4 ((((((((((((X4.setCell ⟨G, 0, none⟩ (.int .i64 x0)).setCell ⟨G, 1, none⟩ (.string x1)).setCell ⟨G, 2, none⟩ (.string x2)).setCell ⟨G, 3, none⟩ (.int .i64 x3)).setCell ⟨G, 4, none⟩ (.slice ha r5.length hk)).setCell ⟨G, 5, none⟩ (.int .i64 x5)).setCell ⟨G, 6, none⟩ (.int .i64 y0)).setCell ⟨G, 7, none⟩ (.string y1)).setCell ⟨G, 8, none⟩ (.string y2)).setCell ⟨G, 9, none⟩ (.int .i64 y3)).setCell ⟨G, 10, none⟩ (.slice ha' s5.length hk')).setCell ⟨G, 11, none⟩ (.int .i64 y5)) := (putMain_only X4 G _ _ _ _ _ _).trans (putLame_only _ G _ _ _ _ _ _)
          replace O1 := Lib.hid (own_only O1.out ho (row_off flatIntK O1.out rr.out (by decide)))
          replace O2 := Lib.hid (own_only O2.out ho (row_off flatIntK O2.out rr.out (by decide)))
          replace rr := Lib.hid (putBoth rr.out (.int .i64 x0) (.string x1) (.string x2) (.int .i64 x3) (.slice ha r5.length hk) (.int .i64 x5) (.int .i64 y0) (.string y1) (.string y2) (.int .i64 y3) (.slice ha' s5.length hk') (.int .i64 y5))
          clear hK K ho hS
          generalize ((((((((((((X4.setCell ⟨G, 0, none⟩ (.int .i64 x0)).setCell ⟨G, 1, none⟩ (.string x1)).setCell ⟨G, 2, none⟩ (.string x2)).setCell ⟨G, 3, none⟩ (.int .i64 x3)).setCell ⟨G, 4, none⟩ (.slice ha r5.length hk)).setCell ⟨G, 5, none⟩ (.int .i64 x5)).setCell ⟨G, 6, none⟩ (.int .i64 y0)).setCell ⟨G, 7, none⟩ (.string y1)).setCell ⟨G, 8, none⟩ (.string y2)).setCell ⟨G, 9, none⟩ (.int .i64 y3)).setCell ⟨G, 10, none⟩ (.slice ha' s5.length hk')).setCell ⟨G, 11, none⟩ (.int .i64 y5)) = X5 at *
          try simp only [Act.put, List.getElem_toArray, List.getElem_cons_succ, List.getElem_cons_zero, List.setIfInBounds_toArray, List.set_cons_zero, List.set_cons_succ]
          refine wpAnyH_take (i := 12) (v := ?_) rfl (by kernel_rfl) (by kernel_rfl) (by kernel_rfl) (fun _ _ _ h => h) (Or.inl ⟨by kernel_rfl, ?_⟩) hHeld ?_
          rotate_left
          · intro X hX
            first | (go_simp; done) | (go_simp; with_reducible rfl)
          try simp only [Act.put, List.getElem_toArray, List.getElem_cons_succ, List.getElem_cons_zero, List.setIfInBounds_toArray, List.set_cons_zero, List.set_cons_succ]
          refine wpAnyH_take (i := 13) (v := ?_) rfl (by kernel_rfl) (by kernel_rfl) (by kernel_rfl) (fun _ _ _ h => h) (Or.inl ⟨by kernel_rfl, ?_⟩) hHeld ?_
          rotate_left
          · intro X hX
            first | (go_simp; done) | (go_simp; with_reducible rfl)
          try simp only [Act.put, List.getElem_toArray, List.getElem_cons_succ, List.getElem_cons_zero, List.setIfInBounds_toArray, List.set_cons_zero, List.set_cons_succ]
          refine wpAnyH_done (by kernel_rfl) ?_ _
          clear qv putHH_
          go_wp2_with fail
          go_meet
          exact ⟨G, ha, hk, ha', hk', rfl, rfl, rfl, Lib.hid ⟨rr.out, ⟨_, _, O1.out, O2.out, fun a ha => (by rcases List.mem_append.1 ha with h | h <;> first | exact (layIntS.blocks O1.out a h).2 | exact (layIntS.blocks O2.out a h).2)⟩, ⟨hlo, rr.out.lt⟩⟩, hHeld⟩
        · go_simp
          have hal : Below X2.heap.size X2 (X2.alloc (.cells #[.int .i64 0, .string ⟨#[]⟩, .string ⟨#[]⟩, .int .i64 0, .slice none 0 0, .int .i64 0, .int .i64 0, .string ⟨#[]⟩, .string ⟨#[]⟩, .int .i64 0, .slice none 0 0, .int .i64 0] SlotsT)) := (Below.refl _ _).alloc (Nat.le_refl _) _
          have hlo : Y17.heap.size ≤ X2.heap.size := hHeld.out.2.2.2.2.2.size
          refine hK.out _ _ (qv _ _ hHeld hal) (fun hHeld => ?_)
          clear hK K
          have hb := Lib.hid hal
          replace R1 := Lib.hid (layIntS.below R1.out hb.out)
          replace R2 := Lib.hid (layIntS.below R2.out hb.out)
          replace R3 := Lib.hid (layIntS.below R3.out hb.out)
          have rr := Lib.hid (VarA.new X2 SlotsT #[.int .i64 0, .string ⟨#[]⟩, .string ⟨#[]⟩, .int .i64 0, .slice none 0 0, .int .i64 0, .int .i64 0, .string ⟨#[]⟩, .string ⟨#[]⟩, .int .i64 0, .slice none 0 0, .int .i64 0])
          clear hal hb
          generalize X2.alloc (.cells #[.int .i64 0, .string ⟨#[]⟩, .string ⟨#[]⟩, .int .i64 0, .slice none 0 0, .int .i64 0, .int .i64 0, .string ⟨#[]⟩, .string ⟨#[]⟩, .int .i64 0, .slice none 0 0, .int .i64 0] SlotsT) = X3 at *
          generalize X2.heap.size = G at *
          try simp only [Act.put, List.getElem_toArray, List.getElem_cons_succ, List.getElem_cons_zero, List.setIfInBounds_toArray, List.set_cons_zero, List.set_cons_succ]
          refine wpAnyH_ready (rs := [5]) (by kernel_rfl) (by simp) ?_
          refine AllReadyH.cons rfl (fun K hK => ?_) AllReadyH.nil
          go_simp
          go_wp2_with (go_at_call 9; refine (HI.out _ _ _ X3 (LL.out _ hHeld.out.2.2.2.2.1) R1.out R2.out R3.out).mono ?_; rintro e X4 ⟨v5, u5, f5, g5, rfl, hd, o1, o2, hb0⟩; obtain ⟨ha, hk, rfl⟩ := (show ∃ a c, v5 = .slice a r5.length c from rows_form (layIntS.read o1)); obtain ⟨ha', hk', rfl⟩ := (show ∃ a c, u5 = .slice a s5.length c from rows_form (layIntS.read o2)); have hlz : Y17.heap.size ≤ X3.heap.size := hHeld.out.2.2.2.2.2.size; have hS := qv _ _ hHeld hb0; have O1 := Lib.hid (layIntS.lower o1 hlz); have O2 := Lib.hid (layIntS.lower o2 hlz); have hb := Lib.hid hb0; clear hb0 o1 o2 hd hlz R1 R2 R3)
          refine hK.out _ _ hS (fun hHeld => ?_)
          clear hK K hS
          replace rr := Lib.hid (rr.out.next hb.out)
          clear hb
          try simp only [Act.put, List.getElem_toArray, List.getElem_cons_succ, List.getElem_cons_zero, List.setIfInBounds_toArray, List.set_cons_zero, List.set_cons_succ]
          refine wpAnyH_take (i := 6) (v := ?_) rfl (by kernel_rfl) (by kernel_rfl) (by kernel_rfl) (fun _ _ _ h => h) (Or.inl ⟨by kernel_rfl, ?_⟩) hHeld ?_
          rotate_left
          · intro X hX
            first | (go_simp; done) | (go_simp; with_reducible rfl)
          try simp only [Act.put, List.getElem_toArray, List.getElem_cons_succ, List.getElem_cons_zero, List.setIfInBounds_toArray, List.set_cons_zero, List.set_cons_succ]
          refine wpAnyH_take (i := 7) (v := ?_) rfl (by kernel_rfl) (by kernel_rfl) (by kernel_rfl) (fun _ _ _ h => h) (Or.inl ⟨by kernel_rfl, ?_⟩) hHeld ?_
          rotate_left
          · intro X hX
            first | (go_simp; done) | (go_simp; with_reducible rfl)
          try simp only [Act.put, List.getElem_toArray, List.getElem_cons_succ, List.getElem_cons_zero, List.setIfInBounds_toArray, List.set_cons_zero, List.set_cons_succ]
          refine wpAnyH_take (i := 8) (v := ?_) rfl (by kernel_rfl) (by kernel_rfl) (by kernel_rfl) (fun _ _ _ h => h) (Or.inl ⟨by kernel_rfl, ?_⟩) hHeld ?_
          rotate_left
          · intro X hX
            first | (go_simp; done) | (go_simp; with_reducible rfl)
          try simp only [Act.put, List.getElem_toArray, List.getElem_cons_succ, List.getElem_cons_zero, List.setIfInBounds_toArray, List.set_cons_zero, List.set_cons_succ]
          refine wpAnyH_take (i := 9) (v := ?_) rfl (by kernel_rfl) (by kernel_rfl) (by kernel_rfl) (fun _ _ _ h => h) (Or.inl ⟨by kernel_rfl, ?_⟩) hHeld ?_
          rotate_left
          · intro X hX
            first | (go_simp; done) | (go_simp; with_reducible rfl)
          try simp only [Act.put, List.getElem_toArray, List.getElem_cons_succ, List.getElem_cons_zero, List.setIfInBounds_toArray, List.set_cons_zero, List.set_cons_succ]
          refine wpAnyH_ready (rs := [11]) (by kernel_rfl) (by simp) ?_
          refine AllReadyH.cons rfl (fun K hK => ?_) AllReadyH.nil
          have r0_ : X4.cell? ⟨G, 0, none⟩ = some (.int .i64 0) := rr.out.cell 0
          have r1_ : X4.cell? ⟨G, 1, none⟩ = some (.string ⟨#[]⟩) := rr.out.cell 1
          have r2_ : X4.cell? ⟨G, 2, none⟩ = some (.string ⟨#[]⟩) := rr.out.cell 2
          have r3_ : X4.cell? ⟨G, 3, none⟩ = some (.int .i64 0) := rr.out.cell 3
          have r4_ : X4.cell? ⟨G, 4, none⟩ = some (.slice none 0 0) := rr.out.cell 4
          have r5_ : X4.cell? ⟨G, 5, none⟩ = some (.int .i64 0) := rr.out.cell 5
          have r6_ : X4.cell? ⟨G, 6, none⟩ = some (.int .i64 0) := rr.out.cell 6
          have r7_ : X4.cell? ⟨G, 7, none⟩ = some (.string ⟨#[]⟩) := rr.out.cell 7
          have r8_ : X4.cell? ⟨G, 8, none⟩ = some (.string ⟨#[]⟩) := rr.out.cell 8
          have r9_ : X4.cell? ⟨G, 9, none⟩ = some (.int .i64 0) := rr.out.cell 9
          have r10_ : X4.cell? ⟨G, 10, none⟩ = some (.slice none 0 0) := rr.out.cell 10
          have r11_ : X4.cell? ⟨G, 11, none⟩ = some (.int .i64 0) := rr.out.cell 11
          have g0_ := rr.out.free 0
          have g1_ := rr.out.free 1
          have g2_ := rr.out.free 2
          have g3_ := rr.out.free 3
          have g4_ := rr.out.free 4
          have g5_ := rr.out.free 5
          have g6_ := rr.out.free 6
          have g7_ := rr.out.free 7
          have g8_ := rr.out.free 8
          have g9_ := rr.out.free 9
          have g10_ := rr.out.free 10
          have g11_ := rr.out.free 11
          go_simp
          clear r0_ g0_ r1_ g1_ r2_ g2_ r3_ g3_ r4_ g4_ r5_ g5_ r6_ g6_ r7_ g7_ r8_ g8_ r9_ g9_ r10_ g10_ r11_ g11_
          have hS := putHH_ X4 G (.int .i64 x0) (.string x1) (.string x2) (.int .i64 x3) (.slice ha r5.length hk) (.int .i64 x5) (.int .i64 y0) (.string y1) (.string y2) (.int .i64 y3) (.slice ha' s5.length hk') (.int .i64 y5) hlo hHeld
          refine hK.out _ _ hS (fun hHeld => ?_)
          have ho : Only G X4 ((((((((((((X4.setCell ⟨G, 0, none⟩ (.int .i64 x0)).setCell ⟨G, 1, none⟩ (.string x1)).setCell ⟨G, 2, none⟩ (.string x2)).setCell ⟨G, 3, none⟩ (.int .i64 x3)).setCell ⟨G, 4, none⟩ (.slice ha r5.length hk)).setCell ⟨G, 5, none⟩ (.int .i64 x5)).setCell ⟨G, 6, none⟩ (.int .i64 y0)).setCell ⟨G, 7, none⟩ (.string y1)).setCell ⟨G, 8, none⟩ (.string y2)).setCell ⟨G, 9, none⟩ (.int .i64 y3)).setCell ⟨G, 10, none⟩ (.slice ha' s5.length hk')).setCell ⟨G, 11, none⟩ (.int .i64 y5)) := (putMain_only X4 G _ _ _ _ _ _).trans (putLame_only _ G _ _ _ _ _ _)
          replace O1 := Lib.hid (own_only O1.out ho (row_off flatIntK O1.out rr.out (by decide)))
          replace O2 := Lib.hid (own_only O2.out ho (row_off flatIntK O2.out rr.out (by decide)))
          replace rr := Lib.hid (putBoth rr.out (.int .i64 x0) (.string x1) (.string x2) (.int .i64 x3) (.slice ha r5.length hk) (.int .i64 x5) (.int .i64 y0) (.string y1) (.string y2) (.int .i64 y3) (.slice ha' s5.length hk') (.int .i64 y5))
          clear hK K ho hS
          generalize ((((((((((((X4.setCell ⟨G, 0, none⟩ (.int .i64 x0)).setCell ⟨G, 1, none⟩ (.string x1)).setCell ⟨G, 2, none⟩ (.string x2)).setCell ⟨G, 3, none⟩ (.int .i64 x3)).setCell ⟨G, 4, none⟩ (.slice ha r5.length hk)).setCell ⟨G, 5, none⟩ (.int .i64 x5)).setCell ⟨G, 6, none⟩ (.int .i64 y0)).setCell ⟨G, 7, none⟩ (.string y1)).setCell ⟨G, 8, none⟩ (.string y2)).setCell ⟨G, 9, none⟩ (.int .i64 y3)).setCell ⟨G, 10, none⟩ (.slice ha' s5.length hk')).setCell ⟨G, 11, none⟩ (.int .i64 y5)) = X5 at *
          try simp only [Act.put, List.getElem_toArray, List.getElem_cons_succ, List.getElem_cons_zero, List.setIfInBounds_toArray, List.set_cons_zero, List.set_cons_succ]
          refine wpAnyH_take (i := 12) (v := ?_) rfl (by kernel_rfl) (by kernel_rfl) (by kernel_rfl) (fun _ _ _ h => h) (Or.inl ⟨by kernel_rfl, ?_⟩) hHeld ?_
          rotate_left
          · intro X hX
            first | (go_simp; done) | (go_simp; with_reducible rfl)
          try simp only [Act.put, List.getElem_toArray, List.getElem_cons_succ, List.getElem_cons_zero, List.setIfInBounds_toArray, List.set_cons_zero, List.set_cons_succ]
          refine wpAnyH_take (i := 13) (v := ?_) rfl (by kernel_rfl) (by kernel_rfl) (by kernel_rfl) (fun _ _ _ h => h) (Or.inl ⟨by kernel_rfl, ?_⟩) hHeld ?_
          rotate_left
          · intro X hX
            first | (go_simp; done) | (go_simp; with_reducible rfl)
          try simp only [Act.put, List.getElem_toArray, List.getElem_cons_succ, List.getElem_cons_zero, List.setIfInBounds_toArray, List.set_cons_zero, List.set_cons_succ]
          refine wpAnyH_done (by kernel_rfl) ?_ _
          clear qv putHH_
          go_wp2_with fail
          go_meet
          exact ⟨G, ha, hk, ha', hk', rfl, rfl, rfl, Lib.hid ⟨rr.out, ⟨_, _, O1.out, O2.out, fun a ha => (by rcases List.mem_append.1 ha with h | h <;> first | exact (layIntS.blocks O1.out a h).2 | exact (layIntS.blocks O2.out a h).2)⟩, ⟨hlo, rr.out.lt⟩⟩, hHeld⟩
      · go_simp
        have hal : Below X1.heap.size X1 (X1.alloc (.cells #[.int .i64 0, .string ⟨#[]⟩, .string ⟨#[]⟩, .int .i64 0, .slice none 0 0, .int .i64 0, .int .i64 0, .string ⟨#[]⟩, .string ⟨#[]⟩, .int .i64 0, .slice none 0 0, .int .i64 0] SlotsT)) := (Below.refl _ _).alloc (Nat.le_refl _) _
        have hlo : Y17.heap.size ≤ X1.heap.size := hHeld.out.2.2.2.2.2.size
        refine hK.out _ _ (qv _ _ hHeld hal) (fun hHeld => ?_)
        clear hK K
        have hb := Lib.hid hal
        replace R1 := Lib.hid (layIntS.below R1.out hb.out)
        replace R2 := Lib.hid (layIntS.below R2.out hb.out)
        have rr := Lib.hid (VarA.new X1 SlotsT #[.int .i64 0, .string ⟨#[]⟩, .string ⟨#[]⟩, .int .i64 0, .slice none 0 0, .int .i64 0, .int .i64 0, .string ⟨#[]⟩, .string ⟨#[]⟩, .int .i64 0, .slice none 0 0, .int .i64 0])
        clear hal hb
        generalize X1.alloc (.cells #[.int .i64 0, .string ⟨#[]⟩, .string ⟨#[]⟩, .int .i64 0, .slice none 0 0, .int .i64 0, .int .i64 0, .string ⟨#[]⟩, .string ⟨#[]⟩, .int .i64 0, .slice none 0 0, .int .i64 0] SlotsT) = X2 at *
        generalize X1.heap.size = G at *
        try simp only [Act.put, List.getElem_toArray, List.getElem_cons_succ, List.getElem_cons_zero, List.setIfInBounds_toArray, List.set_cons_zero, List.set_cons_succ]
        refine wpAnyH_ready (rs := [3]) (by kernel_rfl) (by simp) ?_
        refine AllReadyH.cons rfl (fun K hK => ?_) AllReadyH.nil
        go_simp
        go_wp2_with (go_at_call 8; refine (TP.out X2 hHeld.out.2.2.2.2.1).mono ?_; rintro e X3 ⟨ma, mk, f5, rfl, hd, o1, hb0⟩; have hS := qv _ _ hHeld hb0; have R3 := Lib.hid (layIntS.read o1); have hb := Lib.hid hb0; clear hb0 o1 hd f5)
        refine hK.out _ _ hS (fun hHeld => ?_)
        clear hK K hS
        replace R1 := Lib.hid (layIntS.below R1.out hb.out)
        replace R2 := Lib.hid (layIntS.below R2.out hb.out)
        replace rr := Lib.hid (rr.out.next hb.out)
        clear hb
        try simp only [Act.put, List.getElem_toArray, List.getElem_cons_succ, List.getElem_cons_zero, List.setIfInBounds_toArray, List.set_cons_zero, List.set_cons_succ]
        refine wpAnyH_ready (rs := [5]) (by kernel_rfl) (by simp) ?_
        refine AllReadyH.cons rfl (fun K hK => ?_) AllReadyH.nil
        go_simp
        go_wp2_with (go_at_call 9; refine (HI.out _ _ _ X3 (LL.out _ hHeld.out.2.2.2.2.1) R1.out R2.out R3.out).mono ?_; rintro e X4 ⟨v5, u5, f5, g5, rfl, hd, o1, o2, hb0⟩; obtain ⟨ha, hk, rfl⟩ := (show ∃ a c, v5 = .slice a r5.length c from rows_form (layIntS.read o1)); obtain ⟨ha', hk', rfl⟩ := (show ∃ a c, u5 = .slice a s5.length c from rows_form (layIntS.read o2)); have hlz : Y17.heap.size ≤ X3.heap.size := hHeld.out.2.2.2.2.2.size; have hS := qv _ _ hHeld hb0; have O1 := Lib.hid (layIntS.lower o1 hlz); have O2 := Lib.hid (layIntS.lower o2 hlz); have hb := Lib.hid hb0; clear hb0 o1 o2 hd hlz R1 R2 R3)
        refine hK.out _ _ hS (fun hHeld => ?_)
        clear hK K hS
        replace rr := Lib.hid (rr.out.next hb.out)
        clear hb
        try simp only [Act.put, List.getElem_toArray, List.getElem_cons_succ, List.getElem_cons_zero, List.setIfInBounds_toArray, List.set_cons_zero, List.set_cons_succ]
        refine wpAnyH_take (i := 6) (v := ?_) rfl (by kernel_rfl) (by kernel_rfl) (by kernel_rfl) (fun _ _ _ h => h) (Or.inl ⟨by kernel_rfl, ?_⟩) hHeld ?_
        rotate_left
        · intro X hX
          first | (go_simp; done) | (go_simp; with_reducible rfl)
        try simp only [Act.put, List.getElem_toArray, List.getElem_cons_succ, List.getElem_cons_zero, List.setIfInBounds_toArray, List.set_cons_zero, List.set_cons_succ]
        refine wpAnyH_take (i := 7) (v := ?_) rfl (by kernel_rfl) (by kernel_rfl) (by kernel_rfl) (fun _ _ _ h => h) (Or.inl ⟨by kernel_rfl, ?_⟩) hHeld ?_
        rotate_left
        · intro X hX
          first | (go_simp; done) | (go_simp; with_reducible rfl)
        try simp only [Act.put, List.getElem_toArray, List.getElem_cons_succ, List.getElem_cons_zero, List.setIfInBounds_toArray, List.set_cons_zero, List.set_cons_succ]
        refine wpAnyH_take (i := 8) (v := ?_) rfl (by kernel_rfl) (by kernel_rfl) (by kernel_rfl) (fun _ _ _ h => h) (Or.inl ⟨by kernel_rfl, ?_⟩) hHeld ?_
        rotate_left
        · intro X hX
          first | (go_simp; done) | (go_simp; with_reducible rfl)
        try simp only [Act.put, List.getElem_toArray, List.getElem_cons_succ, List.getElem_cons_zero, List.setIfInBounds_toArray, List.set_cons_zero, List.set_cons_succ]
        refine wpAnyH_take (i := 9) (v := ?_) rfl (by kernel_rfl) (by kernel_rfl) (by kernel_rfl) (fun _ _ _ h => h) (Or.inl ⟨by kernel_rfl, ?_⟩) hHeld ?_
        rotate_left
        · intro X hX
          first | (go_simp; done) | (go_simp; with_reducible rfl)
        try simp only [Act.put, List.getElem_toArray, List.getElem_cons_succ, List.getElem_cons_zero, List.setIfInBounds_toArray, List.set_cons_zero, List.set_cons_succ]
        refine wpAnyH_ready (rs := [11]) (by kernel_rfl) (by simp) ?_
        refine AllReadyH.cons rfl (fun K hK => ?_) AllReadyH.nil
        have r0_ : X4.cell? ⟨G, 0, none⟩ = some (.int .i64 0) := rr.out.cell 0
        have r1_ : X4.cell? ⟨G, 1, none⟩ = some (.string ⟨#[]⟩) := rr.out.cell 1
        have r2_ : X4.cell? ⟨G, 2, none⟩ = some (.string ⟨#[]⟩) := rr.out.cell 2
        have r3_ : X4.cell? ⟨G, 3, none⟩ = some (.int .i64 0) := rr.out.cell 3
        have r4_ : X4.cell? ⟨G, 4, none⟩ = some (.slice none 0 0) := rr.out.cell 4
        have r5_ : X4.cell? ⟨G, 5, none⟩ = some (.int .i64 0) := rr.out.cell 5
        have r6_ : X4.cell? ⟨G, 6, none⟩ = some (.int .i64 0) := rr.out.cell 6
        have r7_ : X4.cell? ⟨G, 7, none⟩ = some (.string ⟨#[]⟩) := rr.out.cell 7
        have r8_ : X4.cell? ⟨G, 8, none⟩ = some (.string ⟨#[]⟩) := rr.out.cell 8
        have r9_ : X4.cell? ⟨G, 9, none⟩ = some (.int .i64 0) := rr.out.cell 9
        have r10_ : X4.cell? ⟨G, 10, none⟩ = some (.slice none 0 0) := rr.out.cell 10
        have r11_ : X4.cell? ⟨G, 11, none⟩ = some (.int .i64 0) := rr.out.cell 11
        have g0_ := rr.out.free 0
        have g1_ := rr.out.free 1
        have g2_ := rr.out.free 2
        have g3_ := rr.out.free 3
        have g4_ := rr.out.free 4
        have g5_ := rr.out.free 5
        have g6_ := rr.out.free 6
        have g7_ := rr.out.free 7
        have g8_ := rr.out.free 8
        have g9_ := rr.out.free 9
        have g10_ := rr.out.free 10
        have g11_ := rr.out.free 11
        go_simp
        clear r0_ g0_ r1_ g1_ r2_ g2_ r3_ g3_ r4_ g4_ r5_ g5_ r6_ g6_ r7_ g7_ r8_ g8_ r9_ g9_ r10_ g10_ r11_ g11_
        have hS := putHH_ X4 G (.int .i64 x0) (.string x1) (.string x2) (.int .i64 x3) (.slice ha r5.length hk) (.int .i64 x5) (.int .i64 y0) (.string y1) (.string y2) (.int .i64 y3) (.slice ha' s5.length hk') (.int .i64 y5) hlo hHeld
        refine hK.out _ _ hS (fun hHeld => ?_)
        have ho : Only G X4 ((((((((((((X4.setCell ⟨G, 0, none⟩ (.int .i64 x0)).setCell ⟨G, 1, none⟩ (.string x1)).setCell ⟨G, 2, none⟩ (.string x2)).setCell ⟨G, 3, none⟩ (.int .i64 x3)).setCell ⟨G, 4, none⟩ (.slice ha r5.length hk)).setCell ⟨G, 5, none⟩ (.int .i64 x5)).setCell ⟨G, 6, none⟩ (.int .i64 y0)).setCell ⟨G, 7, none⟩ (.string y1)).setCell ⟨G, 8, none⟩ (.string y2)).setCell ⟨G, 9, none⟩ (.int .i64 y3)).setCell ⟨G, 10, none⟩ (.slice ha' s5.length hk')).setCell ⟨G, 11, none⟩ (.int .i64 y5)) := (putMain_only X4 G _ _ _ _ _ _).trans (putLame_only _ G _ _ _ _ _ _)
        replace O1 := Lib.hid (own_only O1.out ho (row_off flatIntK O1.out rr.out (by decide)))
        replace O2 := Lib.hid (own_only O2.out ho (row_off flatIntK O2.out rr.out (by decide)))
        replace rr := Lib.hid (putBoth rr.out (.int .i64 x0) (.string x1) (.string x2) (.int .i64 x3) (.slice ha r5.length hk) (.int .i64 x5) (.int .i64 y0) (.string y1) (.string y2) (.int .i64 y3) (.slice ha' s5.length hk') (.int .i64 y5))
        clear hK K ho hS
        generalize ((((((((((((X4.setCell ⟨G, 0, none⟩ (.int .i64 x0)).setCell ⟨G, 1, none⟩ (.string x1)).setCell ⟨G, 2, none⟩ (.string x2)).setCell ⟨G, 3, none⟩ (.int .i64 x3)).setCell ⟨G, 4, none⟩ (.slice ha r5.length hk)).setCell ⟨G, 5, none⟩ (.int .i64 x5)).setCell ⟨G, 6, none⟩ (.int .i64 y0)).setCell ⟨G, 7, none⟩ (.string y1)).setCell ⟨G, 8, none⟩ (.string y2)).setCell ⟨G, 9, none⟩ (.int .i64 y3)).setCell ⟨G, 10, none⟩ (.slice ha' s5.length hk')).setCell ⟨G, 11, none⟩ (.int .i64 y5)) = X5 at *
        try simp only [Act.put, List.getElem_toArray, List.getElem_cons_succ, List.getElem_cons_zero, List.setIfInBounds_toArray, List.set_cons_zero, List.set_cons_succ]
        refine wpAnyH_take (i := 12) (v := ?_) rfl (by kernel_rfl) (by kernel_rfl) (by kernel_rfl) (fun _ _ _ h => h) (Or.inl ⟨by kernel_rfl, ?_⟩) hHeld ?_
        rotate_left
        · intro X hX
          first | (go_simp; done) | (go_simp; with_reducible rfl)
        try simp only [Act.put, List.getElem_toArray, List.getElem_cons_succ, List.getElem_cons_zero, List.setIfInBounds_toArray, List.set_cons_zero, List.set_cons_succ]
        refine wpAnyH_take (i := 13) (v := ?_) rfl (by kernel_rfl) (by kernel_rfl) (by kernel_rfl) (fun _ _ _ h => h) (Or.inl ⟨by kernel_rfl, ?_⟩) hHeld ?_
        rotate_left
        · intro X hX
          first | (go_simp; done) | (go_simp; with_reducible rfl)
        try simp only [Act.put, List.getElem_toArray, List.getElem_cons_succ, List.getElem_cons_zero, List.setIfInBounds_toArray, List.set_cons_zero, List.set_cons_succ]
        refine wpAnyH_done (by kernel_rfl) ?_ _
        clear qv putHH_
        go_wp2_with fail
        go_meet
        exact ⟨G, ha, hk, ha', hk', rfl, rfl, rfl, Lib.hid ⟨rr.out, ⟨_, _, O1.out, O2.out, fun a ha => (by rcases List.mem_append.1 ha with h | h <;> first | exact (layIntS.blocks O1.out a h).2 | exact (layIntS.blocks O2.out a h).2)⟩, ⟨hlo, rr.out.lt⟩⟩, hHeld⟩
    · go_simp
      have hal : Below X0.heap.size X0 (X0.alloc (.cells #[.int .i64 0, .string ⟨#[]⟩, .string ⟨#[]⟩, .int .i64 0, .slice none 0 0, .int .i64 0, .int .i64 0, .string ⟨#[]⟩, .string ⟨#[]⟩, .int .i64 0, .slice none 0 0, .int .i64 0] SlotsT)) := (Below.refl _ _).alloc (Nat.le_refl _) _
      have hlo : Y17.heap.size ≤ X0.heap.size := hHeld.out.2.2.2.2.2.size
      refine hK.out _ _ (qv _ _ hHeld hal) (fun hHeld => ?_)
      clear hK K
      have hb := Lib.hid hal
      have rr := Lib.hid (VarA.new X0 SlotsT #[.int .i64 0, .string ⟨#[]⟩, .string ⟨#[]⟩, .int .i64 0, .slice none 0 0, .int .i64 0, .int .i64 0, .string ⟨#[]⟩, .string ⟨#[]⟩, .int .i64 0, .slice none 0 0, .int .i64 0])
      clear hal hb
      generalize X0.alloc (.cells #[.int .i64 0, .string ⟨#[]⟩, .string ⟨#[]⟩, .int .i64 0, .slice none 0 0, .int .i64 0, .int .i64 0, .string ⟨#[]⟩, .string ⟨#[]⟩, .int .i64 0, .slice none 0 0, .int .i64 0] SlotsT) = X1 at *
      generalize X0.heap.size = G at *
      try simp only [Act.put, List.getElem_toArray, List.getElem_cons_succ, List.getElem_cons_zero, List.setIfInBounds_toArray, List.set_cons_zero, List.set_cons_succ]
      refine wpAnyH_ready (rs := [1]) (by kernel_rfl) (by simp) ?_
      refine AllReadyH.cons rfl (fun K hK => ?_) AllReadyH.nil
      go_simp
      go_wp2_with (go_at_call 7; refine (TT.out X1 hHeld.out.2.2.2.2.1).mono ?_; rintro e X2 ⟨v5, u5, f5, g5, rfl, hd, o1, o2, hb0⟩; obtain ⟨ta, tk, rfl⟩ := (show ∃ a c, v5 = .slice a r4.length c from rows_form (layIntS.read o1)); obtain ⟨ta', tk', rfl⟩ := (show ∃ a c, u5 = .slice a s4.length c from rows_form (layIntS.read o2)); have hS := qv _ _ hHeld hb0; have R1 := Lib.hid (layIntS.read o1); have R2 := Lib.hid (layIntS.read o2); have hb := Lib.hid hb0; clear hb0 o1 o2 hd f5 g5)
      refine hK.out _ _ hS (fun hHeld => ?_)
      clear hK K hS
      replace rr := Lib.hid (rr.out.next hb.out)
      clear hb
      try simp only [Act.put, List.getElem_toArray, List.getElem_cons_succ, List.getElem_cons_zero, List.setIfInBounds_toArray, List.set_cons_zero, List.set_cons_succ]
      refine wpAnyH_ready (rs := [3]) (by kernel_rfl) (by simp) ?_
      refine AllReadyH.cons rfl (fun K hK => ?_) AllReadyH.nil
      go_simp
      go_wp2_with (go_at_call 8; refine (TP.out X2 hHeld.out.2.2.2.2.1).mono ?_; rintro e X3 ⟨ma, mk, f5, rfl, hd, o1, hb0⟩; have hS := qv _ _ hHeld hb0; have R3 := Lib.hid (layIntS.read o1); have hb := Lib.hid hb0; clear hb0 o1 hd f5)
      refine hK.out _ _ hS (fun hHeld => ?_)
      clear hK K hS
      replace R1 := Lib.hid (layIntS.below R1.out hb.out)
      replace R2 := Lib.hid (layIntS.below R2.out hb.out)
      replace rr := Lib.hid (rr.out.next hb.out)
      clear hb
      try simp only [Act.put, List.getElem_toArray, List.getElem_cons_succ, List.getElem_cons_zero, List.setIfInBounds_toArray, List.set_cons_zero, List.set_cons_succ]
      refine wpAnyH_ready (rs := [5]) (by kernel_rfl) (by simp) ?_
      refine AllReadyH.cons rfl (fun K hK => ?_) AllReadyH.nil
      go_simp
      go_wp2_with (go_at_call 9; refine (HI.out _ _ _ X3 (LL.out _ hHeld.out.2.2.2.2.1) R1.out R2.out R3.out).mono ?_; rintro e X4 ⟨v5, u5, f5, g5, rfl, hd, o1, o2, hb0⟩; obtain ⟨ha, hk, rfl⟩ := (show ∃ a c, v5 = .slice a r5.length c from rows_form (layIntS.read o1)); obtain ⟨ha', hk', rfl⟩ := (show ∃ a c, u5 = .slice a s5.length c from rows_form (layIntS.read o2)); have hlz : Y17.heap.size ≤ X3.heap.size := hHeld.out.2.2.2.2.2.size; have hS := qv _ _ hHeld hb0; have O1 := Lib.hid (layIntS.lower o1 hlz); have O2 := Lib.hid (layIntS.lower o2 hlz); have hb := Lib.hid hb0; clear hb0 o1 o2 hd hlz R1 R2 R3)
      refine hK.out _ _ hS (fun hHeld => ?_)
      clear hK K hS
      replace rr := Lib.hid (rr.out.next hb.out)
      clear hb
      try simp only [Act.put, List.getElem_toArray, List.getElem_cons_succ, List.getElem_cons_zero, List.setIfInBounds_toArray, List.set_cons_zero, List.set_cons_succ]
      refine wpAnyH_take (i := 6) (v := ?_) rfl (by kernel_rfl) (by kernel_rfl) (by kernel_rfl) (fun _ _ _ h => h) (Or.inl ⟨by kernel_rfl, ?_⟩) hHeld ?_
      rotate_left
      · intro X hX
        first | (go_simp; done) | (go_simp; with_reducible rfl)
      try simp only [Act.put, List.getElem_toArray, List.getElem_cons_succ, List.getElem_cons_zero, List.setIfInBounds_toArray, List.set_cons_zero, List.set_cons_succ]
      refine wpAnyH_take (i := 7) (v := ?_) rfl (by kernel_rfl) (by kernel_rfl) (by kernel_rfl) (fun _ _ _ h => h) (Or.inl ⟨by kernel_rfl, ?_⟩) hHeld ?_
      rotate_left
      · intro X hX
        first | (go_simp; done) | (go_simp; with_reducible rfl)
      try simp only [Act.put, List.getElem_toArray, List.getElem_cons_succ, List.getElem_cons_zero, List.setIfInBounds_toArray, List.set_cons_zero, List.set_cons_succ]
      refine wpAnyH_take (i := 8) (v := ?_) rfl (by kernel_rfl) (by kernel_rfl) (by kernel_rfl) (fun _ _ _ h => h) (Or.inl ⟨by kernel_rfl, ?_⟩) hHeld ?_
      rotate_left
      · intro X hX
        first | (go_simp; done) | (go_simp; with_reducible rfl)
      try simp only [Act.put, List.getElem_toArray, List.getElem_cons_succ, List.getElem_cons_zero, List.setIfInBounds_toArray, List.set_cons_zero, List.set_cons_succ]
      refine wpAnyH_take (i := 9) (v := ?_) rfl (by kernel_rfl) (by kernel_rfl) (by kernel_rfl) (fun _ _ _ h => h) (Or.inl ⟨by kernel_rfl, ?_⟩) hHeld ?_
      rotate_left
      · intro X hX
        first | (go_simp; done) | (go_simp; with_reducible rfl)
      try simp only [Act.put, List.getElem_toArray, List.getElem_cons_succ, List.getElem_cons_zero, List.setIfInBounds_toArray, List.set_cons_zero, List.set_cons_succ]
      refine wpAnyH_ready (rs := [11]) (by kernel_rfl) (by simp) ?_
      refine AllReadyH.cons rfl (fun K hK => ?_) AllReadyH.nil
      have r0_ : X4.cell? ⟨G, 0, none⟩ = some (.int .i64 0) := rr.out.cell 0
      have r1_ : X4.cell? ⟨G, 1, none⟩ = some (.string ⟨#[]⟩) := rr.out.cell 1
      have r2_ : X4.cell? ⟨G, 2, none⟩ = some (.string ⟨#[]⟩) := rr.out.cell 2
      have r3_ : X4.cell? ⟨G, 3, none⟩ = some (.int .i64 0) := rr.out.cell 3
      have r4_ : X4.cell? ⟨G, 4, none⟩ = some (.slice none 0 0) := rr.out.cell 4
      have r5_ : X4.cell? ⟨G, 5, none⟩ = some (.int .i64 0) := rr.out.cell 5
      have r6_ : X4.cell? ⟨G, 6, none⟩ = some (.int .i64 0) := rr.out.cell 6
      have r7_ : X4.cell? ⟨G, 7, none⟩ = some (.string ⟨#[]⟩) := rr.out.cell 7
      have r8_ : X4.cell? ⟨G, 8, none⟩ = some (.string ⟨#[]⟩) := rr.out.cell 8
      have r9_ : X4.cell? ⟨G, 9, none⟩ = some (.int .i64 0) := rr.out.cell 9
      have r10_ : X4.cell? ⟨G, 10, none⟩ = some (.slice none 0 0) := rr.out.cell 10
      have r11_ : X4.cell? ⟨G, 11, none⟩ = some (.int .i64 0) := rr.out.cell 11
      have g0_ := rr.out.free 0
      have g1_ := rr.out.free 1
      have g2_ := rr.out.free 2
      have g3_ := rr.out.free 3
      have g4_ := rr.out.free 4
      have g5_ := rr.out.free 5
      have g6_ := rr.out.free 6
      have g7_ := rr.out.free 7
      have g8_ := rr.out.free 8
      have g9_ := rr.out.free 9
      have g10_ := rr.out.free 10
      have g11_ := rr.out.free 11
      go_simp
      clear r0_ g0_ r1_ g1_ r2_ g2_ r3_ g3_ r4_ g4_ r5_ g5_ r6_ g6_ r7_ g7_ r8_ g8_ r9_ g9_ r10_ g10_ r11_ g11_
      have hS := putHH_ X4 G (.int .i64 x0) (.string x1) (.string x2) (.int .i64 x3) (.slice ha r5.length hk) (.int .i64 x5) (.int .i64 y0) (.string y1) (.string y2) (.int .i64 y3) (.slice ha' s5.length hk') (.int .i64 y5) hlo hHeld
      refine hK.out _ _ hS (fun hHeld => ?_)
      have ho : Only G X4 ((((((((((((X4.setCell ⟨G, 0, none⟩ (.int .i64 x0)).setCell ⟨G, 1, none⟩ (.string x1)).setCell ⟨G, 2, none⟩ (.string x2)).setCell ⟨G, 3, none⟩ (.int .i64 x3)).setCell ⟨G, 4, none⟩ (.slice ha r5.length hk)).setCell ⟨G, 5, none⟩ (.int .i64 x5)).setCell ⟨G, 6, none⟩ (.int .i64 y0)).setCell ⟨G, 7, none⟩ (.string y1)).setCell ⟨G, 8, none⟩ (.string y2)).setCell ⟨G, 9, none⟩ (.int .i64 y3)).setCell ⟨G, 10, none⟩ (.slice ha' s5.length hk')).setCell ⟨G, 11, none⟩ (.int .i64 y5)) := (putMain_only X4 G _ _ _ _ _ _).trans (putLame_only _ G _ _ _ _ _ _)
      replace O1 := Lib.hid (own_only O1.out ho (row_off flatIntK O1.out rr.out (by decide)))
      replace O2 := Lib.hid (own_only O2.out ho (row_off flatIntK O2.out rr.out (by decide)))
      replace rr := Lib.hid (putBoth rr.out (.int .i64 x0) (.string x1) (.string x2) (.int .i64 x3) (.slice ha r5.length hk) (.int .i64 x5) (.int .i64 y0) (.string y1) (.string y2) (.int .i64 y3) (.slice ha' s5.length hk') (.int .i64 y5))
      clear hK K ho hS
      generalize ((((((((((((X4.setCell ⟨G, 0, none⟩ (.int .i64 x0)).setCell ⟨G, 1, none⟩ (.string x1)).setCell ⟨G, 2, none⟩ (.string x2)).setCell ⟨G, 3, none⟩ (.int .i64 x3)).setCell ⟨G, 4, none⟩ (.slice ha r5.length hk)).setCell ⟨G, 5, none⟩ (.int .i64 x5)).setCell ⟨G, 6, none⟩ (.int .i64 y0)).setCell ⟨G, 7, none⟩ (.string y1)).setCell ⟨G, 8, none⟩ (.string y2)).setCell ⟨G, 9, none⟩ (.int .i64 y3)).setCell ⟨G, 10, none⟩ (.slice ha' s5.length hk')).setCell ⟨G, 11, none⟩ (.int .i64 y5)) = X5 at *
      try simp only [Act.put, List.getElem_toArray, List.getElem_cons_succ, List.getElem_cons_zero, List.setIfInBounds_toArray, List.set_cons_zero, List.set_cons_succ]
      refine wpAnyH_take (i := 12) (v := ?_) rfl (by kernel_rfl) (by kernel_rfl) (by kernel_rfl) (fun _ _ _ h => h) (Or.inl ⟨by kernel_rfl, ?_⟩) hHeld ?_
      rotate_left
      · intro X hX
        first | (go_simp; done) | (go_simp; with_reducible rfl)
      try simp only [Act.put, List.getElem_toArray, List.getElem_cons_succ, List.getElem_cons_zero, List.setIfInBounds_toArray, List.set_cons_zero, List.set_cons_succ]
      refine wpAnyH_take (i := 13) (v := ?_) rfl (by kernel_rfl) (by kernel_rfl) (by kernel_rfl) (fun _ _ _ h => h) (Or.inl ⟨by kernel_rfl, ?_⟩) hHeld ?_
      rotate_left
      · intro X hX
        first | (go_simp; done) | (go_simp; with_reducible rfl)
      try simp only [Act.put, List.getElem_toArray, List.getElem_cons_succ, List.getElem_cons_zero, List.setIfInBounds_toArray, List.set_cons_zero, List.set_cons_succ]
      refine wpAnyH_done (by kernel_rfl) ?_ _
      clear qv putHH_
      go_wp2_with fail
      go_meet
      exact ⟨G, ha, hk, ha', hk', rfl, rfl, rfl, Lib.hid ⟨rr.out, ⟨_, _, O1.out, O2.out, fun a ha => (by rcases List.mem_append.1 ha with h | h <;> first | exact (layIntS.blocks O1.out a h).2 | exact (layIntS.blocks O2.out a h).2)⟩, ⟨hlo, rr.out.lt⟩⟩, hHeld⟩
  case rest =>
  obtain ⟨gHH, ha, hk, ha', hk', rfl, rfl, rfl, HH, hHeld⟩ := hcut
  clear E0 putHH_
  have zY18 : Y17.heap.size ≤ wc.heap.size := hHeld.out.2.2.2.2.2.size
  have A0 := Lib.hid (hHeld.out.1)
  have P0 := Lib.hid (hHeld.out.2.1)
  have U := Lib.hid (hHeld.out.2.2.1)
  have GG := Lib.hid (hHeld.out.2.2.2.1)
  have B0 := Lib.hid (hHeld.out.2.2.2.2.1)
  clear hHeld qv
  generalize wc = Y18 at *
  have c0 : Y18.cell? ⟨gHH, 0, none⟩ = some (.int .i64 x0) := HH.out.var.cell 0
  have c1 : Y18.cell? ⟨gHH, 1, none⟩ = some (.string x1) := HH.out.var.cell 1
  have c2 : Y18.cell? ⟨gHH, 2, none⟩ = some (.string x2) := HH.out.var.cell 2
  have c3 : Y18.cell? ⟨gHH, 3, none⟩ = some (.int .i64 x3) := HH.out.var.cell 3
  have c4 : Y18.cell? ⟨gHH, 4, none⟩ = some (.slice ha r5.length hk) := HH.out.var.cell 4
  have c5 : Y18.cell? ⟨gHH, 5, none⟩ = some (.int .i64 x5) := HH.out.var.cell 5
  have c6 : Y18.cell? ⟨gHH, 6, none⟩ = some (.int .i64 y0) := HH.out.var.cell 6
  have c7 : Y18.cell? ⟨gHH, 7, none⟩ = some (.string y1) := HH.out.var.cell 7
  have c8 : Y18.cell? ⟨gHH, 8, none⟩ = some (.string y2) := HH.out.var.cell 8
  have c9 : Y18.cell? ⟨gHH, 9, none⟩ = some (.int .i64 y3) := HH.out.var.cell 9
  have c10 : Y18.cell? ⟨gHH, 10, none⟩ = some (.slice ha' s5.length hk') := HH.out.var.cell 10
  have c11 : Y18.cell? ⟨gHH, 11, none⟩ = some (.int .i64 y5) := HH.out.var.cell 11
  have d0 : Y18.cell? ⟨gU, 0, none⟩ = some (.int .i64 x0) := U.out.var.cell 0
  have d1 : Y18.cell? ⟨gU, 1, none⟩ = some (.string x1) := U.out.var.cell 1
  have d2 : Y18.cell? ⟨gU, 2, none⟩ = some (.string x2) := U.out.var.cell 2
  have d3 : Y18.cell? ⟨gU, 3, none⟩ = some (.int .i64 x3) := U.out.var.cell 3
  have d4 : Y18.cell? ⟨gU, 4, none⟩ = some (.slice ua r5.length uk) := U.out.var.cell 4
  have d5 : Y18.cell? ⟨gU, 5, none⟩ = some (.int .i64 x5) := U.out.var.cell 5
  have d6 : Y18.cell? ⟨gU, 6, none⟩ = some (.int .i64 y0) := U.out.var.cell 6
  have d7 : Y18.cell? ⟨gU, 7, none⟩ = some (.string y1) := U.out.var.cell 7
  have d8 : Y18.cell? ⟨gU, 8, none⟩ = some (.string y2) := U.out.var.cell 8
  have d9 : Y18.cell? ⟨gU, 9, none⟩ = some (.int .i64 y3) := U.out.var.cell 9
  have d10 : Y18.cell? ⟨gU, 10, none⟩ = some (.slice ua' s5.length uk') := U.out.var.cell 10
  have d11 : Y18.cell? ⟨gU, 11, none⟩ = some (.int .i64 y5) := U.out.var.cell 11
  have K := Lib.hid (eqSlots_same x0 x1 x2 x3 _ r5 x5 y0 y1 y2 y3 _ s5 y5 _ _ Y18 HH.out.rd1 HH.out.rd2 U.out.rd1 U.out.rd2 (by omega) (by omega))
  go_wp2_with fail
  refine (K.out).mono ?_
  rintro e Y19 ⟨rfl, hb⟩
  have zY19 : Y18.heap.size ≤ Y19.heap.size := hb.size
  replace A0 := Lib.hid (A0.out.next hb)
  replace P0 := Lib.hid (P0.out.next hb)
  replace B0 := Lib.hid (B0.out.trans (hb.mono B0.out.size))
  replace U := Lib.hid (U.out.next hb)
  replace GG := Lib.hid (GG.out.next hb)
  replace HH := Lib.hid (HH.out.next hb)
  clear hb K c0 c1 c2 c3 c4 c5 c6 c7 c8 c9 c10 c11 d0 d1 d2 d3 d4 d5 d6 d7 d8 d9 d10 d11
  have c0 : Y19.cell? ⟨Y8.heap.size, 0, none⟩ = some (.int .i64 x0) := GG.out.var.cell 0
  have c1 : Y19.cell? ⟨Y8.heap.size, 1, none⟩ = some (.string x1) := GG.out.var.cell 1
  have c2 : Y19.cell? ⟨Y8.heap.size, 2, none⟩ = some (.string x2) := GG.out.var.cell 2
  have c3 : Y19.cell? ⟨Y8.heap.size, 3, none⟩ = some (.int .i64 x3) := GG.out.var.cell 3
  have c4 : Y19.cell? ⟨Y8.heap.size, 4, none⟩ = some (.slice ga r5.length gk) := GG.out.var.cell 4
  have c5 : Y19.cell? ⟨Y8.heap.size, 5, none⟩ = some (.int .i64 x5) := GG.out.var.cell 5
  have c6 : Y19.cell? ⟨Y8.heap.size, 6, none⟩ = some (.int .i64 y0) := GG.out.var.cell 6
  have c7 : Y19.cell? ⟨Y8.heap.size, 7, none⟩ = some (.string y1) := GG.out.var.cell 7
  have c8 : Y19.cell? ⟨Y8.heap.size, 8, none⟩ = some (.string y2) := GG.out.var.cell 8
  have c9 : Y19.cell? ⟨Y8.heap.size, 9, none⟩ = some (.int .i64 y3) := GG.out.var.cell 9
  have c10 : Y19.cell? ⟨Y8.heap.size, 10, none⟩ = some (.slice ga' s5.length gk') := GG.out.var.cell 10
  have c11 : Y19.cell? ⟨Y8.heap.size, 11, none⟩ = some (.int .i64 y5) := GG.out.var.cell 11
  have K := Lib.hid (GG.out.held (by omega) (by omega))
  rw [← HMG.out] at K
  go_wp2_with fail
  refine (K.out).mono ?_
  rintro e Y20 ⟨rfl, hb⟩
  have zY20 : Y19.heap.size ≤ Y20.heap.size := hb.size
  replace A0 := Lib.hid (A0.out.next hb)
  replace P0 := Lib.hid (P0.out.next hb)
  replace B0 := Lib.hid (B0.out.trans (hb.mono B0.out.size))
  replace U := Lib.hid (U.out.next hb)
  replace GG := Lib.hid (GG.out.next hb)
  replace HH := Lib.hid (HH.out.next hb)
  clear hb K c0 c1 c2 c3 c4 c5 c6 c7 c8 c9 c10 c11
  go_wp2_with fail
  go_ret
  exact ⟨rfl, B0.out⟩

end Go.Proofs.YtoaifgblbfdncabGreatDoor
