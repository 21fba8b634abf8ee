/-
  The walk of the law of packets.
-/
import Derived.Test.YtdhacjpdlmnlmadDoorJ16
import Derived.Test.YtdhacjpdlmnlmadDoorJ20
import Derived.Test.YtdhacjpdlmnlmadDoorJ21
namespace Go.Proofs.YtdhacjpdlmnlmadDoor
open Go.RowKit

theorem bigK_any (a : Option Addr) (len cap : Nat) (w : World) :
    Calls Tryd.prog 4 #[.slice a len cap] w fun e w' => e = .returned (.bool (decide (1048576 < (len : Int)))) ∧ w' = w := by
  go_enter Tryd.func4, Tryd.ntmps4
  go_wp2_with fail
  go_ret
  exact ⟨rfl, rfl⟩
theorem lawPackets_big (a : Option Addr) (len cap : Nat) (h : 1048576 < len) (w : World) :
    Calls Tryd.prog 3 #[.slice a len cap] w fun e w' => e = .returned (.bool true) ∧ Below w.heap.size w w' := by
  have hd : decide (1048576 < (len : Int)) = true := decide_eq_true (by omega)
  have HB := Lib.hid (fun w => bigK_any a len cap w)
  rw [hd] at HB
  go_enter Tryd.func3, Tryd.ntmps3
  go_wp2_with fail
  refine (HB.out _).mono ?_
  rintro e w1 ⟨rfl, rfl⟩
  go_wp2
  go_ret
  exact ⟨rfl, Below.refl _ _⟩
theorem nil_rd {X : World} : layIntS.rd X [.slice none 0 0] ([] : List Int) := layIntS.read (b := 0) (fp := []) ⟨_, rfl, .inl ⟨rfl, rfl, rfl⟩⟩

set_option maxRecDepth 100000 in
set_option maxHeartbeats 6400000 in
theorem lawPacketsF {L : World → Prop} (F0 : PacketFns L) (a : Option Addr) (len cap : Nat) (w : World) (H : Src a len w) (hL : L w) :
    Calls Tryd.prog 3 #[.slice a len cap] w fun e w' => e = .returned (.bool true) ∧ Below w.heap.size w w' := by
  have hd : decide (1048576 < (len : Int)) = false := decide_eq_false (by have := H.few; omega)
  have HB := Lib.hid (fun w => bigK_any a len cap w)
  rw [hd] at HB
  have HS := Lib.hid H
  have F := Lib.hid F0
  have LL : Hid (∀ X, Below w.heap.size w X → L X) := fun X hb => F0.stays w X hL hb
  clear H hL hd F0
  go_enter Tryd.func3, Tryd.ntmps3
  go_wp2_with fail
  refine (HB.out _).mono ?_
  rintro e w1 ⟨rfl, rfl⟩
  clear HB
  go_wp2_with fail
  refine (drawPacketText_any a len cap _ HS.out).mono ?_
  rintro e Y1 ⟨op, key, fr, dst, num, v, xs, body, hx, hbs, rfl, ⟨f, hown⟩, hb1⟩
  obtain ⟨va, vc, rfl⟩ := own_slice hown
  have hba := (Below.refl Y1.heap.size Y1).alloc (Nat.le_refl _) (.cells #[.int .i64 op, .int .i64 key, .int .i64 fr, .int .i64 dst, .int .i64 num, .slice va xs.length vc, .string body] PkT)
  have B2 := Lib.hid (hb1.trans (hba.mono hb1.size))
  have V2 := Lib.hid (VarA.new Y1 PkT #[.int .i64 op, .int .i64 key, .int .i64 fr, .int .i64 dst, .int .i64 num, .slice va xs.length vc, .string body])
  have R2 := Lib.hid (layIntS.below (layIntS.read hown) hba)
  clear hb1 hba hown
  go_upto_region 4 with fail
  generalize Y1.alloc (.cells #[.int .i64 op, .int .i64 key, .int .i64 fr, .int .i64 dst, .int .i64 num, .slice va xs.length vc, .string body] PkT) = Y2 at *
  generalize Y1.heap.size = g at *
  by_cases hy : PkOkP op key fr dst num xs body
  · obtain ⟨s, S⟩ : ∃ s : ByteArray, Hid (s = ⟨(sealedOf (pkB (pkOf op key fr dst num xs body))).toArray⟩) := ⟨_, rfl⟩
    have hsays : PI.says s ⟨op, key, fr, dst, num, xs, body⟩ := ⟨hy, S.out⟩
    have hs0 : 0 < s.size := by have := PI.says_size hsays; omega
    have hs1 : s.size ≤ 300 := by rw [S.out, sealedOf_size]; have := hy.few; omega
    have K3 := Lib.hid (F.out.text_yes op key fr dst num (.slice va xs.length vc) xs body hy)
    rw [← S.out] at K3
    have K4 := Lib.hid (fun X hX => (F.out.read s (by omega) X hX).mono (fun _ _ h => h.back hsays))
    have KB := Lib.hid (fun k b hk hb => PI.turned hsays (k := k) (b := b) hk hb)
    have KO := Lib.hid (fun X hX => (specPacketOk_any op key fr dst num (.slice va xs.length vc) xs body (by omega) (by omega) X hX).mono (R' := fun e X' => e = .returned (.bool true) ∧ Below X.heap.size X X') (fun _ _ h => ⟨h.1.elim (fun h => h.2) (fun h => absurd hy h.1), h.2⟩))
    have KI := Lib.hid (fun X hX hr => (F.out.ok op key fr dst num (.slice va xs.length vc) xs body (by omega) (by omega) X hX hr).mono (R' := fun e X' => e = .returned (.bool true) ∧ Below X.heap.size X X') (fun _ _ h => ⟨h.1.elim (fun h => h.2) (fun h => absurd hy h.1), h.2⟩))
    clear S hsays
    have c0 : Y2.cell? ⟨g, 0, none⟩ = some (.int .i64 op) := V2.out.cell 0
    have c1 : Y2.cell? ⟨g, 1, none⟩ = some (.int .i64 key) := V2.out.cell 1
    have c2 : Y2.cell? ⟨g, 2, none⟩ = some (.int .i64 fr) := V2.out.cell 2
    have c3 : Y2.cell? ⟨g, 3, none⟩ = some (.int .i64 dst) := V2.out.cell 3
    have c4 : Y2.cell? ⟨g, 4, none⟩ = some (.int .i64 num) := V2.out.cell 4
    have c5 : Y2.cell? ⟨g, 5, none⟩ = some (.slice va xs.length vc) := V2.out.cell 5
    have c6 : Y2.cell? ⟨g, 6, none⟩ = some (.string body) := V2.out.cell 6
    go_wp2_with fail
    refine (K3.out _ (LL.out _ B2.out) R2.out).mono ?_
    rintro e Y3 ⟨rfl, hb3⟩
    have B3 := Lib.hid (B2.out.trans (hb3.mono B2.out.size))
    have V3 := Lib.hid (V2.out.next hb3)
    have R3 := Lib.hid (layIntS.below R2.out hb3)
    clear hb3 B2 V2 R2 K3 c0 c1 c2 c3 c4 c5 c6
    go_wp2_with fail
    refine (K4.out _ (LL.out _ B3.out)).mono ?_
    rintro e Y4 ⟨xa, xc, f4, rfl, hown4, hb4⟩
    have hba := (Below.refl Y4.heap.size Y4).alloc (Nat.le_refl _) (.cells #[.int .i64 op, .int .i64 key, .int .i64 fr, .int .i64 dst, .int .i64 num, .slice xa xs.length xc, .string body] PkT)
    have hb4' := hb4.trans (hba.mono hb4.size)
    have B4 := Lib.hid (B3.out.trans (hb4'.mono B3.out.size))
    have V4 := Lib.hid (V3.out.next hb4')
    have R4 := Lib.hid (layIntS.below R3.out hb4')
    have X4 := Lib.hid (VarA.new Y4 PkT #[.int .i64 op, .int .i64 key, .int .i64 fr, .int .i64 dst, .int .i64 num, .slice xa xs.length xc, .string body])
    have Q4 := Lib.hid (layIntS.below (layIntS.read hown4) hba)
    clear hown4
    clear hba hb4 hb4' B3 V3 R3 K4
    go_upto_region 6 with fail
    generalize Y4.alloc (.cells #[.int .i64 op, .int .i64 key, .int .i64 fr, .int .i64 dst, .int .i64 num, .slice xa xs.length xc, .string body] PkT) = Z4 at *
    generalize Y4.heap.size = g6 at *
    have c0 : Z4.cell? ⟨g, 0, none⟩ = some (.int .i64 op) := V4.out.cell 0
    have c1 : Z4.cell? ⟨g, 1, none⟩ = some (.int .i64 key) := V4.out.cell 1
    have c2 : Z4.cell? ⟨g, 2, none⟩ = some (.int .i64 fr) := V4.out.cell 2
    have c3 : Z4.cell? ⟨g, 3, none⟩ = some (.int .i64 dst) := V4.out.cell 3
    have c4 : Z4.cell? ⟨g, 4, none⟩ = some (.int .i64 num) := V4.out.cell 4
    have c5 : Z4.cell? ⟨g, 5, none⟩ = some (.slice va xs.length vc) := V4.out.cell 5
    have c6 : Z4.cell? ⟨g, 6, none⟩ = some (.string body) := V4.out.cell 6
    go_wp2_with fail
    refine (KO.out _ R4.out).mono ?_
    rintro e Y5 ⟨rfl, hb5⟩
    have B5 := Lib.hid (B4.out.trans (hb5.mono B4.out.size))
    have V5 := Lib.hid (V4.out.next hb5)
    have R5 := Lib.hid (layIntS.below R4.out hb5)
    have X5 := Lib.hid (X4.out.next hb5)
    have Q5 := Lib.hid (layIntS.below Q4.out hb5)
    clear X4 Q4
    clear hb5 B4 V4 R4 c0 c1 c2 c3 c4 c5 c6
    have c0 : Y5.cell? ⟨g, 0, none⟩ = some (.int .i64 op) := V5.out.cell 0
    have c1 : Y5.cell? ⟨g, 1, none⟩ = some (.int .i64 key) := V5.out.cell 1
    have c2 : Y5.cell? ⟨g, 2, none⟩ = some (.int .i64 fr) := V5.out.cell 2
    have c3 : Y5.cell? ⟨g, 3, none⟩ = some (.int .i64 dst) := V5.out.cell 3
    have c4 : Y5.cell? ⟨g, 4, none⟩ = some (.int .i64 num) := V5.out.cell 4
    have c5 : Y5.cell? ⟨g, 5, none⟩ = some (.slice va xs.length vc) := V5.out.cell 5
    have c6 : Y5.cell? ⟨g, 6, none⟩ = some (.string body) := V5.out.cell 6
    go_wp2_with fail
    refine (KI.out _ (LL.out _ B5.out) R5.out).mono ?_
    rintro e Y5b ⟨rfl, hb5⟩
    have B5b := Lib.hid (B5.out.trans (hb5.mono B5.out.size))
    have V5b := Lib.hid (V5.out.next hb5)
    have R5b := Lib.hid (layIntS.below R5.out hb5)
    have X5b := Lib.hid (X5.out.next hb5)
    have Q5b := Lib.hid (layIntS.below Q5.out hb5)
    clear X5 Q5
    clear hb5 B5 V5 R5 KI KO c0 c1 c2 c3 c4 c5 c6
    have c0 : Y5b.cell? ⟨g, 0, none⟩ = some (.int .i64 op) := V5b.out.cell 0
    have c1 : Y5b.cell? ⟨g, 1, none⟩ = some (.int .i64 key) := V5b.out.cell 1
    have c2 : Y5b.cell? ⟨g, 2, none⟩ = some (.int .i64 fr) := V5b.out.cell 2
    have c3 : Y5b.cell? ⟨g, 3, none⟩ = some (.int .i64 dst) := V5b.out.cell 3
    have c4 : Y5b.cell? ⟨g, 4, none⟩ = some (.int .i64 num) := V5b.out.cell 4
    have c5 : Y5b.cell? ⟨g, 5, none⟩ = some (.slice va xs.length vc) := V5b.out.cell 5
    have c6 : Y5b.cell? ⟨g, 6, none⟩ = some (.string body) := V5b.out.cell 6
    have d0 : Y5b.cell? ⟨g6, 0, none⟩ = some (.int .i64 op) := X5b.out.cell 0
    have d1 : Y5b.cell? ⟨g6, 1, none⟩ = some (.int .i64 key) := X5b.out.cell 1
    have d2 : Y5b.cell? ⟨g6, 2, none⟩ = some (.int .i64 fr) := X5b.out.cell 2
    have d3 : Y5b.cell? ⟨g6, 3, none⟩ = some (.int .i64 dst) := X5b.out.cell 3
    have d4 : Y5b.cell? ⟨g6, 4, none⟩ = some (.int .i64 num) := X5b.out.cell 4
    have d5 : Y5b.cell? ⟨g6, 5, none⟩ = some (.slice xa xs.length xc) := X5b.out.cell 5
    have d6 : Y5b.cell? ⟨g6, 6, none⟩ = some (.string body) := X5b.out.cell 6
    go_wp2_with fail
    refine (samePacket_same op key fr dst num _ _ xs body (by omega) _ Q5b.out R5b.out).mono ?_
    rintro e Y5c ⟨rfl, hb5⟩
    have B5 := Lib.hid (B5b.out.trans (hb5.mono B5b.out.size))
    clear hb5 B5b V5b R5b X5b Q5b c0 c1 c2 c3 c4 c5 c6 d0 d1 d2 d3 d4 d5 d6
    go_wp2_with fail
    refine (drawReadPacket_any a len cap _ (HS.out.below B5.out)).mono ?_
    rintro e Y6 ⟨t, ht, rfl, hb6⟩
    have B6 := Lib.hid (B5.out.trans (hb6.mono B5.out.size))
    clear hb6 B5
    by_cases hq : ∃ q : PI, q.says t
    · obtain ⟨q, hq⟩ := hq
      have KT := Lib.hid (fun X hX => (F.out.read t (by omega) X hX).mono (fun _ _ h => h.back hq))
      have KU := Lib.hid (fun X => (specReadPacket_any t (by omega) X).mono (fun _ _ h => h.back hq))
      have KV : Hid (∀ v X, L X → layIntS.rd X [v] q.acks → Calls Tryd.prog 6 #[.agg #[.int .i64 q.op, .int .i64 q.key, .int .i64 q.fr, .int .i64 q.dst, .int .i64 q.num, v, .string q.body]] X fun e X' => e = .returned (.tuple #[.string t, .bool true]) ∧ Below X.heap.size X X') := fun v X hX hr => by
        have h := F.out.text_yes q.op q.key q.fr q.dst q.num v q.acks q.body hq.1 X hX hr
        rw [← hq.2] at h
        exact h
      clear hq
      go_wp2_with fail
      refine (KT.out _ (LL.out _ B6.out)).mono ?_
      rintro e Y7 ⟨qa, qn, f7, rfl, hown7, hb7⟩
      have hb7' := hb7.trans ((Below.refl Y7.heap.size Y7).alloc (Nat.le_refl _) (.cells #[.int .i64 q.op, .int .i64 q.key, .int .i64 q.fr, .int .i64 q.dst, .int .i64 q.num, .slice qa q.acks.length qn, .string q.body] PkT) |>.mono hb7.size)
      have B7 := Lib.hid (B6.out.trans (hb7'.mono B6.out.size))
      have V7 := Lib.hid (VarA.new Y7 PkT #[.int .i64 q.op, .int .i64 q.key, .int .i64 q.fr, .int .i64 q.dst, .int .i64 q.num, .slice qa q.acks.length qn, .string q.body])
      have R7 := Lib.hid (layIntS.below (layIntS.read hown7) ((Below.refl Y7.heap.size Y7).alloc (Nat.le_refl _) (.cells #[.int .i64 q.op, .int .i64 q.key, .int .i64 q.fr, .int .i64 q.dst, .int .i64 q.num, .slice qa q.acks.length qn, .string q.body] PkT)))
      clear hb7 hb7' hown7
      go_upto_region 10 with fail
      generalize Y7.alloc (.cells #[.int .i64 q.op, .int .i64 q.key, .int .i64 q.fr, .int .i64 q.dst, .int .i64 q.num, .slice qa q.acks.length qn, .string q.body] PkT) = Z7 at *
      generalize Y7.heap.size = g9 at *
      go_wp2_with fail
      refine (KU.out _).mono ?_
      rintro e Y8 ⟨ua, un, f8, rfl, _, hb8⟩
      have hb8' := hb8.trans ((Below.refl Y8.heap.size Y8).alloc (Nat.le_refl _) (.cells #[.int .i64 q.op, .int .i64 q.key, .int .i64 q.fr, .int .i64 q.dst, .int .i64 q.num, .slice ua q.acks.length un, .string q.body] PkT) |>.mono hb8.size)
      have B8 := Lib.hid (B7.out.trans (hb8'.mono B7.out.size))
      have V8 := Lib.hid (V7.out.next hb8')
      have R8 := Lib.hid (layIntS.below R7.out hb8')
      clear hb8 hb8' B7 V7 R7
      go_upto_region 11 with fail
      generalize Y8.alloc (.cells #[.int .i64 q.op, .int .i64 q.key, .int .i64 q.fr, .int .i64 q.dst, .int .i64 q.num, .slice ua q.acks.length un, .string q.body] PkT) = Z8 at *
      have k0 : Z8.cell? ⟨g9, 0, none⟩ = some (.int .i64 q.op) := V8.out.cell 0
      have k1 : Z8.cell? ⟨g9, 1, none⟩ = some (.int .i64 q.key) := V8.out.cell 1
      have k2 : Z8.cell? ⟨g9, 2, none⟩ = some (.int .i64 q.fr) := V8.out.cell 2
      have k3 : Z8.cell? ⟨g9, 3, none⟩ = some (.int .i64 q.dst) := V8.out.cell 3
      have k4 : Z8.cell? ⟨g9, 4, none⟩ = some (.int .i64 q.num) := V8.out.cell 4
      have k5 : Z8.cell? ⟨g9, 5, none⟩ = some (.slice qa q.acks.length qn) := V8.out.cell 5
      have k6 : Z8.cell? ⟨g9, 6, none⟩ = some (.string q.body) := V8.out.cell 6
      go_wp2_with fail
      refine (KV.out _ _ (LL.out _ B8.out) R8.out).mono ?_
      rintro e Y9 ⟨rfl, hb9⟩
      have B9 := Lib.hid (B8.out.trans (hb9.mono B8.out.size))
      clear hb9 B8 V8 R8 k0 k1 k2 k3 k4 k5 k6
      go_wp2_with fail
      refine (drawPlaces_any a len cap _ (HS.out.below B9.out)).mono ?_
      rintro e Y10 ⟨gp, cp, zs, hzl, hz, rfl, hgl, hzc, hb10⟩
      have B10 := Lib.hid (B9.out.trans (hb10.mono B9.out.size))
      clear hb10 B9
      have hz0 := hz _ (List.getElem_mem (l := zs) (n := 0) (by omega))
      have hz1 := hz _ (List.getElem_mem (l := zs) (n := 1) (by omega))
      have z0 := hzc 0 (by omega)
      have z1 := hzc 1 (by omega)
      rw [List.getD_eq_getElem?_getD, List.getElem?_eq_getElem (by omega)] at z0 z1
      have KX := Lib.hid (turnedAt_any s hs0 (by omega) gp cp _ _ hz0 hz1 Y10 hgl z0 z1)
      clear hz hzc z0 z1 hz0 hz1
      go_wp2_with fail
      refine KX.out.mono ?_
      rintro e Y11 ⟨k, b, hk, hb, rfl, hb11⟩
      have hnb := KB.out k b hk hb
      have hns : (⟨(s.data.toList.set k b).toArray⟩ : ByteArray).size ≤ 1048576 := by show (s.data.toList.set k b).toArray.size ≤ _; simp; omega
      generalize (⟨(s.data.toList.set k b).toArray⟩ : ByteArray) = sx at *
      have B11 := Lib.hid (B10.out.trans (hb11.mono B10.out.size))
      have KY := Lib.hid (fun X hX => (F.out.read sx hns X hX).mono (fun _ _ h => h.none hnb))
      clear hb11 B10 hnb
      go_wp2_with fail
      refine (KY.out _ (LL.out _ B11.out)).mono ?_
      rintro e Y12 ⟨rfl, hb12⟩
      have hb12' := hb12.trans ((Below.refl Y12.heap.size Y12).alloc (Nat.le_refl _) (.cells #[.int .i64 0, .int .i64 0, .int .i64 0, .int .i64 0, .int .i64 0, .slice none 0 0, .string ⟨#[]⟩] PkT) |>.mono hb12.size)
      have B12 := Lib.hid (B11.out.trans (hb12'.mono B11.out.size))
      clear hb12 hb12' B11 KY
      go_upto_region 13 with fail
      generalize Y12.alloc (.cells #[.int .i64 0, .int .i64 0, .int .i64 0, .int .i64 0, .int .i64 0, .slice none 0 0, .string ⟨#[]⟩] PkT) = Z12 at *
      go_wp2_with fail
      go_ret
      exact ⟨rfl, B12.out⟩
    · have hq' : ∀ q : PI, ¬ q.says t := fun q h => hq ⟨q, h⟩
      have KT := Lib.hid (fun X hX => (F.out.read t (by omega) X hX).mono (fun _ _ h => h.none hq'))
      have KU := Lib.hid (fun X => (specReadPacket_any t (by omega) X).mono (fun _ _ h => h.none hq'))
      have KV : Hid (∀ X, L X → Calls Tryd.prog 6 #[.agg #[.int .i64 0, .int .i64 0, .int .i64 0, .int .i64 0, .int .i64 0, .slice none 0 0, .string ⟨#[]⟩]] X fun e X' => e = .returned (.tuple #[.string ⟨#[]⟩, .bool false]) ∧ Below X.heap.size X X') := fun X hX => F.out.text_no 0 0 0 0 0 _ [] _ (by simp) (by show 0 ≤ _; omega) pk_zero X hX nil_rd
      clear hq hq'
      go_wp2_with fail
      refine (KT.out _ (LL.out _ B6.out)).mono ?_
      rintro e Y7 ⟨rfl, hb7⟩
      have hb7' := hb7.trans ((Below.refl Y7.heap.size Y7).alloc (Nat.le_refl _) (.cells #[.int .i64 0, .int .i64 0, .int .i64 0, .int .i64 0, .int .i64 0, .slice none 0 0, .string ⟨#[]⟩] PkT) |>.mono hb7.size)
      have B7 := Lib.hid (B6.out.trans (hb7'.mono B6.out.size))
      have V7 := Lib.hid (VarA.new Y7 PkT #[.int .i64 0, .int .i64 0, .int .i64 0, .int .i64 0, .int .i64 0, .slice none 0 0, .string ⟨#[]⟩])
      clear hb7 hb7'
      go_upto_region 10 with fail
      generalize Y7.alloc (.cells #[.int .i64 0, .int .i64 0, .int .i64 0, .int .i64 0, .int .i64 0, .slice none 0 0, .string ⟨#[]⟩] PkT) = Z7 at *
      generalize Y7.heap.size = g9 at *
      go_wp2_with fail
      refine (KU.out _).mono ?_
      rintro e Y8 ⟨rfl, hb8⟩
      have hb8' := hb8.trans ((Below.refl Y8.heap.size Y8).alloc (Nat.le_refl _) (.cells #[.int .i64 0, .int .i64 0, .int .i64 0, .int .i64 0, .int .i64 0, .slice none 0 0, .string ⟨#[]⟩] PkT) |>.mono hb8.size)
      have B8 := Lib.hid (B7.out.trans (hb8'.mono B7.out.size))
      have V8 := Lib.hid (V7.out.next hb8')
      clear hb8 hb8' B7 V7
      go_upto_region 11 with fail
      generalize Y8.alloc (.cells #[.int .i64 0, .int .i64 0, .int .i64 0, .int .i64 0, .int .i64 0, .slice none 0 0, .string ⟨#[]⟩] PkT) = Z8 at *
      have k0 : Z8.cell? ⟨g9, 0, none⟩ = some (.int .i64 0) := V8.out.cell 0
      have k1 : Z8.cell? ⟨g9, 1, none⟩ = some (.int .i64 0) := V8.out.cell 1
      have k2 : Z8.cell? ⟨g9, 2, none⟩ = some (.int .i64 0) := V8.out.cell 2
      have k3 : Z8.cell? ⟨g9, 3, none⟩ = some (.int .i64 0) := V8.out.cell 3
      have k4 : Z8.cell? ⟨g9, 4, none⟩ = some (.int .i64 0) := V8.out.cell 4
      have k5 : Z8.cell? ⟨g9, 5, none⟩ = some (.slice none 0 0) := V8.out.cell 5
      have k6 : Z8.cell? ⟨g9, 6, none⟩ = some (.string ⟨#[]⟩) := V8.out.cell 6
      go_wp2_with fail
      refine (KV.out _ (LL.out _ B8.out)).mono ?_
      rintro e Y9 ⟨rfl, hb9⟩
      have B9 := Lib.hid (B8.out.trans (hb9.mono B8.out.size))
      clear hb9 B8 V8 k0 k1 k2 k3 k4 k5 k6
      go_wp2_with fail
      refine (drawPlaces_any a len cap _ (HS.out.below B9.out)).mono ?_
      rintro e Y10 ⟨gp, cp, zs, hzl, hz, rfl, hgl, hzc, hb10⟩
      have B10 := Lib.hid (B9.out.trans (hb10.mono B9.out.size))
      clear hb10 B9
      have hz0 := hz _ (List.getElem_mem (l := zs) (n := 0) (by omega))
      have hz1 := hz _ (List.getElem_mem (l := zs) (n := 1) (by omega))
      have z0 := hzc 0 (by omega)
      have z1 := hzc 1 (by omega)
      rw [List.getD_eq_getElem?_getD, List.getElem?_eq_getElem (by omega)] at z0 z1
      have KX := Lib.hid (turnedAt_any s hs0 (by omega) gp cp _ _ hz0 hz1 Y10 hgl z0 z1)
      clear hz hzc z0 z1 hz0 hz1
      go_wp2_with fail
      refine KX.out.mono ?_
      rintro e Y11 ⟨k, b, hk, hb, rfl, hb11⟩
      have hnb := KB.out k b hk hb
      have hns : (⟨(s.data.toList.set k b).toArray⟩ : ByteArray).size ≤ 1048576 := by show (s.data.toList.set k b).toArray.size ≤ _; simp; omega
      generalize (⟨(s.data.toList.set k b).toArray⟩ : ByteArray) = sx at *
      have B11 := Lib.hid (B10.out.trans (hb11.mono B10.out.size))
      have KY := Lib.hid (fun X hX => (F.out.read sx hns X hX).mono (fun _ _ h => h.none hnb))
      clear hb11 B10 hnb
      go_wp2_with fail
      refine (KY.out _ (LL.out _ B11.out)).mono ?_
      rintro e Y12 ⟨rfl, hb12⟩
      have hb12' := hb12.trans ((Below.refl Y12.heap.size Y12).alloc (Nat.le_refl _) (.cells #[.int .i64 0, .int .i64 0, .int .i64 0, .int .i64 0, .int .i64 0, .slice none 0 0, .string ⟨#[]⟩] PkT) |>.mono hb12.size)
      have B12 := Lib.hid (B11.out.trans (hb12'.mono B11.out.size))
      clear hb12 hb12' B11 KY
      go_upto_region 13 with fail
      generalize Y12.alloc (.cells #[.int .i64 0, .int .i64 0, .int .i64 0, .int .i64 0, .int .i64 0, .slice none 0 0, .string ⟨#[]⟩] PkT) = Z12 at *
      go_wp2_with fail
      go_ret
      exact ⟨rfl, B12.out⟩
  · have K3 := Lib.hid (F.out.text_no op key fr dst num (.slice va xs.length vc) xs body (by omega) (by omega) hy)
    have K4 := Lib.hid (fun X hX => (F.out.read ⟨#[]⟩ (by show 0 ≤ _; omega) X hX).mono (fun _ _ h => h.none (fun p hp => by have h : 4 ≤ 0 := PI.says_size hp; omega)))
    have KO := Lib.hid (fun X hX => (specPacketOk_any op key fr dst num (.slice va xs.length vc) xs body (by omega) (by omega) X hX).mono (R' := fun e X' => e = .returned (.bool false) ∧ Below X.heap.size X X') (fun _ _ h => ⟨h.1.elim (fun h => absurd h.1 hy) (fun h => h.2), h.2⟩))
    have KI := Lib.hid (fun X hX hr => (F.out.ok op key fr dst num (.slice va xs.length vc) xs body (by omega) (by omega) X hX hr).mono (R' := fun e X' => e = .returned (.bool false) ∧ Below X.heap.size X X') (fun _ _ h => ⟨h.1.elim (fun h => absurd h.1 hy) (fun h => h.2), h.2⟩))
    have c0 : Y2.cell? ⟨g, 0, none⟩ = some (.int .i64 op) := V2.out.cell 0
    have c1 : Y2.cell? ⟨g, 1, none⟩ = some (.int .i64 key) := V2.out.cell 1
    have c2 : Y2.cell? ⟨g, 2, none⟩ = some (.int .i64 fr) := V2.out.cell 2
    have c3 : Y2.cell? ⟨g, 3, none⟩ = some (.int .i64 dst) := V2.out.cell 3
    have c4 : Y2.cell? ⟨g, 4, none⟩ = some (.int .i64 num) := V2.out.cell 4
    have c5 : Y2.cell? ⟨g, 5, none⟩ = some (.slice va xs.length vc) := V2.out.cell 5
    have c6 : Y2.cell? ⟨g, 6, none⟩ = some (.string body) := V2.out.cell 6
    go_wp2_with fail
    refine (K3.out _ (LL.out _ B2.out) R2.out).mono ?_
    rintro e Y3 ⟨rfl, hb3⟩
    have B3 := Lib.hid (B2.out.trans (hb3.mono B2.out.size))
    have V3 := Lib.hid (V2.out.next hb3)
    have R3 := Lib.hid (layIntS.below R2.out hb3)
    clear hb3 B2 V2 R2 K3 c0 c1 c2 c3 c4 c5 c6
    go_wp2_with fail
    refine (K4.out _ (LL.out _ B3.out)).mono ?_
    rintro e Y4 ⟨rfl, hb4⟩
    have hba := (Below.refl Y4.heap.size Y4).alloc (Nat.le_refl _) (.cells #[.int .i64 0, .int .i64 0, .int .i64 0, .int .i64 0, .int .i64 0, .slice none 0 0, .string ⟨#[]⟩] PkT)
    have hb4' := hb4.trans (hba.mono hb4.size)
    have B4 := Lib.hid (B3.out.trans (hb4'.mono B3.out.size))
    have V4 := Lib.hid (V3.out.next hb4')
    have R4 := Lib.hid (layIntS.below R3.out hb4')
    clear hba hb4 hb4' B3 V3 R3 K4
    go_upto_region 6 with fail
    generalize Y4.alloc (.cells #[.int .i64 0, .int .i64 0, .int .i64 0, .int .i64 0, .int .i64 0, .slice none 0 0, .string ⟨#[]⟩] PkT) = Z4 at *
    have c0 : Z4.cell? ⟨g, 0, none⟩ = some (.int .i64 op) := V4.out.cell 0
    have c1 : Z4.cell? ⟨g, 1, none⟩ = some (.int .i64 key) := V4.out.cell 1
    have c2 : Z4.cell? ⟨g, 2, none⟩ = some (.int .i64 fr) := V4.out.cell 2
    have c3 : Z4.cell? ⟨g, 3, none⟩ = some (.int .i64 dst) := V4.out.cell 3
    have c4 : Z4.cell? ⟨g, 4, none⟩ = some (.int .i64 num) := V4.out.cell 4
    have c5 : Z4.cell? ⟨g, 5, none⟩ = some (.slice va xs.length vc) := V4.out.cell 5
    have c6 : Z4.cell? ⟨g, 6, none⟩ = some (.string body) := V4.out.cell 6
    go_wp2_with fail
    refine (KO.out _ R4.out).mono ?_
    rintro e Y5 ⟨rfl, hb5⟩
    have B5 := Lib.hid (B4.out.trans (hb5.mono B4.out.size))
    have V5 := Lib.hid (V4.out.next hb5)
    have R5 := Lib.hid (layIntS.below R4.out hb5)
    clear hb5 B4 V4 R4 c0 c1 c2 c3 c4 c5 c6
    have c0 : Y5.cell? ⟨g, 0, none⟩ = some (.int .i64 op) := V5.out.cell 0
    have c1 : Y5.cell? ⟨g, 1, none⟩ = some (.int .i64 key) := V5.out.cell 1
    have c2 : Y5.cell? ⟨g, 2, none⟩ = some (.int .i64 fr) := V5.out.cell 2
    have c3 : Y5.cell? ⟨g, 3, none⟩ = some (.int .i64 dst) := V5.out.cell 3
    have c4 : Y5.cell? ⟨g, 4, none⟩ = some (.int .i64 num) := V5.out.cell 4
    have c5 : Y5.cell? ⟨g, 5, none⟩ = some (.slice va xs.length vc) := V5.out.cell 5
    have c6 : Y5.cell? ⟨g, 6, none⟩ = some (.string body) := V5.out.cell 6
    go_wp2_with fail
    refine (KI.out _ (LL.out _ B5.out) R5.out).mono ?_
    rintro e Y5b ⟨rfl, hb5⟩
    have B5b := Lib.hid (B5.out.trans (hb5.mono B5.out.size))
    have V5b := Lib.hid (V5.out.next hb5)
    have R5b := Lib.hid (layIntS.below R5.out hb5)
    clear hb5 B5 V5 R5 KI KO c0 c1 c2 c3 c4 c5 c6
    have B5 := B5b
    clear B5b V5b R5b
    go_wp2_with fail
    refine (drawReadPacket_any a len cap _ (HS.out.below B5.out)).mono ?_
    rintro e Y6 ⟨t, ht, rfl, hb6⟩
    have B6 := Lib.hid (B5.out.trans (hb6.mono B5.out.size))
    clear hb6 B5
    by_cases hq : ∃ q : PI, q.says t
    · obtain ⟨q, hq⟩ := hq
      have KT := Lib.hid (fun X hX => (F.out.read t (by omega) X hX).mono (fun _ _ h => h.back hq))
      have KU := Lib.hid (fun X => (specReadPacket_any t (by omega) X).mono (fun _ _ h => h.back hq))
      have KV : Hid (∀ v X, L X → layIntS.rd X [v] q.acks → Calls Tryd.prog 6 #[.agg #[.int .i64 q.op, .int .i64 q.key, .int .i64 q.fr, .int .i64 q.dst, .int .i64 q.num, v, .string q.body]] X fun e X' => e = .returned (.tuple #[.string t, .bool true]) ∧ Below X.heap.size X X') := fun v X hX hr => by
        have h := F.out.text_yes q.op q.key q.fr q.dst q.num v q.acks q.body hq.1 X hX hr
        rw [← hq.2] at h
        exact h
      clear hq
      go_wp2_with fail
      refine (KT.out _ (LL.out _ B6.out)).mono ?_
      rintro e Y7 ⟨qa, qn, f7, rfl, hown7, hb7⟩
      have hb7' := hb7.trans ((Below.refl Y7.heap.size Y7).alloc (Nat.le_refl _) (.cells #[.int .i64 q.op, .int .i64 q.key, .int .i64 q.fr, .int .i64 q.dst, .int .i64 q.num, .slice qa q.acks.length qn, .string q.body] PkT) |>.mono hb7.size)
      have B7 := Lib.hid (B6.out.trans (hb7'.mono B6.out.size))
      have V7 := Lib.hid (VarA.new Y7 PkT #[.int .i64 q.op, .int .i64 q.key, .int .i64 q.fr, .int .i64 q.dst, .int .i64 q.num, .slice qa q.acks.length qn, .string q.body])
      have R7 := Lib.hid (layIntS.below (layIntS.read hown7) ((Below.refl Y7.heap.size Y7).alloc (Nat.le_refl _) (.cells #[.int .i64 q.op, .int .i64 q.key, .int .i64 q.fr, .int .i64 q.dst, .int .i64 q.num, .slice qa q.acks.length qn, .string q.body] PkT)))
      clear hb7 hb7' hown7
      go_upto_region 10 with fail
      generalize Y7.alloc (.cells #[.int .i64 q.op, .int .i64 q.key, .int .i64 q.fr, .int .i64 q.dst, .int .i64 q.num, .slice qa q.acks.length qn, .string q.body] PkT) = Z7 at *
      generalize Y7.heap.size = g9 at *
      go_wp2_with fail
      refine (KU.out _).mono ?_
      rintro e Y8 ⟨ua, un, f8, rfl, _, hb8⟩
      have hb8' := hb8.trans ((Below.refl Y8.heap.size Y8).alloc (Nat.le_refl _) (.cells #[.int .i64 q.op, .int .i64 q.key, .int .i64 q.fr, .int .i64 q.dst, .int .i64 q.num, .slice ua q.acks.length un, .string q.body] PkT) |>.mono hb8.size)
      have B8 := Lib.hid (B7.out.trans (hb8'.mono B7.out.size))
      have V8 := Lib.hid (V7.out.next hb8')
      have R8 := Lib.hid (layIntS.below R7.out hb8')
      clear hb8 hb8' B7 V7 R7
      go_upto_region 11 with fail
      generalize Y8.alloc (.cells #[.int .i64 q.op, .int .i64 q.key, .int .i64 q.fr, .int .i64 q.dst, .int .i64 q.num, .slice ua q.acks.length un, .string q.body] PkT) = Z8 at *
      have k0 : Z8.cell? ⟨g9, 0, none⟩ = some (.int .i64 q.op) := V8.out.cell 0
      have k1 : Z8.cell? ⟨g9, 1, none⟩ = some (.int .i64 q.key) := V8.out.cell 1
      have k2 : Z8.cell? ⟨g9, 2, none⟩ = some (.int .i64 q.fr) := V8.out.cell 2
      have k3 : Z8.cell? ⟨g9, 3, none⟩ = some (.int .i64 q.dst) := V8.out.cell 3
      have k4 : Z8.cell? ⟨g9, 4, none⟩ = some (.int .i64 q.num) := V8.out.cell 4
      have k5 : Z8.cell? ⟨g9, 5, none⟩ = some (.slice qa q.acks.length qn) := V8.out.cell 5
      have k6 : Z8.cell? ⟨g9, 6, none⟩ = some (.string q.body) := V8.out.cell 6
      go_wp2_with fail
      refine (KV.out _ _ (LL.out _ B8.out) R8.out).mono ?_
      rintro e Y9 ⟨rfl, hb9⟩
      have B9 := Lib.hid (B8.out.trans (hb9.mono B8.out.size))
      clear hb9 B8 V8 R8 k0 k1 k2 k3 k4 k5 k6
      go_wp2_with fail
      refine (drawPlaces_any a len cap _ (HS.out.below B9.out)).mono ?_
      rintro e Y10 ⟨gp, cp, zs, hzl, hz, rfl, hgl, hzc, hb10⟩
      have B10 := Lib.hid (B9.out.trans (hb10.mono B9.out.size))
      clear hb10 B9
      clear hz hzc
      go_wp2_with fail
      refine (turned_none _ _).mono ?_
      rintro e Y11 ⟨rfl, hb11⟩
      have hnb : ∀ p : PI, ¬ p.says ⟨#[120]⟩ := fun p hp => by have h : 4 ≤ 1 := PI.says_size hp; omega
      have hns : (⟨#[120]⟩ : ByteArray).size ≤ 1048576 := by show 1 ≤ _; omega
      generalize (⟨#[120]⟩ : ByteArray) = sx at *
      have B11 := Lib.hid (B10.out.trans (hb11.mono B10.out.size))
      have KY := Lib.hid (fun X hX => (F.out.read sx hns X hX).mono (fun _ _ h => h.none hnb))
      clear hb11 B10 hnb
      go_wp2_with fail
      refine (KY.out _ (LL.out _ B11.out)).mono ?_
      rintro e Y12 ⟨rfl, hb12⟩
      have hb12' := hb12.trans ((Below.refl Y12.heap.size Y12).alloc (Nat.le_refl _) (.cells #[.int .i64 0, .int .i64 0, .int .i64 0, .int .i64 0, .int .i64 0, .slice none 0 0, .string ⟨#[]⟩] PkT) |>.mono hb12.size)
      have B12 := Lib.hid (B11.out.trans (hb12'.mono B11.out.size))
      clear hb12 hb12' B11 KY
      go_upto_region 13 with fail
      generalize Y12.alloc (.cells #[.int .i64 0, .int .i64 0, .int .i64 0, .int .i64 0, .int .i64 0, .slice none 0 0, .string ⟨#[]⟩] PkT) = Z12 at *
      go_wp2_with fail
      go_ret
      exact ⟨rfl, B12.out⟩
    · have hq' : ∀ q : PI, ¬ q.says t := fun q h => hq ⟨q, h⟩
      have KT := Lib.hid (fun X hX => (F.out.read t (by omega) X hX).mono (fun _ _ h => h.none hq'))
      have KU := Lib.hid (fun X => (specReadPacket_any t (by omega) X).mono (fun _ _ h => h.none hq'))
      have KV : Hid (∀ X, L X → Calls Tryd.prog 6 #[.agg #[.int .i64 0, .int .i64 0, .int .i64 0, .int .i64 0, .int .i64 0, .slice none 0 0, .string ⟨#[]⟩]] X fun e X' => e = .returned (.tuple #[.string ⟨#[]⟩, .bool false]) ∧ Below X.heap.size X X') := fun X hX => F.out.text_no 0 0 0 0 0 _ [] _ (by simp) (by show 0 ≤ _; omega) pk_zero X hX nil_rd
      clear hq hq'
      go_wp2_with fail
      refine (KT.out _ (LL.out _ B6.out)).mono ?_
      rintro e Y7 ⟨rfl, hb7⟩
      have hb7' := hb7.trans ((Below.refl Y7.heap.size Y7).alloc (Nat.le_refl _) (.cells #[.int .i64 0, .int .i64 0, .int .i64 0, .int .i64 0, .int .i64 0, .slice none 0 0, .string ⟨#[]⟩] PkT) |>.mono hb7.size)
      have B7 := Lib.hid (B6.out.trans (hb7'.mono B6.out.size))
      have V7 := Lib.hid (VarA.new Y7 PkT #[.int .i64 0, .int .i64 0, .int .i64 0, .int .i64 0, .int .i64 0, .slice none 0 0, .string ⟨#[]⟩])
      clear hb7 hb7'
      go_upto_region 10 with fail
      generalize Y7.alloc (.cells #[.int .i64 0, .int .i64 0, .int .i64 0, .int .i64 0, .int .i64 0, .slice none 0 0, .string ⟨#[]⟩] PkT) = Z7 at *
      generalize Y7.heap.size = g9 at *
      go_wp2_with fail
      refine (KU.out _).mono ?_
      rintro e Y8 ⟨rfl, hb8⟩
      have hb8' := hb8.trans ((Below.refl Y8.heap.size Y8).alloc (Nat.le_refl _) (.cells #[.int .i64 0, .int .i64 0, .int .i64 0, .int .i64 0, .int .i64 0, .slice none 0 0, .string ⟨#[]⟩] PkT) |>.mono hb8.size)
      have B8 := Lib.hid (B7.out.trans (hb8'.mono B7.out.size))
      have V8 := Lib.hid (V7.out.next hb8')
      clear hb8 hb8' B7 V7
      go_upto_region 11 with fail
      generalize Y8.alloc (.cells #[.int .i64 0, .int .i64 0, .int .i64 0, .int .i64 0, .int .i64 0, .slice none 0 0, .string ⟨#[]⟩] PkT) = Z8 at *
      have k0 : Z8.cell? ⟨g9, 0, none⟩ = some (.int .i64 0) := V8.out.cell 0
      have k1 : Z8.cell? ⟨g9, 1, none⟩ = some (.int .i64 0) := V8.out.cell 1
      have k2 : Z8.cell? ⟨g9, 2, none⟩ = some (.int .i64 0) := V8.out.cell 2
      have k3 : Z8.cell? ⟨g9, 3, none⟩ = some (.int .i64 0) := V8.out.cell 3
      have k4 : Z8.cell? ⟨g9, 4, none⟩ = some (.int .i64 0) := V8.out.cell 4
      have k5 : Z8.cell? ⟨g9, 5, none⟩ = some (.slice none 0 0) := V8.out.cell 5
      have k6 : Z8.cell? ⟨g9, 6, none⟩ = some (.string ⟨#[]⟩) := V8.out.cell 6
      go_wp2_with fail
      refine (KV.out _ (LL.out _ B8.out)).mono ?_
      rintro e Y9 ⟨rfl, hb9⟩
      have B9 := Lib.hid (B8.out.trans (hb9.mono B8.out.size))
      clear hb9 B8 V8 k0 k1 k2 k3 k4 k5 k6
      go_wp2_with fail
      refine (drawPlaces_any a len cap _ (HS.out.below B9.out)).mono ?_
      rintro e Y10 ⟨gp, cp, zs, hzl, hz, rfl, hgl, hzc, hb10⟩
      have B10 := Lib.hid (B9.out.trans (hb10.mono B9.out.size))
      clear hb10 B9
      clear hz hzc
      go_wp2_with fail
      refine (turned_none _ _).mono ?_
      rintro e Y11 ⟨rfl, hb11⟩
      have hnb : ∀ p : PI, ¬ p.says ⟨#[120]⟩ := fun p hp => by have h : 4 ≤ 1 := PI.says_size hp; omega
      have hns : (⟨#[120]⟩ : ByteArray).size ≤ 1048576 := by show 1 ≤ _; omega
      generalize (⟨#[120]⟩ : ByteArray) = sx at *
      have B11 := Lib.hid (B10.out.trans (hb11.mono B10.out.size))
      have KY := Lib.hid (fun X hX => (F.out.read sx hns X hX).mono (fun _ _ h => h.none hnb))
      clear hb11 B10 hnb
      go_wp2_with fail
      refine (KY.out _ (LL.out _ B11.out)).mono ?_
      rintro e Y12 ⟨rfl, hb12⟩
      have hb12' := hb12.trans ((Below.refl Y12.heap.size Y12).alloc (Nat.le_refl _) (.cells #[.int .i64 0, .int .i64 0, .int .i64 0, .int .i64 0, .int .i64 0, .slice none 0 0, .string ⟨#[]⟩] PkT) |>.mono hb12.size)
      have B12 := Lib.hid (B11.out.trans (hb12'.mono B11.out.size))
      clear hb12 hb12' B11 KY
      go_upto_region 13 with fail
      generalize Y12.alloc (.cells #[.int .i64 0, .int .i64 0, .int .i64 0, .int .i64 0, .int .i64 0, .slice none 0 0, .string ⟨#[]⟩] PkT) = Z12 at *
      go_wp2_with fail
      go_ret
      exact ⟨rfl, B12.out⟩

end Go.Proofs.YtdhacjpdlmnlmadDoor
