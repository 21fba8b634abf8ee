/-
  The given Take.
-/
import Derived.Test.YthljmjbmmgligarJ21
import Derived.Test.YthljmjbmmgligarJ23
import Derived.Test.YthljmjbmmgligarJ10
namespace Go.Proofs.Ythljmjbmmgligar
open Go.RowKit

/-- What is still to be acknowledged. -/
def takeAcks (acks : List Int) (ss : List PendingD) : List PendingD := ss.filter (fun s => decide (s.1 ∉ acks))
/-- What is owed, with one more. -/
def takeOwed (num : Int) (os : List Int) : List Int := if os.length < 4 ∧ num ∉ os then os ++ [num] else os
/-- Whether a text comes in. -/
def takeNew (got num : Int) (es : List EarlyD) : Bool := decide (got < num) && decide (∀ e ∈ es, e.1 ≠ num)
/-- A packet that is taken. -/
def TakeOk (me peer next got : Int) (qs : List ByteArray) (ss : List PendingD) (es : List EarlyD) (os : List Int) (xs : List ByteArray) (op key fr dst num : Int) (acks : List Int) (body : ByteArray) : Prop :=
  (ChanP me peer next got qs ss es os xs ∧ PkOkP op key fr dst num acks body ∧ op ≠ 3 ∧ fr = peer ∧ dst = me) ∧ (op = 1 → 1 ≤ num ∧ num ≤ got + 4) ∧ got ≤ 990
/-- How Take ends. -/
def TakeEnd (me peer next got : Int) (qs : List ByteArray) (ss : List PendingD) (es : List EarlyD) (os : List Int) (xs : List ByteArray) (op num : Int) (acks : List Int) (body : ByteArray) (b : Bool) (w : World) (e : Ending) (w' : World) : Prop :=
  if b = false then ChanRet false me peer next got qs ss es os xs w e w'
  else if op = 2 then ChanRet true me peer next got qs (takeAcks acks ss) es os xs w e w'
  else if takeNew got num es = true then ChanRet true me peer next (got + (drainN got (putE num body es) : Nat)) qs (takeAcks acks ss) ((putE num body es).drop (drainN got (putE num body es))) (takeOwed num os) (xs ++ ((putE num body es).take (drainN got (putE num body es))).map (·.2)) w e w'
  else ChanRet true me peer next got qs (takeAcks acks ss) es (takeOwed num os) xs w e w'
theorem specPacketOk_bool (op key fr dst num : Int) (v : Value) (acks : List Int) (body : ByteArray) (b : Bool) (hb : b = true ↔ PkOkP op key fr dst num acks body) (hl : acks.length ≤ 100000000) (hs : body.size ≤ 100000000) (w : World) (h : layIntS.rd w [v] acks) :
    Calls Try.prog 66 #[.agg #[.int .i64 op, .int .i64 key, .int .i64 fr, .int .i64 dst, .int .i64 num, v, .string body]] w fun e w' => e = .returned (.bool b) ∧ Below w.heap.size w w' := by
  refine (specPacketOk_any op key fr dst num v acks body hl hs w h).mono ?_
  rintro e w' ⟨⟨hy, rfl⟩ | ⟨hn, rfl⟩, hbz⟩
  · rw [hb.2 hy]
    exact ⟨rfl, hbz⟩
  · cases b with
    | false => exact ⟨rfl, hbz⟩
    | true => exact absurd (hb.1 rfl) hn
/-- The argument's variable, the packet's, the result's, the copy's. -/
structure TS (w : World) (lo G : Nat) (ca cp cb : Array Value) (X : World) : Prop where
  arg : VarA w.heap.size ChanT ca X
  pkt : VarA (w.heap.size + 1) PkT cp X
  res : VarA (w.heap.size + 2) ChanT #[.int .i64 0, .int .i64 0, .int .i64 0, .slice none 0 0, .slice none 0 0, .int .i64 0, .slice none 0 0, .slice none 0 0, .slice none 0 0] X
  var : VarA G ChanT cb X
  lt : w.heap.size + 2 < lo
  lg : lo ≤ G
  low : w.heap.size ≤ lo
  below : Below w.heap.size w X
section
variable {w : World} {lo G : Nat} {ca cp cb : Array Value} {X Y : World}
theorem TS.next (h : TS w lo G ca cp cb X) (hb : Below X.heap.size X Y) : TS w lo G ca cp cb Y := ⟨h.arg.next hb, h.pkt.next hb, h.res.next hb, h.var.next hb, h.lt, h.lg, h.low, h.below.trans (hb.mono h.below.size)⟩
theorem TS.room (h : TS w lo G ca cp cb X) : lo ≤ X.heap.size := Nat.le_trans h.lg (Nat.le_of_lt h.var.lt)
/-- Something from lo on has changed, and the copy with it. -/
theorem TS.turn {cb' : Array Value} (h : TS w lo G ca cp cb X) (hb : Below lo X Y) (hv : VarA G ChanT cb' Y) : TS w lo G ca cp cb' Y := by
  have h1 := h.lt
  exact ⟨h.arg.keep hb (by omega), h.pkt.keep hb (by omega), h.res.keep hb (by omega), hv, h.lt, h.lg, h.low, h.below.trans (hb.mono h.low)⟩
end

set_option maxRecDepth 100000 in
set_option maxHeartbeats 12800000 in
theorem specTake_any (me peer next got : Int) (vq vs ve vo vx : Value) (qs : List ByteArray) (ss : List PendingD) (es : List EarlyD) (os : List Int) (xs : List ByteArray) (op key fr dst num : Int) (vp : Value) (acks : List Int) (body : ByteArray) (la : acks.length ≤ 100000000) (lb : body.size ≤ 100000000) (lq : qs.length ≤ 100000000) (ls : ss.length ≤ 100000000) (le : es.length ≤ 100000000) (lo : os.length ≤ 100000000) (lx : xs.length ≤ 100000000) (w : World) (hq : layStringS.rd w [vq] qs) (hs : layPendingS.rd w [vs] ss) (he : layEarlyS.rd w [ve] es) (ho : layIntS.rd w [vo] os) (hx : layStringS.rd w [vx] xs) (hp : layIntS.rd w [vp] acks) (b : Bool) (hb : b = true ↔ TakeOk me peer next got qs ss es os xs op key fr dst num acks body) :
    Calls Try.prog 25 #[.agg #[.int .i64 me, .int .i64 peer, .int .i64 next, vq, vs, .int .i64 got, ve, vo, vx], .agg #[.int .i64 op, .int .i64 key, .int .i64 fr, .int .i64 dst, .int .i64 num, vp, .string body]] w (TakeEnd me peer next got qs ss es os xs op num acks body b w) := by
  obtain ⟨qa, qc, rfl⟩ := rows_form hq
  obtain ⟨sa, sc, rfl⟩ := rows_form hs
  obtain ⟨ea, ec, rfl⟩ := rows_form he
  obtain ⟨oa, oc, rfl⟩ := rows_form ho
  obtain ⟨xa, xc, rfl⟩ := rows_form hx
  obtain ⟨pa, pc, rfl⟩ := rows_form hp
  obtain ⟨i0, hi0, hz0, hsz0, hby0⟩ := info_of infoPending
  obtain ⟨i1, hi1, hz1, hsz1, hby1⟩ := info_of infoInt
  have HB := Lib.hid hb
  have e1 : (w.alloc (.cells #[.int .i64 me, .int .i64 peer, .int .i64 next, .slice qa qs.length qc, .slice sa ss.length sc, .int .i64 got, .slice ea es.length ec, .slice oa os.length oc, .slice xa xs.length xc] ChanT)).heap.size = w.heap.size + 1 := by simp
  have e2 : ((w.alloc (.cells #[.int .i64 me, .int .i64 peer, .int .i64 next, .slice qa qs.length qc, .slice sa ss.length sc, .int .i64 got, .slice ea es.length ec, .slice oa os.length oc, .slice xa xs.length xc] ChanT)).alloc (.cells #[.int .i64 op, .int .i64 key, .int .i64 fr, .int .i64 dst, .int .i64 num, .slice pa acks.length pc, .string body] PkT)).heap.size = w.heap.size + 2 := by simp
  have A0 := Lib.hid (((VarA.new w ChanT #[.int .i64 me, .int .i64 peer, .int .i64 next, .slice qa qs.length qc, .slice sa ss.length sc, .int .i64 got, .slice ea es.length ec, .slice oa os.length oc, .slice xa xs.length xc]).alloc (.cells #[.int .i64 op, .int .i64 key, .int .i64 fr, .int .i64 dst, .int .i64 num, .slice pa acks.length pc, .string body] PkT)).alloc (.cells #[.int .i64 0, .int .i64 0, .int .i64 0, .slice none 0 0, .slice none 0 0, .int .i64 0, .slice none 0 0, .slice none 0 0, .slice none 0 0] ChanT))
  have hp0 := (VarA.new (w.alloc (.cells #[.int .i64 me, .int .i64 peer, .int .i64 next, .slice qa qs.length qc, .slice sa ss.length sc, .int .i64 got, .slice ea es.length ec, .slice oa os.length oc, .slice xa xs.length xc] ChanT)) PkT #[.int .i64 op, .int .i64 key, .int .i64 fr, .int .i64 dst, .int .i64 num, .slice pa acks.length pc, .string body]).alloc (.cells #[.int .i64 0, .int .i64 0, .int .i64 0, .slice none 0 0, .slice none 0 0, .int .i64 0, .slice none 0 0, .slice none 0 0, .slice none 0 0] ChanT)
  have hr0 := VarA.new ((w.alloc (.cells #[.int .i64 me, .int .i64 peer, .int .i64 next, .slice qa qs.length qc, .slice sa ss.length sc, .int .i64 got, .slice ea es.length ec, .slice oa os.length oc, .slice xa xs.length xc] ChanT)).alloc (.cells #[.int .i64 op, .int .i64 key, .int .i64 fr, .int .i64 dst, .int .i64 num, .slice pa acks.length pc, .string body] PkT)) ChanT #[.int .i64 0, .int .i64 0, .int .i64 0, .slice none 0 0, .slice none 0 0, .int .i64 0, .slice none 0 0, .slice none 0 0, .slice none 0 0]
  rw [e1] at hp0
  rw [e2] at hr0
  have P0 := Lib.hid hp0
  have R0 := Lib.hid hr0
  have B0 := Lib.hid ((((Below.refl w.heap.size w).alloc (Nat.le_refl _) (.cells #[.int .i64 me, .int .i64 peer, .int .i64 next, .slice qa qs.length qc, .slice sa ss.length sc, .int .i64 got, .slice ea es.length ec, .slice oa os.length oc, .slice xa xs.length xc] ChanT)).alloc (by simp) (.cells #[.int .i64 op, .int .i64 key, .int .i64 fr, .int .i64 dst, .int .i64 num, .slice pa acks.length pc, .string body] PkT)).alloc (by simp; omega) (.cells #[.int .i64 0, .int .i64 0, .int .i64 0, .slice none 0 0, .slice none 0 0, .int .i64 0, .slice none 0 0, .slice none 0 0, .slice none 0 0] ChanT))
  have HQ := Lib.hid hq
  have HS := Lib.hid hs
  have HE := Lib.hid he
  have HO := Lib.hid ho
  have HX := Lib.hid hx
  have HP := Lib.hid hp
  clear hb hq hs he ho hx hp hr0 hp0 e1 e2
  obtain ⟨Q, HQQ⟩ : ∃ Q : Ending → World → Prop, Hid (Q = TakeEnd me peer next got qs ss es os xs op num acks body b w) := ⟨_, Lib.hid rfl⟩
  rw [← HQQ.out]
  go_enter Try.func25, Try.ntmps25
  go_upto_region 1 with fail
  generalize ((w.alloc (.cells #[.int .i64 me, .int .i64 peer, .int .i64 next, .slice qa qs.length qc, .slice sa ss.length sc, .int .i64 got, .slice ea es.length ec, .slice oa os.length oc, .slice xa xs.length xc] ChanT)).alloc (.cells #[.int .i64 op, .int .i64 key, .int .i64 fr, .int .i64 dst, .int .i64 num, .slice pa acks.length pc, .string body] PkT)).alloc (.cells #[.int .i64 0, .int .i64 0, .int .i64 0, .slice none 0 0, .slice none 0 0, .int .i64 0, .slice none 0 0, .slice none 0 0, .slice none 0 0] ChanT) = Y at *
  have c0 : Y.cell? ⟨w.heap.size, 0, none⟩ = some (.int .i64 me) := A0.out.cell 0
  have c1 : Y.cell? ⟨w.heap.size, 1, none⟩ = some (.int .i64 peer) := A0.out.cell 1
  have c2 : Y.cell? ⟨w.heap.size, 2, none⟩ = some (.int .i64 next) := A0.out.cell 2
  have c3 : Y.cell? ⟨w.heap.size, 3, none⟩ = some (.slice qa qs.length qc) := A0.out.cell 3
  have c4 : Y.cell? ⟨w.heap.size, 4, none⟩ = some (.slice sa ss.length sc) := A0.out.cell 4
  have c5 : Y.cell? ⟨w.heap.size, 5, none⟩ = some (.int .i64 got) := A0.out.cell 5
  have c6 : Y.cell? ⟨w.heap.size, 6, none⟩ = some (.slice ea es.length ec) := A0.out.cell 6
  have c7 : Y.cell? ⟨w.heap.size, 7, none⟩ = some (.slice oa os.length oc) := A0.out.cell 7
  have c8 : Y.cell? ⟨w.heap.size, 8, none⟩ = some (.slice xa xs.length xc) := A0.out.cell 8
  have K := Lib.hid (specChanCopy_any me peer next _ qs _ ss got _ es _ os _ xs Y (layStringS.below HQ.out B0.out) lq (layPendingS.below HS.out B0.out) ls (layEarlyS.below HE.out B0.out) le (layIntS.below HO.out B0.out) lo (layStringS.below HX.out B0.out) lx)
  go_wp2_with fail
  refine (K.out).mono ?_
  intro e Y1 hcp
  obtain ⟨a3, k3, a4, k4, a6, k6, a7, k7, a8, k8, rfl, hco, hb1⟩ := hcp.co
  have hYlt := R0.out.lt
  have hlen9 := lo
  clear lo
  obtain ⟨lo, HLO⟩ : ∃ n : Nat, Hid (n = Y.heap.size) := ⟨_, Lib.hid rfl⟩
  rw [← HLO.out] at hco
  have CO1 : Hid (CO lo (.slice (some ⟨a3, 0, none⟩) qs.length k3) (.slice (some ⟨a4, 0, none⟩) ss.length k4) (.slice (some ⟨a6, 0, none⟩) es.length k6) (.slice (some ⟨a7, 0, none⟩) os.length k7) (.slice (some ⟨a8, 0, none⟩) xs.length k8) [a3] [a4] [a6] [a7] [a8] qs ss es os xs (Y1.alloc (.cells #[.int .i64 me, .int .i64 peer, .int .i64 next, .slice (some ⟨a3, 0, none⟩) qs.length k3, .slice (some ⟨a4, 0, none⟩) ss.length k4, .int .i64 got, .slice (some ⟨a6, 0, none⟩) es.length k6, .slice (some ⟨a7, 0, none⟩) os.length k7, .slice (some ⟨a8, 0, none⟩) xs.length k8] ChanT))) := hco.next ((Below.refl _ _).alloc (Nat.le_refl _) _)
  have P1 : Hid (TS w lo Y1.heap.size #[.int .i64 me, .int .i64 peer, .int .i64 next, .slice qa qs.length qc, .slice sa ss.length sc, .int .i64 got, .slice ea es.length ec, .slice oa os.length oc, .slice xa xs.length xc] #[.int .i64 op, .int .i64 key, .int .i64 fr, .int .i64 dst, .int .i64 num, .slice pa acks.length pc, .string body] #[.int .i64 me, .int .i64 peer, .int .i64 next, .slice (some ⟨a3, 0, none⟩) qs.length k3, .slice (some ⟨a4, 0, none⟩) ss.length k4, .int .i64 got, .slice (some ⟨a6, 0, none⟩) es.length k6, .slice (some ⟨a7, 0, none⟩) os.length k7, .slice (some ⟨a8, 0, none⟩) xs.length k8] (Y1.alloc (.cells #[.int .i64 me, .int .i64 peer, .int .i64 next, .slice (some ⟨a3, 0, none⟩) qs.length k3, .slice (some ⟨a4, 0, none⟩) ss.length k4, .int .i64 got, .slice (some ⟨a6, 0, none⟩) es.length k6, .slice (some ⟨a7, 0, none⟩) os.length k7, .slice (some ⟨a8, 0, none⟩) xs.length k8] ChanT))) := ⟨(A0.out.next hb1).alloc _, (P0.out.next hb1).alloc _, (R0.out.next hb1).alloc _, VarA.new Y1 ChanT _, by rw [HLO.out]; omega, by rw [HLO.out]; exact hb1.size, by rw [HLO.out]; omega, (B0.out.trans (hb1.mono B0.out.size)).alloc (by have := hb1.size; have := B0.out.size; omega) _⟩
  clear hcp hco hb1 hYlt K A0 P0 R0 B0 HLO c0 c1 c2 c3 c4 c5 c6 c7 c8
  go_upto_region 2 with fail
  generalize Y1.alloc (.cells #[.int .i64 me, .int .i64 peer, .int .i64 next, .slice (some ⟨a3, 0, none⟩) qs.length k3, .slice (some ⟨a4, 0, none⟩) ss.length k4, .int .i64 got, .slice (some ⟨a6, 0, none⟩) es.length k6, .slice (some ⟨a7, 0, none⟩) os.length k7, .slice (some ⟨a8, 0, none⟩) xs.length k8] ChanT) = X1 at *
  generalize Y1.heap.size = G at *
  have c0 : X1.cell? ⟨w.heap.size, 0, none⟩ = some (.int .i64 me) := P1.out.arg.cell 0
  have c1 : X1.cell? ⟨w.heap.size, 1, none⟩ = some (.int .i64 peer) := P1.out.arg.cell 1
  have c2 : X1.cell? ⟨w.heap.size, 2, none⟩ = some (.int .i64 next) := P1.out.arg.cell 2
  have c3 : X1.cell? ⟨w.heap.size, 3, none⟩ = some (.slice qa qs.length qc) := P1.out.arg.cell 3
  have c4 : X1.cell? ⟨w.heap.size, 4, none⟩ = some (.slice sa ss.length sc) := P1.out.arg.cell 4
  have c5 : X1.cell? ⟨w.heap.size, 5, none⟩ = some (.int .i64 got) := P1.out.arg.cell 5
  have c6 : X1.cell? ⟨w.heap.size, 6, none⟩ = some (.slice ea es.length ec) := P1.out.arg.cell 6
  have c7 : X1.cell? ⟨w.heap.size, 7, none⟩ = some (.slice oa os.length oc) := P1.out.arg.cell 7
  have c8 : X1.cell? ⟨w.heap.size, 8, none⟩ = some (.slice xa xs.length xc) := P1.out.arg.cell 8
  have z0 : X1.cell? ⟨w.heap.size + 1, 0, none⟩ = some (.int .i64 op) := P1.out.pkt.cell 0
  have z1 : X1.cell? ⟨w.heap.size + 1, 1, none⟩ = some (.int .i64 key) := P1.out.pkt.cell 1
  have z2 : X1.cell? ⟨w.heap.size + 1, 2, none⟩ = some (.int .i64 fr) := P1.out.pkt.cell 2
  have z3 : X1.cell? ⟨w.heap.size + 1, 3, none⟩ = some (.int .i64 dst) := P1.out.pkt.cell 3
  have z4 : X1.cell? ⟨w.heap.size + 1, 4, none⟩ = some (.int .i64 num) := P1.out.pkt.cell 4
  have z5 : X1.cell? ⟨w.heap.size + 1, 5, none⟩ = some (.slice pa acks.length pc) := P1.out.pkt.cell 5
  have z6 : X1.cell? ⟨w.heap.size + 1, 6, none⟩ = some (.string body) := P1.out.pkt.cell 6
  go_cut [37] (fun v wx => ∃ c : Bool, v = .bool c ∧ Hid (c = true → ¬ (ChanP me peer next got qs ss es os xs ∧ PkOkP op key fr dst num acks body ∧ op ≠ 3 ∧ fr = peer ∧ dst = me)) ∧ Hid (c = false → (ChanP me peer next got qs ss es os xs ∧ PkOkP op key fr dst num acks body ∧ op ≠ 3 ∧ fr = peer ∧ dst = me)) ∧ Hid (TS w lo G #[.int .i64 me, .int .i64 peer, .int .i64 next, .slice qa qs.length qc, .slice sa ss.length sc, .int .i64 got, .slice ea es.length ec, .slice oa os.length oc, .slice xa xs.length xc] #[.int .i64 op, .int .i64 key, .int .i64 fr, .int .i64 dst, .int .i64 num, .slice pa acks.length pc, .string body] #[.int .i64 me, .int .i64 peer, .int .i64 next, .slice (some ⟨a3, 0, none⟩) qs.length k3, .slice (some ⟨a4, 0, none⟩) ss.length k4, .int .i64 got, .slice (some ⟨a6, 0, none⟩) es.length k6, .slice (some ⟨a7, 0, none⟩) os.length k7, .slice (some ⟨a8, 0, none⟩) xs.length k8] wx) ∧ Hid (CO lo (.slice (some ⟨a3, 0, none⟩) qs.length k3) (.slice (some ⟨a4, 0, none⟩) ss.length k4) (.slice (some ⟨a6, 0, none⟩) es.length k6) (.slice (some ⟨a7, 0, none⟩) os.length k7) (.slice (some ⟨a8, 0, none⟩) xs.length k8) [a3] [a4] [a6] [a7] [a8] qs ss es os xs wx))
  case first =>
    by_cases hok : ChanP me peer next got qs ss es os xs
    rotate_left
    · have K := Lib.hid (specChanOk_bool me peer next got _ _ _ _ _ qs ss es os xs false ⟨fun e => (by cases e), fun e => absurd e hok⟩ lq ls le hlen9 lx X1 (layStringS.below HQ.out P1.out.below) (layPendingS.below HS.out P1.out.below) (layEarlyS.below HE.out P1.out.below) (layIntS.below HO.out P1.out.below) (layStringS.below HX.out P1.out.below))
      go_wp2_with fail
      refine (K.out).mono ?_
      rintro e X2 ⟨rfl, hb2⟩
      have P2 := Lib.hid (P1.out.next hb2)
      have CO2 := Lib.hid (CO1.out.next hb2)
      clear hb2 K
      go_wp2_with fail
      go_meet
      exact ⟨true, rfl, (fun _ h => hok h.1), (fun h => by cases h), P2.out, CO2.out⟩
    have K := Lib.hid (specChanOk_bool me peer next got _ _ _ _ _ qs ss es os xs true ⟨fun _ => hok, fun _ => rfl⟩ lq ls le hlen9 lx X1 (layStringS.below HQ.out P1.out.below) (layPendingS.below HS.out P1.out.below) (layEarlyS.below HE.out P1.out.below) (layIntS.below HO.out P1.out.below) (layStringS.below HX.out P1.out.below))
    go_wp2_with fail
    refine (K.out).mono ?_
    rintro e X2 ⟨rfl, hb2⟩
    have P2 := Lib.hid (P1.out.next hb2)
    have CO2 := Lib.hid (CO1.out.next hb2)
    clear hb2 K
    clear c0 c1 c2 c3 c4 c5 c6 c7 c8 z0 z1 z2 z3 z4 z5 z6
    have c0 : X2.cell? ⟨w.heap.size, 0, none⟩ = some (.int .i64 me) := P2.out.arg.cell 0
    have c1 : X2.cell? ⟨w.heap.size, 1, none⟩ = some (.int .i64 peer) := P2.out.arg.cell 1
    have c2 : X2.cell? ⟨w.heap.size, 2, none⟩ = some (.int .i64 next) := P2.out.arg.cell 2
    have c3 : X2.cell? ⟨w.heap.size, 3, none⟩ = some (.slice qa qs.length qc) := P2.out.arg.cell 3
    have c4 : X2.cell? ⟨w.heap.size, 4, none⟩ = some (.slice sa ss.length sc) := P2.out.arg.cell 4
    have c5 : X2.cell? ⟨w.heap.size, 5, none⟩ = some (.int .i64 got) := P2.out.arg.cell 5
    have c6 : X2.cell? ⟨w.heap.size, 6, none⟩ = some (.slice ea es.length ec) := P2.out.arg.cell 6
    have c7 : X2.cell? ⟨w.heap.size, 7, none⟩ = some (.slice oa os.length oc) := P2.out.arg.cell 7
    have c8 : X2.cell? ⟨w.heap.size, 8, none⟩ = some (.slice xa xs.length xc) := P2.out.arg.cell 8
    have z0 : X2.cell? ⟨w.heap.size + 1, 0, none⟩ = some (.int .i64 op) := P2.out.pkt.cell 0
    have z1 : X2.cell? ⟨w.heap.size + 1, 1, none⟩ = some (.int .i64 key) := P2.out.pkt.cell 1
    have z2 : X2.cell? ⟨w.heap.size + 1, 2, none⟩ = some (.int .i64 fr) := P2.out.pkt.cell 2
    have z3 : X2.cell? ⟨w.heap.size + 1, 3, none⟩ = some (.int .i64 dst) := P2.out.pkt.cell 3
    have z4 : X2.cell? ⟨w.heap.size + 1, 4, none⟩ = some (.int .i64 num) := P2.out.pkt.cell 4
    have z5 : X2.cell? ⟨w.heap.size + 1, 5, none⟩ = some (.slice pa acks.length pc) := P2.out.pkt.cell 5
    have z6 : X2.cell? ⟨w.heap.size + 1, 6, none⟩ = some (.string body) := P2.out.pkt.cell 6
    by_cases hpk : PkOkP op key fr dst num acks body
    rotate_left
    · have K := Lib.hid (specPacketOk_bool op key fr dst num (.slice pa acks.length pc) acks body false ⟨fun e => (by cases e), fun e => absurd e hpk⟩ la lb X2 (layIntS.below HP.out P2.out.below))
      go_wp2_with fail
      refine (K.out).mono ?_
      rintro e X3 ⟨rfl, hb2⟩
      have P3 := Lib.hid (P2.out.next hb2)
      have CO3 := Lib.hid (CO2.out.next hb2)
      clear hb2 K
      go_wp2_with fail
      go_meet
      exact ⟨true, rfl, (fun _ h => hpk h.2.1), (fun h => by cases h), P3.out, CO3.out⟩
    have K := Lib.hid (specPacketOk_bool op key fr dst num (.slice pa acks.length pc) acks body true ⟨fun _ => hpk, fun _ => rfl⟩ la lb X2 (layIntS.below HP.out P2.out.below))
    go_wp2_with fail
    refine (K.out).mono ?_
    rintro e X3 ⟨rfl, hb2⟩
    have P3 := Lib.hid (P2.out.next hb2)
    have CO3 := Lib.hid (CO2.out.next hb2)
    clear hb2 K
    clear c0 c1 c2 c3 c4 c5 c6 c7 c8 z0 z1 z2 z3 z4 z5 z6
    have c0 : X3.cell? ⟨w.heap.size, 0, none⟩ = some (.int .i64 me) := P3.out.arg.cell 0
    have c1 : X3.cell? ⟨w.heap.size, 1, none⟩ = some (.int .i64 peer) := P3.out.arg.cell 1
    have c2 : X3.cell? ⟨w.heap.size, 2, none⟩ = some (.int .i64 next) := P3.out.arg.cell 2
    have c3 : X3.cell? ⟨w.heap.size, 3, none⟩ = some (.slice qa qs.length qc) := P3.out.arg.cell 3
    have c4 : X3.cell? ⟨w.heap.size, 4, none⟩ = some (.slice sa ss.length sc) := P3.out.arg.cell 4
    have c5 : X3.cell? ⟨w.heap.size, 5, none⟩ = some (.int .i64 got) := P3.out.arg.cell 5
    have c6 : X3.cell? ⟨w.heap.size, 6, none⟩ = some (.slice ea es.length ec) := P3.out.arg.cell 6
    have c7 : X3.cell? ⟨w.heap.size, 7, none⟩ = some (.slice oa os.length oc) := P3.out.arg.cell 7
    have c8 : X3.cell? ⟨w.heap.size, 8, none⟩ = some (.slice xa xs.length xc) := P3.out.arg.cell 8
    have z0 : X3.cell? ⟨w.heap.size + 1, 0, none⟩ = some (.int .i64 op) := P3.out.pkt.cell 0
    have z1 : X3.cell? ⟨w.heap.size + 1, 1, none⟩ = some (.int .i64 key) := P3.out.pkt.cell 1
    have z2 : X3.cell? ⟨w.heap.size + 1, 2, none⟩ = some (.int .i64 fr) := P3.out.pkt.cell 2
    have z3 : X3.cell? ⟨w.heap.size + 1, 3, none⟩ = some (.int .i64 dst) := P3.out.pkt.cell 3
    have z4 : X3.cell? ⟨w.heap.size + 1, 4, none⟩ = some (.int .i64 num) := P3.out.pkt.cell 4
    have z5 : X3.cell? ⟨w.heap.size + 1, 5, none⟩ = some (.slice pa acks.length pc) := P3.out.pkt.cell 5
    have z6 : X3.cell? ⟨w.heap.size + 1, 6, none⟩ = some (.string body) := P3.out.pkt.cell 6
    by_cases h3 : op ≠ 3
    rotate_left
    · have q3 : (op == 3) = true := by rw [beq_iff_eq]; omega
      go_wp2_with fail
      go_meet
      exact ⟨true, rfl, (fun _ h => h3 h.2.2.1), (fun h => by cases h), P3.out, CO3.out⟩
    have q3 : (op == 3) = false := by rw [beq_eq_false_iff_ne]; exact h3
    by_cases hfr : fr = peer
    rotate_left
    · have qf : (fr != peer) = true := by rw [bne_iff_ne]; exact hfr
      go_wp2_with fail
      go_meet
      exact ⟨true, rfl, (fun _ h => hfr h.2.2.2.1), (fun h => by cases h), P3.out, CO3.out⟩
    have qf : (fr != peer) = false := by rw [hfr]; simp
    have HFRP := Lib.hid hfr
    clear hfr
    by_cases hds : dst = me
    rotate_left
    · have qd : (dst != me) = true := by rw [bne_iff_ne]; exact hds
      go_wp2_with fail
      go_meet
      exact ⟨true, rfl, (fun _ h => hds h.2.2.2.2), (fun h => by cases h), P3.out, CO3.out⟩
    have qd : (dst != me) = false := by rw [hds]; simp
    have HDSM := Lib.hid hds
    clear hds
    go_wp2_with fail
    go_meet
    exact ⟨false, rfl, (fun h => by cases h), (fun _ => ⟨hok, hpk, h3, HFRP.out, HDSM.out⟩), P3.out, CO3.out⟩
  case rest =>
    obtain ⟨c, rfl, HT, HF, T2, CO2⟩ := hcut
    generalize wc = X2 at *
    clear P1 CO1 c0 c1 c2 c3 c4 c5 c6 c7 c8 z0 z1 z2 z3 z4 z5 z6
    cases c with
    | true =>
      obtain rfl : b = false := by
        cases b with
        | false => rfl
        | true => exact absurd (HB.out.1 rfl).1 (HT.out rfl)
      go_upto_region 3 with fail
      have d0 : X2.cell? ⟨G, 0, none⟩ = some (.int .i64 me) := T2.out.var.cell 0
      have d1 : X2.cell? ⟨G, 1, none⟩ = some (.int .i64 peer) := T2.out.var.cell 1
      have d2 : X2.cell? ⟨G, 2, none⟩ = some (.int .i64 next) := T2.out.var.cell 2
      have d3 : X2.cell? ⟨G, 3, none⟩ = some (.slice (some ⟨a3, 0, none⟩) qs.length k3) := T2.out.var.cell 3
      have d4 : X2.cell? ⟨G, 4, none⟩ = some (.slice (some ⟨a4, 0, none⟩) ss.length k4) := T2.out.var.cell 4
      have d5 : X2.cell? ⟨G, 5, none⟩ = some (.int .i64 got) := T2.out.var.cell 5
      have d6 : X2.cell? ⟨G, 6, none⟩ = some (.slice (some ⟨a6, 0, none⟩) es.length k6) := T2.out.var.cell 6
      have d7 : X2.cell? ⟨G, 7, none⟩ = some (.slice (some ⟨a7, 0, none⟩) os.length k7) := T2.out.var.cell 7
      have d8 : X2.cell? ⟨G, 8, none⟩ = some (.slice (some ⟨a8, 0, none⟩) xs.length k8) := T2.out.var.cell 8
      have g0 := T2.out.res.free 0
      have g1 := T2.out.res.free 1
      have g2 := T2.out.res.free 2
      have g3 := T2.out.res.free 3
      have g4 := T2.out.res.free 4
      have g5 := T2.out.res.free 5
      have g6 := T2.out.res.free 6
      have g7 := T2.out.res.free 7
      have g8 := T2.out.res.free 8
      have y0 : X2.cell? ⟨w.heap.size + 2, 0, none⟩ = some (.int .i64 0) := T2.out.res.cell 0
      have y1 : X2.cell? ⟨w.heap.size + 2, 1, none⟩ = some (.int .i64 0) := T2.out.res.cell 1
      have y2 : X2.cell? ⟨w.heap.size + 2, 2, none⟩ = some (.int .i64 0) := T2.out.res.cell 2
      have y3 : X2.cell? ⟨w.heap.size + 2, 3, none⟩ = some (.slice none 0 0) := T2.out.res.cell 3
      have y4 : X2.cell? ⟨w.heap.size + 2, 4, none⟩ = some (.slice none 0 0) := T2.out.res.cell 4
      have y5 : X2.cell? ⟨w.heap.size + 2, 5, none⟩ = some (.int .i64 0) := T2.out.res.cell 5
      have y6 : X2.cell? ⟨w.heap.size + 2, 6, none⟩ = some (.slice none 0 0) := T2.out.res.cell 6
      have y7 : X2.cell? ⟨w.heap.size + 2, 7, none⟩ = some (.slice none 0 0) := T2.out.res.cell 7
      have y8 : X2.cell? ⟨w.heap.size + 2, 8, none⟩ = some (.slice none 0 0) := T2.out.res.cell 8
      have R9 := set_nine (p0 := .int .i64 me) (p1 := .int .i64 peer) (p2 := .int .i64 next) (p3 := .slice (some ⟨a3, 0, none⟩) qs.length k3) (p4 := .slice (some ⟨a4, 0, none⟩) ss.length k4) (p5 := .int .i64 got) (p6 := .slice (some ⟨a6, 0, none⟩) es.length k6) (p7 := .slice (some ⟨a7, 0, none⟩) os.length k7) (p8 := .slice (some ⟨a8, 0, none⟩) xs.length k8) T2.out.res
      have j0 := R9.cell 0
      have j1 := R9.cell 1
      have j2 := R9.cell 2
      have j3 := R9.cell 3
      have j4 := R9.cell 4
      have j5 := R9.cell 5
      have j6 := R9.cell 6
      have j7 := R9.cell 7
      have j8 := R9.cell 8
      have O9 := only_nine X2 (w.heap.size + 2) (.int .i64 me) (.int .i64 peer) (.int .i64 next) (.slice (some ⟨a3, 0, none⟩) qs.length k3) (.slice (some ⟨a4, 0, none⟩) ss.length k4) (.int .i64 got) (.slice (some ⟨a6, 0, none⟩) es.length k6) (.slice (some ⟨a7, 0, none⟩) os.length k7) (.slice (some ⟨a8, 0, none⟩) xs.length k8)
      have FIN := Lib.hid (T2.out.below.trans (only_below O9 (by omega) T2.out.below.size))
      have FCO := Lib.hid ((CO2.out.only O9 T2.out.res (by decide) (by decide) (by decide) (by decide)).lower T2.out.low)
      clear R9 O9
      go_wp2_with fail
      exact bodyPost_ret (v := .tuple #[.agg #[.int .i64 me, .int .i64 peer, .int .i64 next, .slice (some ⟨a3, 0, none⟩) qs.length k3, .slice (some ⟨a4, 0, none⟩) ss.length k4, .int .i64 got, .slice (some ⟨a6, 0, none⟩) es.length k6, .slice (some ⟨a7, 0, none⟩) os.length k7, .slice (some ⟨a8, 0, none⟩) xs.length k8], .bool false]) (by simp [results, Try.results25, go_sem, j0, j1, j2, j3, j4, j5, j6, j7, j8]) rfl (by rw [HQQ.out]; unfold TakeEnd; rw [if_pos rfl]; exact ⟨_, _, _, _, _, _, _, _, _, _, rfl, FCO.out, FIN.out⟩)
    | false =>
      have HFR := Lib.hid (HF.out rfl)
      clear HT HF
      have hgot := HFR.out.1.gotR
      have hg4 : IntKind.i64.wrap (got + 4) = got + 4 := by rw [IntKind.wrap_i64]; omega
      go_upto_region 4 with fail
      have c5 : X2.cell? ⟨w.heap.size, 5, none⟩ = some (.int .i64 got) := T2.out.arg.cell 5
      have z0 : X2.cell? ⟨w.heap.size + 1, 0, none⟩ = some (.int .i64 op) := T2.out.pkt.cell 0
      have z4 : X2.cell? ⟨w.heap.size + 1, 4, none⟩ = some (.int .i64 num) := T2.out.pkt.cell 4
      go_cut [55] (fun v wx => ∃ c : Bool, v = .bool c ∧ Hid (c = true → ¬ ((op = 1 → 1 ≤ num ∧ num ≤ got + 4) ∧ got ≤ 990)) ∧ Hid (c = false → ((op = 1 → 1 ≤ num ∧ num ≤ got + 4) ∧ got ≤ 990)) ∧ Hid (TS w lo G #[.int .i64 me, .int .i64 peer, .int .i64 next, .slice qa qs.length qc, .slice sa ss.length sc, .int .i64 got, .slice ea es.length ec, .slice oa os.length oc, .slice xa xs.length xc] #[.int .i64 op, .int .i64 key, .int .i64 fr, .int .i64 dst, .int .i64 num, .slice pa acks.length pc, .string body] #[.int .i64 me, .int .i64 peer, .int .i64 next, .slice (some ⟨a3, 0, none⟩) qs.length k3, .slice (some ⟨a4, 0, none⟩) ss.length k4, .int .i64 got, .slice (some ⟨a6, 0, none⟩) es.length k6, .slice (some ⟨a7, 0, none⟩) os.length k7, .slice (some ⟨a8, 0, none⟩) xs.length k8] wx) ∧ Hid (CO lo (.slice (some ⟨a3, 0, none⟩) qs.length k3) (.slice (some ⟨a4, 0, none⟩) ss.length k4) (.slice (some ⟨a6, 0, none⟩) es.length k6) (.slice (some ⟨a7, 0, none⟩) os.length k7) (.slice (some ⟨a8, 0, none⟩) xs.length k8) [a3] [a4] [a6] [a7] [a8] qs ss es os xs wx))
      case first =>
        by_cases h990 : got ≤ 990
        · have q990 : ¬ ((990 : Int) < got) := by omega
          by_cases h1 : op = 1
          · have q1 : (op == 1) = true := by rw [beq_iff_eq]; exact h1
            have H1 := Lib.hid h1
            clear h1
            by_cases hn : 1 ≤ num ∧ num ≤ got + 4
            · have K := Lib.hid (inRange_yes num 1 (got + 4) hn.1 hn.2 X2)
              go_wp2_with fail
              refine (K.out).mono ?_
              rintro e Z9 ⟨rfl, hw⟩
              rw [hw]
              clear hw K Z9
              go_wp2_with fail
              go_meet
              exact ⟨false, (by first | rfl | (simp only [Value.bool.injEq, decide_eq_false_iff_not]; omega)), (fun h => by cases h), (fun _ => ⟨fun _ => hn, h990⟩), T2.out, CO2.out⟩
            · have K := Lib.hid (inRange_no num 1 (got + 4) (by omega) X2)
              go_wp2_with fail
              refine (K.out).mono ?_
              rintro e Z9 ⟨rfl, hw⟩
              rw [hw]
              clear hw K Z9
              go_wp2_with fail
              go_meet
              exact ⟨true, rfl, (fun _ h => hn (h.1 H1.out)), (fun h => by cases h), T2.out, CO2.out⟩
          · have q1 : (op == 1) = false := by rw [beq_eq_false_iff_ne]; exact h1
            go_wp2_with fail
            go_meet
            exact ⟨false, (by first | rfl | (simp only [Value.bool.injEq, decide_eq_false_iff_not]; omega)), (fun h => by cases h), (fun _ => ⟨fun h => absurd h h1, h990⟩), T2.out, CO2.out⟩
        · have q990 : (990 : Int) < got := by omega
          by_cases h1 : op = 1
          · have q1 : (op == 1) = true := by rw [beq_iff_eq]; exact h1
            clear h1
            by_cases hn : 1 ≤ num ∧ num ≤ got + 4
            · have K := Lib.hid (inRange_yes num 1 (got + 4) hn.1 hn.2 X2)
              go_wp2_with fail
              refine (K.out).mono ?_
              rintro e Z9 ⟨rfl, hw⟩
              rw [hw]
              clear hw K Z9
              go_wp2_with fail
              go_meet
              exact ⟨true, rfl, (fun _ h => by have h9 := h.2; omega), (fun h => by cases h), T2.out, CO2.out⟩
            · have K := Lib.hid (inRange_no num 1 (got + 4) (by omega) X2)
              go_wp2_with fail
              refine (K.out).mono ?_
              rintro e Z9 ⟨rfl, hw⟩
              rw [hw]
              clear hw K Z9
              go_wp2_with fail
              go_meet
              exact ⟨true, rfl, (fun _ h => by have h9 := h.2; omega), (fun h => by cases h), T2.out, CO2.out⟩
          · have q1 : (op == 1) = false := by rw [beq_eq_false_iff_ne]; exact h1
            go_wp2_with fail
            go_meet
            exact ⟨true, rfl, (fun _ h => by have h9 := h.2; omega), (fun h => by cases h), T2.out, CO2.out⟩
      case rest =>
        obtain ⟨c, rfl, HT, HF, T3, CO3⟩ := hcut
        generalize wc = X3 at *
        clear T2 CO2 c5 z0 z4
        cases c with
        | true =>
          obtain rfl : b = false := by
            cases b with
            | false => rfl
            | true => exact absurd (HB.out.1 rfl).2 (HT.out rfl)
          go_upto_region 5 with fail
          have d0 : X3.cell? ⟨G, 0, none⟩ = some (.int .i64 me) := T3.out.var.cell 0
          have d1 : X3.cell? ⟨G, 1, none⟩ = some (.int .i64 peer) := T3.out.var.cell 1
          have d2 : X3.cell? ⟨G, 2, none⟩ = some (.int .i64 next) := T3.out.var.cell 2
          have d3 : X3.cell? ⟨G, 3, none⟩ = some (.slice (some ⟨a3, 0, none⟩) qs.length k3) := T3.out.var.cell 3
          have d4 : X3.cell? ⟨G, 4, none⟩ = some (.slice (some ⟨a4, 0, none⟩) ss.length k4) := T3.out.var.cell 4
          have d5 : X3.cell? ⟨G, 5, none⟩ = some (.int .i64 got) := T3.out.var.cell 5
          have d6 : X3.cell? ⟨G, 6, none⟩ = some (.slice (some ⟨a6, 0, none⟩) es.length k6) := T3.out.var.cell 6
          have d7 : X3.cell? ⟨G, 7, none⟩ = some (.slice (some ⟨a7, 0, none⟩) os.length k7) := T3.out.var.cell 7
          have d8 : X3.cell? ⟨G, 8, none⟩ = some (.slice (some ⟨a8, 0, none⟩) xs.length k8) := T3.out.var.cell 8
          have g0 := T3.out.res.free 0
          have g1 := T3.out.res.free 1
          have g2 := T3.out.res.free 2
          have g3 := T3.out.res.free 3
          have g4 := T3.out.res.free 4
          have g5 := T3.out.res.free 5
          have g6 := T3.out.res.free 6
          have g7 := T3.out.res.free 7
          have g8 := T3.out.res.free 8
          have y0 : X3.cell? ⟨w.heap.size + 2, 0, none⟩ = some (.int .i64 0) := T3.out.res.cell 0
          have y1 : X3.cell? ⟨w.heap.size + 2, 1, none⟩ = some (.int .i64 0) := T3.out.res.cell 1
          have y2 : X3.cell? ⟨w.heap.size + 2, 2, none⟩ = some (.int .i64 0) := T3.out.res.cell 2
          have y3 : X3.cell? ⟨w.heap.size + 2, 3, none⟩ = some (.slice none 0 0) := T3.out.res.cell 3
          have y4 : X3.cell? ⟨w.heap.size + 2, 4, none⟩ = some (.slice none 0 0) := T3.out.res.cell 4
          have y5 : X3.cell? ⟨w.heap.size + 2, 5, none⟩ = some (.int .i64 0) := T3.out.res.cell 5
          have y6 : X3.cell? ⟨w.heap.size + 2, 6, none⟩ = some (.slice none 0 0) := T3.out.res.cell 6
          have y7 : X3.cell? ⟨w.heap.size + 2, 7, none⟩ = some (.slice none 0 0) := T3.out.res.cell 7
          have y8 : X3.cell? ⟨w.heap.size + 2, 8, none⟩ = some (.slice none 0 0) := T3.out.res.cell 8
          have R9 := set_nine (p0 := .int .i64 me) (p1 := .int .i64 peer) (p2 := .int .i64 next) (p3 := .slice (some ⟨a3, 0, none⟩) qs.length k3) (p4 := .slice (some ⟨a4, 0, none⟩) ss.length k4) (p5 := .int .i64 got) (p6 := .slice (some ⟨a6, 0, none⟩) es.length k6) (p7 := .slice (some ⟨a7, 0, none⟩) os.length k7) (p8 := .slice (some ⟨a8, 0, none⟩) xs.length k8) T3.out.res
          have j0 := R9.cell 0
          have j1 := R9.cell 1
          have j2 := R9.cell 2
          have j3 := R9.cell 3
          have j4 := R9.cell 4
          have j5 := R9.cell 5
          have j6 := R9.cell 6
          have j7 := R9.cell 7
          have j8 := R9.cell 8
          have O9 := only_nine X3 (w.heap.size + 2) (.int .i64 me) (.int .i64 peer) (.int .i64 next) (.slice (some ⟨a3, 0, none⟩) qs.length k3) (.slice (some ⟨a4, 0, none⟩) ss.length k4) (.int .i64 got) (.slice (some ⟨a6, 0, none⟩) es.length k6) (.slice (some ⟨a7, 0, none⟩) os.length k7) (.slice (some ⟨a8, 0, none⟩) xs.length k8)
          have FIN := Lib.hid (T3.out.below.trans (only_below O9 (by omega) T3.out.below.size))
          have FCO := Lib.hid ((CO3.out.only O9 T3.out.res (by decide) (by decide) (by decide) (by decide)).lower T3.out.low)
          clear R9 O9
          go_wp2_with fail
          exact bodyPost_ret (v := .tuple #[.agg #[.int .i64 me, .int .i64 peer, .int .i64 next, .slice (some ⟨a3, 0, none⟩) qs.length k3, .slice (some ⟨a4, 0, none⟩) ss.length k4, .int .i64 got, .slice (some ⟨a6, 0, none⟩) es.length k6, .slice (some ⟨a7, 0, none⟩) os.length k7, .slice (some ⟨a8, 0, none⟩) xs.length k8], .bool false]) (by simp [results, Try.results25, go_sem, j0, j1, j2, j3, j4, j5, j6, j7, j8]) rfl (by rw [HQQ.out]; unfold TakeEnd; rw [if_pos rfl]; exact ⟨_, _, _, _, _, _, _, _, _, _, rfl, FCO.out, FIN.out⟩)
        | false =>
          obtain rfl : b = true := HB.out.2 ⟨HFR.out, HF.out rfl⟩
          have HBK := Lib.hid (HF.out rfl)
          clear HT HF HB
          obtain ⟨TA, HTA⟩ : ∃ l : List PendingD, Hid (l = takeAcks acks ss) := ⟨_, Lib.hid rfl⟩
          have hro := T3.out.room
          have L0 : Hid ((∃ f, layPendingS.own (X3.alloc (.cells #[] PendingT)) X3.heap.size f [.slice (some ⟨X3.heap.size, 0, none⟩) 0 0] []) ∧ Below X3.heap.size X3 (X3.alloc (.cells #[] PendingT))) := ⟨⟨_, flat_lit X3 _ (Nat.le_refl _)⟩, (Below.refl _ _).alloc (Nat.le_refl _) _⟩
          go_wp2_with fail
          go_loopw [7, 8] (fun v c wr => ∃ (j : Nat) (ks : List PendingD), j ≤ ss.length ∧ c = .int .i64 j ∧ Hid (ks = takeAcks acks (ss.take j)) ∧ v ≠ .slice none 0 0 ∧ ((∃ f, layPendingS.own wr X3.heap.size f [v] ks) ∧ Below X3.heap.size X3 wr)) (fun _ c _ => ss.length - (intOf c).toNat)
          case atStart => exact ⟨0, [], Nat.zero_le _, rfl, rfl, (fun e => by cases e), L0.out⟩
          case round =>
            obtain ⟨j, ks, hj, rfl, HK, hnn, ⟨f, hown⟩, hb⟩ := hrel
            have hkj : ks.length ≤ j := by rw [HK.out]; exact Nat.le_trans (List.length_filter_le _ _) (by rw [List.length_take]; omega)
            obtain ⟨m, mc, hvm, hfm, -, -⟩ := flat_some flatPending hown hnn
            subst hvm
            subst hfm
            have HO4 := Lib.hid hown
            have HB4 := Lib.hid hb
            have hws := hb.size
            clear hown hb hnn L0
            have TW := Lib.hid (T3.out.next HB4.out)
            have CW := Lib.hid (CO3.out.next HB4.out)
            have c4 : wr.cell? ⟨G, 4, none⟩ = some (.slice (some ⟨a4, 0, none⟩) ss.length k4) := TW.out.var.cell 4
            have z5 : wr.cell? ⟨w.heap.size + 1, 5, none⟩ = some (.slice pa acks.length pc) := TW.out.pkt.cell 5
            by_cases hlt : j < ss.length
            · have hlt' : (j : Int) < (ss.length : Int) := by omega
              have hx := List.getElem?_eq_getElem hlt
              obtain ⟨g9, off9, cs, e9, hg, hr, hc⟩ := rows_elem (layPendingS.read CW.out.s) j _ hx
              simp only [Option.some.injEq, Addr.mk.injEq, and_true] at e9
              obtain ⟨rfl, rfl⟩ := e9
              have HTN : Hid (takeAcks acks (ss.take (j + 1)) = takeAcks acks (ss.take j) ++ (if decide (ss[j].1 ∉ acks) = true then [ss[j]] else [])) := by
                show _ = _
                unfold takeAcks
                rw [List.take_add_one, hx, List.filter_append]
                simp only [Option.toList_some, List.filter_cons, List.filter_nil]
              generalize ss[j] = x at hr HTN
              rw [layPending_rd] at hr
              subst hr
              obtain ⟨x0, x1, x2, x3⟩ := x
              have d0 : wr.cell? ⟨a4, j * 4, none⟩ = some (.int .i64 x0) := by have h9 := hc 0 _ rfl; rw [Nat.zero_add] at h9; exact h9
              have d1 : wr.cell? ⟨a4, j * 4 + 1, none⟩ = some (.string x1) := by have h9 := hc 1 _ rfl; rw [Nat.zero_add] at h9; exact h9
              have d2 : wr.cell? ⟨a4, j * 4 + 2, none⟩ = some (.int .i64 x2) := by have h9 := hc 2 _ rfl; rw [Nat.zero_add] at h9; exact h9
              have d3 : wr.cell? ⟨a4, j * 4 + 3, none⟩ = some (.int .i64 x3) := by have h9 := hc 3 _ rfl; rw [Nat.zero_add] at h9; exact h9
              clear hc hx
              obtain ⟨b1, hb1⟩ : ∃ c : Bool, c = true ↔ x0 ∈ acks := ⟨decide _, decide_eq_true_iff⟩
              have K1 := Lib.hid (fun n => specChanIn_any acks x0 (.slice pa acks.length pc) b1 hb1 la (wr.drewN n) (layIntS.below HP.out (below_drewN TW.out.below n)))
              cases b1 with
              | true =>
                have HK2 : Hid (ks = takeAcks acks (ss.take (j + 1))) := by
                  show _ = _
                  rw [HTN.out, HK.out, if_neg (by simp; exact hb1.1 rfl), List.append_nil]
                clear hb1
                go_wp2_with fail
                go_quiet ((go_at_call 67; exact Calls.quiet_of_same (K1.out _)))
                go_wp2_with fail
                go_roundw
                case rel => exact ⟨j + 1, ks, by omega, by go_num, HK2, (fun e => by cases e), ⟨_, layPendingS.next HO4.out (below_drewN (Below.refl _ _) _)⟩, below_drewN HB4.out _⟩
                case measure => simp [intOf]; omega
              | false =>
                have HK2 : Hid (ks ++ [(x0, x1, x2, x3)] = takeAcks acks (ss.take (j + 1))) := by
                  show _ = _
                  rw [HTN.out, HK.out, if_pos (by simp; exact fun h => by cases hb1.2 h)]
                clear hb1
                go_wp2_with fail
                go_quiet ((go_at_call 67; exact Calls.quiet_of_same (K1.out _)))
                go_upto_region 11 with fail
                generalize hq9 : wr.drewN _ = wr9 at *
                have BQ : Below wr.heap.size wr wr9 := by rw [← hq9]; exact below_drewN (Below.refl _ _) _
                have BQC : ∀ p : Addr, p.block < wr.heap.size → wr9.cell? p = wr.cell? p := fun p hp => BQ.cell (p := p) hp
                have hG9 := TW.out.var.lt
                have c4' : wr9.cell? ⟨G, 4, none⟩ = some (.slice (some ⟨a4, 0, none⟩) ss.length k4) := by rw [BQC ⟨G, 4, none⟩ hG9]; exact c4
                have b0 : wr9.cell? ⟨a4, j * 4, none⟩ = some (.int .i64 x0) := by rw [BQC ⟨a4, j * 4, none⟩ hg]; exact d0
                have b1 : wr9.cell? ⟨a4, j * 4 + 1, none⟩ = some (.string x1) := by rw [BQC ⟨a4, j * 4 + 1, none⟩ hg]; exact d1
                have b2 : wr9.cell? ⟨a4, j * 4 + 2, none⟩ = some (.int .i64 x2) := by rw [BQC ⟨a4, j * 4 + 2, none⟩ hg]; exact d2
                have b3 : wr9.cell? ⟨a4, j * 4 + 3, none⟩ = some (.int .i64 x3) := by rw [BQC ⟨a4, j * 4 + 3, none⟩ hg]; exact d3
                have O9 := Lib.hid (layPendingS.next HO4.out BQ)
                have B9 := Lib.hid (HB4.out.trans (BQ.mono HB4.out.size))
                have hws9 := B9.out.size
                clear BQC hq9 BQ d0 d1 d2 d3 c4 z5 K1 hg hG9
                go_wp2_with (at_builtin; refine wpList_pushF wr9 rfl _ _ 23 rfl X3.heap.size PendingT i0 _ 40 layPending flatPending Try.underlying23 hi0 hz0 hsz0 hby0 rfl (by omega) (.slice (some ⟨m, 0, none⟩) ks.length mc) [m] ks (by rfl) O9.out (x0, x1, x2, x3) #[.int .i64 x0, .string x1, .int .i64 x2, .int .i64 x3] (layPending_rd.2 rfl) (by rfl) (by omega) hws9 ?_; intro v1 w2 hown1 hnn1 hgr1 hbe1; obtain ⟨m1, mc1, rfl, hblk, -, -⟩ := flat_some flatPending hown1 hnn1)
                have HL : Hid ((∃ f, layPendingS.own w2 X3.heap.size f [.slice (some ⟨m1, 0, none⟩) (ks ++ [(x0, x1, x2, x3)]).length mc1] (ks ++ [(x0, x1, x2, x3)])) ∧ Below X3.heap.size X3 w2) := ⟨⟨_, hown1⟩, B9.out.trans hbe1⟩
                clear hown1 hnn1 hgr1 hbe1 hblk
                go_wp2_with fail
                go_roundw
                case rel => exact ⟨j + 1, ks ++ [(x0, x1, x2, x3)], by omega, by go_num, HK2, (fun e => by cases e), by simpa using HL.out⟩
                case measure => simp [intOf]; omega
            · have hlt' : ¬ ((j : Int) < (ss.length : Int)) := by omega
              have hje : j = ss.length := by omega
              subst hje
              rw [List.take_length, ← HTA.out] at HK
              have HKE := HK.out
              subst HKE
              go_upto_region 12 with fail
              have u4 := TW.out.var.free 4
              have S4 : Only G wr (wr.setCell ⟨G, 4, none⟩ (.slice (some ⟨m, 0, none⟩) ks.length mc)) := Only.setCell 4 _
              have T4 : Hid (TS w lo G #[.int .i64 me, .int .i64 peer, .int .i64 next, .slice qa qs.length qc, .slice sa ss.length sc, .int .i64 got, .slice ea es.length ec, .slice oa os.length oc, .slice xa xs.length xc] #[.int .i64 op, .int .i64 key, .int .i64 fr, .int .i64 dst, .int .i64 num, .slice pa acks.length pc, .string body] #[.int .i64 me, .int .i64 peer, .int .i64 next, .slice (some ⟨a3, 0, none⟩) qs.length k3, .slice (some ⟨m, 0, none⟩) ks.length mc, .int .i64 got, .slice (some ⟨a6, 0, none⟩) es.length k6, .slice (some ⟨a7, 0, none⟩) os.length k7, .slice (some ⟨a8, 0, none⟩) xs.length k8] (wr.setCell ⟨G, 4, none⟩ (.slice (some ⟨m, 0, none⟩) ks.length mc))) := TW.out.turn (only_below S4 TW.out.lg TW.out.room) (TW.out.var.set 4 _)
              have CB : CO lo (.slice (some ⟨a3, 0, none⟩) qs.length k3) (.slice (some ⟨m, 0, none⟩) ks.length mc) (.slice (some ⟨a6, 0, none⟩) es.length k6) (.slice (some ⟨a7, 0, none⟩) os.length k7) (.slice (some ⟨a8, 0, none⟩) xs.length k8) [a3] [m] [a6] [a7] [a8] qs ks es os xs wr := ⟨CW.out.q, layPendingS.lower HO4.out hro, CW.out.e, CW.out.o, CW.out.x, CW.out.ap⟩
              have CO4 := Lib.hid (CB.only S4 TW.out.var (by decide) (by decide) (by decide) (by decide))
              go_upto_region 13 with fail
              clear S4 CB u4 TW CW HO4 HB4 c4 z5 T3 CO3 hws hkj
              generalize wr.setCell ⟨G, 4, none⟩ (.slice (some ⟨m, 0, none⟩) ks.length mc) = X4 at *
              have z0 : X4.cell? ⟨w.heap.size + 1, 0, none⟩ = some (.int .i64 op) := T4.out.pkt.cell 0
              by_cases h2 : op = 2
              · have q2 : (op == 2) = true := by rw [beq_iff_eq]; exact h2
                have HN2 := Lib.hid h2
                clear h2
                go_upto_region 14 with fail
                clear z0
                have d0 : X4.cell? ⟨G, 0, none⟩ = some (.int .i64 me) := T4.out.var.cell 0
                have d1 : X4.cell? ⟨G, 1, none⟩ = some (.int .i64 peer) := T4.out.var.cell 1
                have d2 : X4.cell? ⟨G, 2, none⟩ = some (.int .i64 next) := T4.out.var.cell 2
                have d3 : X4.cell? ⟨G, 3, none⟩ = some (.slice (some ⟨a3, 0, none⟩) qs.length k3) := T4.out.var.cell 3
                have d4 : X4.cell? ⟨G, 4, none⟩ = some (.slice (some ⟨m, 0, none⟩) ks.length mc) := T4.out.var.cell 4
                have d5 : X4.cell? ⟨G, 5, none⟩ = some (.int .i64 got) := T4.out.var.cell 5
                have d6 : X4.cell? ⟨G, 6, none⟩ = some (.slice (some ⟨a6, 0, none⟩) es.length k6) := T4.out.var.cell 6
                have d7 : X4.cell? ⟨G, 7, none⟩ = some (.slice (some ⟨a7, 0, none⟩) os.length k7) := T4.out.var.cell 7
                have d8 : X4.cell? ⟨G, 8, none⟩ = some (.slice (some ⟨a8, 0, none⟩) xs.length k8) := T4.out.var.cell 8
                have g0 := T4.out.res.free 0
                have g1 := T4.out.res.free 1
                have g2 := T4.out.res.free 2
                have g3 := T4.out.res.free 3
                have g4 := T4.out.res.free 4
                have g5 := T4.out.res.free 5
                have g6 := T4.out.res.free 6
                have g7 := T4.out.res.free 7
                have g8 := T4.out.res.free 8
                have y0 : X4.cell? ⟨w.heap.size + 2, 0, none⟩ = some (.int .i64 0) := T4.out.res.cell 0
                have y1 : X4.cell? ⟨w.heap.size + 2, 1, none⟩ = some (.int .i64 0) := T4.out.res.cell 1
                have y2 : X4.cell? ⟨w.heap.size + 2, 2, none⟩ = some (.int .i64 0) := T4.out.res.cell 2
                have y3 : X4.cell? ⟨w.heap.size + 2, 3, none⟩ = some (.slice none 0 0) := T4.out.res.cell 3
                have y4 : X4.cell? ⟨w.heap.size + 2, 4, none⟩ = some (.slice none 0 0) := T4.out.res.cell 4
                have y5 : X4.cell? ⟨w.heap.size + 2, 5, none⟩ = some (.int .i64 0) := T4.out.res.cell 5
                have y6 : X4.cell? ⟨w.heap.size + 2, 6, none⟩ = some (.slice none 0 0) := T4.out.res.cell 6
                have y7 : X4.cell? ⟨w.heap.size + 2, 7, none⟩ = some (.slice none 0 0) := T4.out.res.cell 7
                have y8 : X4.cell? ⟨w.heap.size + 2, 8, none⟩ = some (.slice none 0 0) := T4.out.res.cell 8
                have R9 := set_nine (p0 := .int .i64 me) (p1 := .int .i64 peer) (p2 := .int .i64 next) (p3 := .slice (some ⟨a3, 0, none⟩) qs.length k3) (p4 := .slice (some ⟨m, 0, none⟩) ks.length mc) (p5 := .int .i64 got) (p6 := .slice (some ⟨a6, 0, none⟩) es.length k6) (p7 := .slice (some ⟨a7, 0, none⟩) os.length k7) (p8 := .slice (some ⟨a8, 0, none⟩) xs.length k8) T4.out.res
                have j0 := R9.cell 0
                have j1 := R9.cell 1
                have j2 := R9.cell 2
                have j3 := R9.cell 3
                have j4 := R9.cell 4
                have j5 := R9.cell 5
                have j6 := R9.cell 6
                have j7 := R9.cell 7
                have j8 := R9.cell 8
                have O9 := only_nine X4 (w.heap.size + 2) (.int .i64 me) (.int .i64 peer) (.int .i64 next) (.slice (some ⟨a3, 0, none⟩) qs.length k3) (.slice (some ⟨m, 0, none⟩) ks.length mc) (.int .i64 got) (.slice (some ⟨a6, 0, none⟩) es.length k6) (.slice (some ⟨a7, 0, none⟩) os.length k7) (.slice (some ⟨a8, 0, none⟩) xs.length k8)
                have FIN := Lib.hid (T4.out.below.trans (only_below O9 (by omega) T4.out.below.size))
                have FCO := Lib.hid ((CO4.out.only O9 T4.out.res (by decide) (by decide) (by decide) (by decide)).lower T4.out.low)
                clear R9 O9
                go_wp2_with fail
                exact bodyPost_ret (v := .tuple #[.agg #[.int .i64 me, .int .i64 peer, .int .i64 next, .slice (some ⟨a3, 0, none⟩) qs.length k3, .slice (some ⟨m, 0, none⟩) ks.length mc, .int .i64 got, .slice (some ⟨a6, 0, none⟩) es.length k6, .slice (some ⟨a7, 0, none⟩) os.length k7, .slice (some ⟨a8, 0, none⟩) xs.length k8], .bool true]) (by simp [results, Try.results25, go_sem, j0, j1, j2, j3, j4, j5, j6, j7, j8]) rfl (by rw [HQQ.out]; unfold TakeEnd; rw [if_neg (by simp), if_pos HN2.out, ← HTA.out]; exact ⟨_, _, _, _, _, _, _, _, _, _, rfl, FCO.out, FIN.out⟩)
              · have q2 : (op == 2) = false := by rw [beq_eq_false_iff_ne]; exact h2
                have HN2 := Lib.hid h2
                clear h2
                go_upto_region 15 with fail
                clear z0
                have c7 : X4.cell? ⟨G, 7, none⟩ = some (.slice (some ⟨a7, 0, none⟩) os.length k7) := T4.out.var.cell 7
                have z4 : X4.cell? ⟨w.heap.size + 1, 4, none⟩ = some (.int .i64 num) := T4.out.pkt.cell 4
                by_cases h4 : os.length < 4
                · have q4 : (os.length : Int) < 4 := by omega
                  by_cases hm : num ∈ os
                  · have HOW : Hid (os = takeOwed num os) := by show _ = _; unfold takeOwed; rw [if_neg (fun h => h.2 hm)]
                    have K := Lib.hid (specChanIn_any os num (.slice (some ⟨a7, 0, none⟩) os.length k7) true ⟨fun _ => hm, fun _ => rfl⟩ hlen9 X4 (layIntS.read CO4.out.o))
                    go_wp2_with fail
                    refine (K.out).mono ?_
                    rintro e Z9 ⟨rfl, hw⟩
                    rw [hw]
                    clear hw K Z9
                    go_upto_region 17 with fail
                    clear c7 z4
                    have c5 : X4.cell? ⟨w.heap.size, 5, none⟩ = some (.int .i64 got) := T4.out.arg.cell 5
                    have z4 : X4.cell? ⟨w.heap.size + 1, 4, none⟩ = some (.int .i64 num) := T4.out.pkt.cell 4
                    have z6 : X4.cell? ⟨w.heap.size + 1, 6, none⟩ = some (.string body) := T4.out.pkt.cell 6
                    by_cases hgn : got < num
                    · by_cases hin : ∃ e ∈ es, e.1 = num
                      · have HTN : Hid (¬ (takeNew got num es = true)) := by
                          show ¬ _
                          unfold takeNew
                          simp only [Bool.and_eq_true, decide_eq_true_eq]
                          rintro ⟨_, h9⟩
                          obtain ⟨e, he, hee⟩ := hin
                          exact h9 e he hee
                        have K := Lib.hid (specEarly_there lo G me peer next got num (.slice (some ⟨a3, 0, none⟩) qs.length k3) (.slice (some ⟨m, 0, none⟩) ks.length mc) (.slice (some ⟨a6, 0, none⟩) es.length k6) (.slice (some ⟨a7, 0, none⟩) os.length k7) (.slice (some ⟨a8, 0, none⟩) xs.length k8) [a3] [m] [a6] [a7] [a8] qs ks es os xs body le X4 T4.out.var CO4.out T4.out.room hin)
                        clear hin
                        go_wp2_with fail
                        refine (K.out).mono ?_
                        rintro e X9 ⟨rfl, v6, v8, f6, f8, hv9, hc9, hb9⟩
                        obtain ⟨ya, yc, rfl⟩ := rows_form (layEarlyS.read hc9.e)
                        obtain ⟨xxa, xxc, rfl⟩ := rows_form (layStringS.read hc9.x)
                        have T9 := Lib.hid (T4.out.turn hb9 hv9)
                        have CO9 := Lib.hid hc9
                        clear hv9 hc9 hb9 K c5 z4 z6
                        go_upto_region 19 with fail
                        have d0 : X9.cell? ⟨G, 0, none⟩ = some (.int .i64 me) := T9.out.var.cell 0
                        have d1 : X9.cell? ⟨G, 1, none⟩ = some (.int .i64 peer) := T9.out.var.cell 1
                        have d2 : X9.cell? ⟨G, 2, none⟩ = some (.int .i64 next) := T9.out.var.cell 2
                        have d3 : X9.cell? ⟨G, 3, none⟩ = some (.slice (some ⟨a3, 0, none⟩) qs.length k3) := T9.out.var.cell 3
                        have d4 : X9.cell? ⟨G, 4, none⟩ = some (.slice (some ⟨m, 0, none⟩) ks.length mc) := T9.out.var.cell 4
                        have d5 : X9.cell? ⟨G, 5, none⟩ = some (.int .i64 got) := T9.out.var.cell 5
                        have d6 : X9.cell? ⟨G, 6, none⟩ = some (.slice ya es.length yc) := T9.out.var.cell 6
                        have d7 : X9.cell? ⟨G, 7, none⟩ = some (.slice (some ⟨a7, 0, none⟩) os.length k7) := T9.out.var.cell 7
                        have d8 : X9.cell? ⟨G, 8, none⟩ = some (.slice xxa xs.length xxc) := T9.out.var.cell 8
                        have g0 := T9.out.res.free 0
                        have g1 := T9.out.res.free 1
                        have g2 := T9.out.res.free 2
                        have g3 := T9.out.res.free 3
                        have g4 := T9.out.res.free 4
                        have g5 := T9.out.res.free 5
                        have g6 := T9.out.res.free 6
                        have g7 := T9.out.res.free 7
                        have g8 := T9.out.res.free 8
                        have y0 : X9.cell? ⟨w.heap.size + 2, 0, none⟩ = some (.int .i64 0) := T9.out.res.cell 0
                        have y1 : X9.cell? ⟨w.heap.size + 2, 1, none⟩ = some (.int .i64 0) := T9.out.res.cell 1
                        have y2 : X9.cell? ⟨w.heap.size + 2, 2, none⟩ = some (.int .i64 0) := T9.out.res.cell 2
                        have y3 : X9.cell? ⟨w.heap.size + 2, 3, none⟩ = some (.slice none 0 0) := T9.out.res.cell 3
                        have y4 : X9.cell? ⟨w.heap.size + 2, 4, none⟩ = some (.slice none 0 0) := T9.out.res.cell 4
                        have y5 : X9.cell? ⟨w.heap.size + 2, 5, none⟩ = some (.int .i64 0) := T9.out.res.cell 5
                        have y6 : X9.cell? ⟨w.heap.size + 2, 6, none⟩ = some (.slice none 0 0) := T9.out.res.cell 6
                        have y7 : X9.cell? ⟨w.heap.size + 2, 7, none⟩ = some (.slice none 0 0) := T9.out.res.cell 7
                        have y8 : X9.cell? ⟨w.heap.size + 2, 8, none⟩ = some (.slice none 0 0) := T9.out.res.cell 8
                        have R9 := set_nine (p0 := .int .i64 me) (p1 := .int .i64 peer) (p2 := .int .i64 next) (p3 := .slice (some ⟨a3, 0, none⟩) qs.length k3) (p4 := .slice (some ⟨m, 0, none⟩) ks.length mc) (p5 := .int .i64 got) (p6 := .slice ya es.length yc) (p7 := .slice (some ⟨a7, 0, none⟩) os.length k7) (p8 := .slice xxa xs.length xxc) T9.out.res
                        have j0 := R9.cell 0
                        have j1 := R9.cell 1
                        have j2 := R9.cell 2
                        have j3 := R9.cell 3
                        have j4 := R9.cell 4
                        have j5 := R9.cell 5
                        have j6 := R9.cell 6
                        have j7 := R9.cell 7
                        have j8 := R9.cell 8
                        have O9 := only_nine X9 (w.heap.size + 2) (.int .i64 me) (.int .i64 peer) (.int .i64 next) (.slice (some ⟨a3, 0, none⟩) qs.length k3) (.slice (some ⟨m, 0, none⟩) ks.length mc) (.int .i64 got) (.slice ya es.length yc) (.slice (some ⟨a7, 0, none⟩) os.length k7) (.slice xxa xs.length xxc)
                        have FIN := Lib.hid (T9.out.below.trans (only_below O9 (by omega) T9.out.below.size))
                        have FCO := Lib.hid ((CO9.out.only O9 T9.out.res (by decide) (by decide) (by decide) (by decide)).lower T9.out.low)
                        clear R9 O9
                        go_wp2_with fail
                        exact bodyPost_ret (v := .tuple #[.agg #[.int .i64 me, .int .i64 peer, .int .i64 next, .slice (some ⟨a3, 0, none⟩) qs.length k3, .slice (some ⟨m, 0, none⟩) ks.length mc, .int .i64 got, .slice ya es.length yc, .slice (some ⟨a7, 0, none⟩) os.length k7, .slice xxa xs.length xxc], .bool true]) (by simp [results, Try.results25, go_sem, j0, j1, j2, j3, j4, j5, j6, j7, j8]) rfl (by rw [HQQ.out]; unfold TakeEnd; rw [if_neg (by simp), if_neg HN2.out, if_neg HTN.out, ← HTA.out, ← HOW.out]; exact ⟨_, _, _, _, _, _, _, _, _, _, rfl, FCO.out, FIN.out⟩)
                      · have hin2 : ∀ e ∈ es, e.1 ≠ num := fun e he h9 => hin ⟨e, he, h9⟩
                        have HTN : Hid (takeNew got num es = true) := by
                          show _ = _
                          unfold takeNew
                          simp only [Bool.and_eq_true, decide_eq_true_eq]
                          exact ⟨hgn, hin2⟩
                        have K := Lib.hid (specEarly_new lo G me peer next got num (.slice (some ⟨a3, 0, none⟩) qs.length k3) (.slice (some ⟨m, 0, none⟩) ks.length mc) (.slice (some ⟨a6, 0, none⟩) es.length k6) (.slice (some ⟨a7, 0, none⟩) os.length k7) (.slice (some ⟨a8, 0, none⟩) xs.length k8) [a3] [m] [a6] [a7] [a8] qs ks es os xs body le (by have := HFR.out.1.many; omega) (by omega) (by omega) X4 T4.out.var CO4.out T4.out.room T4.out.lg hin2)
                        obtain ⟨gN, HGN⟩ : ∃ z : Int, Hid (z = got + (drainN got (putE num body es) : Nat)) := ⟨_, Lib.hid rfl⟩
                        obtain ⟨eN, HEN⟩ : ∃ z : List EarlyD, Hid (z = (putE num body es).drop (drainN got (putE num body es))) := ⟨_, Lib.hid rfl⟩
                        obtain ⟨xN, HXN⟩ : ∃ z : List ByteArray, Hid (z = xs ++ ((putE num body es).take (drainN got (putE num body es))).map (·.2)) := ⟨_, Lib.hid rfl⟩
                        rw [← HGN.out, ← HEN.out, ← HXN.out] at K
                        clear hin hin2
                        go_wp2_with fail
                        refine (K.out).mono ?_
                        rintro e X9 ⟨rfl, v6, v8, f6, f8, hv9, hc9, hb9⟩
                        obtain ⟨ya, yc, rfl⟩ := rows_form (layEarlyS.read hc9.e)
                        obtain ⟨xxa, xxc, rfl⟩ := rows_form (layStringS.read hc9.x)
                        have T9 := Lib.hid (T4.out.turn hb9 hv9)
                        have CO9 := Lib.hid hc9
                        clear hv9 hc9 hb9 K c5 z4 z6
                        go_upto_region 19 with fail
                        have d0 : X9.cell? ⟨G, 0, none⟩ = some (.int .i64 me) := T9.out.var.cell 0
                        have d1 : X9.cell? ⟨G, 1, none⟩ = some (.int .i64 peer) := T9.out.var.cell 1
                        have d2 : X9.cell? ⟨G, 2, none⟩ = some (.int .i64 next) := T9.out.var.cell 2
                        have d3 : X9.cell? ⟨G, 3, none⟩ = some (.slice (some ⟨a3, 0, none⟩) qs.length k3) := T9.out.var.cell 3
                        have d4 : X9.cell? ⟨G, 4, none⟩ = some (.slice (some ⟨m, 0, none⟩) ks.length mc) := T9.out.var.cell 4
                        have d5 : X9.cell? ⟨G, 5, none⟩ = some (.int .i64 gN) := T9.out.var.cell 5
                        have d6 : X9.cell? ⟨G, 6, none⟩ = some (.slice ya eN.length yc) := T9.out.var.cell 6
                        have d7 : X9.cell? ⟨G, 7, none⟩ = some (.slice (some ⟨a7, 0, none⟩) os.length k7) := T9.out.var.cell 7
                        have d8 : X9.cell? ⟨G, 8, none⟩ = some (.slice xxa xN.length xxc) := T9.out.var.cell 8
                        have g0 := T9.out.res.free 0
                        have g1 := T9.out.res.free 1
                        have g2 := T9.out.res.free 2
                        have g3 := T9.out.res.free 3
                        have g4 := T9.out.res.free 4
                        have g5 := T9.out.res.free 5
                        have g6 := T9.out.res.free 6
                        have g7 := T9.out.res.free 7
                        have g8 := T9.out.res.free 8
                        have y0 : X9.cell? ⟨w.heap.size + 2, 0, none⟩ = some (.int .i64 0) := T9.out.res.cell 0
                        have y1 : X9.cell? ⟨w.heap.size + 2, 1, none⟩ = some (.int .i64 0) := T9.out.res.cell 1
                        have y2 : X9.cell? ⟨w.heap.size + 2, 2, none⟩ = some (.int .i64 0) := T9.out.res.cell 2
                        have y3 : X9.cell? ⟨w.heap.size + 2, 3, none⟩ = some (.slice none 0 0) := T9.out.res.cell 3
                        have y4 : X9.cell? ⟨w.heap.size + 2, 4, none⟩ = some (.slice none 0 0) := T9.out.res.cell 4
                        have y5 : X9.cell? ⟨w.heap.size + 2, 5, none⟩ = some (.int .i64 0) := T9.out.res.cell 5
                        have y6 : X9.cell? ⟨w.heap.size + 2, 6, none⟩ = some (.slice none 0 0) := T9.out.res.cell 6
                        have y7 : X9.cell? ⟨w.heap.size + 2, 7, none⟩ = some (.slice none 0 0) := T9.out.res.cell 7
                        have y8 : X9.cell? ⟨w.heap.size + 2, 8, none⟩ = some (.slice none 0 0) := T9.out.res.cell 8
                        have R9 := set_nine (p0 := .int .i64 me) (p1 := .int .i64 peer) (p2 := .int .i64 next) (p3 := .slice (some ⟨a3, 0, none⟩) qs.length k3) (p4 := .slice (some ⟨m, 0, none⟩) ks.length mc) (p5 := .int .i64 gN) (p6 := .slice ya eN.length yc) (p7 := .slice (some ⟨a7, 0, none⟩) os.length k7) (p8 := .slice xxa xN.length xxc) T9.out.res
                        have j0 := R9.cell 0
                        have j1 := R9.cell 1
                        have j2 := R9.cell 2
                        have j3 := R9.cell 3
                        have j4 := R9.cell 4
                        have j5 := R9.cell 5
                        have j6 := R9.cell 6
                        have j7 := R9.cell 7
                        have j8 := R9.cell 8
                        have O9 := only_nine X9 (w.heap.size + 2) (.int .i64 me) (.int .i64 peer) (.int .i64 next) (.slice (some ⟨a3, 0, none⟩) qs.length k3) (.slice (some ⟨m, 0, none⟩) ks.length mc) (.int .i64 gN) (.slice ya eN.length yc) (.slice (some ⟨a7, 0, none⟩) os.length k7) (.slice xxa xN.length xxc)
                        have FIN := Lib.hid (T9.out.below.trans (only_below O9 (by omega) T9.out.below.size))
                        have FCO := Lib.hid ((CO9.out.only O9 T9.out.res (by decide) (by decide) (by decide) (by decide)).lower T9.out.low)
                        clear R9 O9
                        go_wp2_with fail
                        exact bodyPost_ret (v := .tuple #[.agg #[.int .i64 me, .int .i64 peer, .int .i64 next, .slice (some ⟨a3, 0, none⟩) qs.length k3, .slice (some ⟨m, 0, none⟩) ks.length mc, .int .i64 gN, .slice ya eN.length yc, .slice (some ⟨a7, 0, none⟩) os.length k7, .slice xxa xN.length xxc], .bool true]) (by simp [results, Try.results25, go_sem, j0, j1, j2, j3, j4, j5, j6, j7, j8]) rfl (by rw [HQQ.out]; unfold TakeEnd; rw [if_neg (by simp), if_neg HN2.out, if_pos HTN.out, ← HTA.out, ← HOW.out, ← HGN.out, ← HEN.out, ← HXN.out]; exact ⟨_, _, _, _, _, _, _, _, _, _, rfl, FCO.out, FIN.out⟩)
                    · have HTN : Hid (¬ (takeNew got num es = true)) := by
                        show ¬ _
                        unfold takeNew
                        simp only [Bool.and_eq_true, decide_eq_true_eq]
                        exact fun h9 => hgn h9.1
                      go_upto_region 19 with fail
                      clear c5 z4 z6
                      have d0 : X4.cell? ⟨G, 0, none⟩ = some (.int .i64 me) := T4.out.var.cell 0
                      have d1 : X4.cell? ⟨G, 1, none⟩ = some (.int .i64 peer) := T4.out.var.cell 1
                      have d2 : X4.cell? ⟨G, 2, none⟩ = some (.int .i64 next) := T4.out.var.cell 2
                      have d3 : X4.cell? ⟨G, 3, none⟩ = some (.slice (some ⟨a3, 0, none⟩) qs.length k3) := T4.out.var.cell 3
                      have d4 : X4.cell? ⟨G, 4, none⟩ = some (.slice (some ⟨m, 0, none⟩) ks.length mc) := T4.out.var.cell 4
                      have d5 : X4.cell? ⟨G, 5, none⟩ = some (.int .i64 got) := T4.out.var.cell 5
                      have d6 : X4.cell? ⟨G, 6, none⟩ = some (.slice (some ⟨a6, 0, none⟩) es.length k6) := T4.out.var.cell 6
                      have d7 : X4.cell? ⟨G, 7, none⟩ = some (.slice (some ⟨a7, 0, none⟩) os.length k7) := T4.out.var.cell 7
                      have d8 : X4.cell? ⟨G, 8, none⟩ = some (.slice (some ⟨a8, 0, none⟩) xs.length k8) := T4.out.var.cell 8
                      have g0 := T4.out.res.free 0
                      have g1 := T4.out.res.free 1
                      have g2 := T4.out.res.free 2
                      have g3 := T4.out.res.free 3
                      have g4 := T4.out.res.free 4
                      have g5 := T4.out.res.free 5
                      have g6 := T4.out.res.free 6
                      have g7 := T4.out.res.free 7
                      have g8 := T4.out.res.free 8
                      have y0 : X4.cell? ⟨w.heap.size + 2, 0, none⟩ = some (.int .i64 0) := T4.out.res.cell 0
                      have y1 : X4.cell? ⟨w.heap.size + 2, 1, none⟩ = some (.int .i64 0) := T4.out.res.cell 1
                      have y2 : X4.cell? ⟨w.heap.size + 2, 2, none⟩ = some (.int .i64 0) := T4.out.res.cell 2
                      have y3 : X4.cell? ⟨w.heap.size + 2, 3, none⟩ = some (.slice none 0 0) := T4.out.res.cell 3
                      have y4 : X4.cell? ⟨w.heap.size + 2, 4, none⟩ = some (.slice none 0 0) := T4.out.res.cell 4
                      have y5 : X4.cell? ⟨w.heap.size + 2, 5, none⟩ = some (.int .i64 0) := T4.out.res.cell 5
                      have y6 : X4.cell? ⟨w.heap.size + 2, 6, none⟩ = some (.slice none 0 0) := T4.out.res.cell 6
                      have y7 : X4.cell? ⟨w.heap.size + 2, 7, none⟩ = some (.slice none 0 0) := T4.out.res.cell 7
                      have y8 : X4.cell? ⟨w.heap.size + 2, 8, none⟩ = some (.slice none 0 0) := T4.out.res.cell 8
                      have R9 := set_nine (p0 := .int .i64 me) (p1 := .int .i64 peer) (p2 := .int .i64 next) (p3 := .slice (some ⟨a3, 0, none⟩) qs.length k3) (p4 := .slice (some ⟨m, 0, none⟩) ks.length mc) (p5 := .int .i64 got) (p6 := .slice (some ⟨a6, 0, none⟩) es.length k6) (p7 := .slice (some ⟨a7, 0, none⟩) os.length k7) (p8 := .slice (some ⟨a8, 0, none⟩) xs.length k8) T4.out.res
                      have j0 := R9.cell 0
                      have j1 := R9.cell 1
                      have j2 := R9.cell 2
                      have j3 := R9.cell 3
                      have j4 := R9.cell 4
                      have j5 := R9.cell 5
                      have j6 := R9.cell 6
                      have j7 := R9.cell 7
                      have j8 := R9.cell 8
                      have O9 := only_nine X4 (w.heap.size + 2) (.int .i64 me) (.int .i64 peer) (.int .i64 next) (.slice (some ⟨a3, 0, none⟩) qs.length k3) (.slice (some ⟨m, 0, none⟩) ks.length mc) (.int .i64 got) (.slice (some ⟨a6, 0, none⟩) es.length k6) (.slice (some ⟨a7, 0, none⟩) os.length k7) (.slice (some ⟨a8, 0, none⟩) xs.length k8)
                      have FIN := Lib.hid (T4.out.below.trans (only_below O9 (by omega) T4.out.below.size))
                      have FCO := Lib.hid ((CO4.out.only O9 T4.out.res (by decide) (by decide) (by decide) (by decide)).lower T4.out.low)
                      clear R9 O9
                      go_wp2_with fail
                      exact bodyPost_ret (v := .tuple #[.agg #[.int .i64 me, .int .i64 peer, .int .i64 next, .slice (some ⟨a3, 0, none⟩) qs.length k3, .slice (some ⟨m, 0, none⟩) ks.length mc, .int .i64 got, .slice (some ⟨a6, 0, none⟩) es.length k6, .slice (some ⟨a7, 0, none⟩) os.length k7, .slice (some ⟨a8, 0, none⟩) xs.length k8], .bool true]) (by simp [results, Try.results25, go_sem, j0, j1, j2, j3, j4, j5, j6, j7, j8]) rfl (by rw [HQQ.out]; unfold TakeEnd; rw [if_neg (by simp), if_neg HN2.out, if_neg HTN.out, ← HTA.out, ← HOW.out]; exact ⟨_, _, _, _, _, _, _, _, _, _, rfl, FCO.out, FIN.out⟩)
                  · have HOW : Hid (os ++ [num] = takeOwed num os) := by show _ = _; unfold takeOwed; rw [if_pos ⟨h4, hm⟩]
                    have K := Lib.hid (specChanIn_any os num (.slice (some ⟨a7, 0, none⟩) os.length k7) false ⟨fun e => (by cases e), fun e => absurd e hm⟩ hlen9 X4 (layIntS.read CO4.out.o))
                    go_wp2_with fail
                    refine (K.out).mono ?_
                    rintro e Z9 ⟨rfl, hw⟩
                    rw [hw]
                    clear hw K Z9
                    go_upto_region 16 with fail
                    have hG := T4.out.var.lt
                    have hro4 := T4.out.room
                    go_upto_region 17 with (at_builtin; refine wpList_pushF X4 rfl _ _ 25 rfl lo 3 i1 _ 8 Lay.int flatIntP Try.underlying25 hi1 hz1 hsz1 hby1 rfl (by omega) (.slice (some ⟨a7, 0, none⟩) os.length k7) [a7] os (by rfl) CO4.out.o num #[.int .i64 num] rfl (by rfl) (by omega) hro4 ?_; intro v1 w1 hown1 hnn1 hgr1 hbe1; obtain ⟨b7, k7n, rfl, hblk, -, -⟩ := flat_some flatIntP hown1 hnn1; rw [hblk] at hown1; obtain ⟨l7, HL7⟩ : ∃ l : Nat, Hid (l = (os ++ [num]).length) := ⟨_, Lib.hid rfl⟩; rw [← HL7.out] at hown1; rw [← HL7.out]; have hchg := Chg.grown hgr1 [a7] (fun k hk => by cases hk; simp); have hvr : VarA G ChanT #[.int .i64 me, .int .i64 peer, .int .i64 next, .slice (some ⟨a3, 0, none⟩) qs.length k3, .slice (some ⟨m, 0, none⟩) ks.length mc, .int .i64 got, .slice (some ⟨a6, 0, none⟩) es.length k6, .slice (some ⟨a7, 0, none⟩) os.length k7, .slice (some ⟨a8, 0, none⟩) xs.length k8] w1 := ⟨by rw [hchg.block G hG (fun hm => row_off flatIntP CO4.out.o T4.out.var (by decide) hm)]; exact T4.out.var.row⟩; have f7 : w1.cell? ⟨G, 7, none⟩ = some (.slice (some ⟨a7, 0, none⟩) os.length k7) := hvr.cell 7; have u7 := hvr.free 7)
                    have T5a := T4.out.turn hbe1 hvr
                    have CB : CO lo (.slice (some ⟨a3, 0, none⟩) qs.length k3) (.slice (some ⟨m, 0, none⟩) ks.length mc) (.slice (some ⟨a6, 0, none⟩) es.length k6) (.slice (some ⟨b7, 0, none⟩) l7 k7n) (.slice (some ⟨a8, 0, none⟩) xs.length k8) [a3] [m] [a6] [b7] [a8] qs ks es (os ++ [num]) xs w1 := by
                      refine ⟨layStringS.chg CO4.out.q hchg ?_, layPendingS.chg CO4.out.s hchg ?_, layEarlyS.chg CO4.out.e hchg ?_, hown1, layStringS.chg CO4.out.x hchg ?_, CO4.out.ap⟩
                      · exact fun g hg hm => rows_off flatString flatIntP CO4.out.q CO4.out.o (by decide) g hg hm
                      · exact fun g hg hm => rows_off flatPending flatIntP CO4.out.s CO4.out.o (by decide) g hg hm
                      · exact fun g hg hm => rows_off flatEarly flatIntP CO4.out.e CO4.out.o (by decide) g hg hm
                      · exact fun g hg hm => rows_off flatString flatIntP CO4.out.x CO4.out.o (by decide) g hg hm
                    have S7 : Only G w1 (w1.setCell ⟨G, 7, none⟩ (.slice (some ⟨b7, 0, none⟩) l7 k7n)) := Only.setCell 7 _
                    have T5 : Hid (TS w lo G #[.int .i64 me, .int .i64 peer, .int .i64 next, .slice qa qs.length qc, .slice sa ss.length sc, .int .i64 got, .slice ea es.length ec, .slice oa os.length oc, .slice xa xs.length xc] #[.int .i64 op, .int .i64 key, .int .i64 fr, .int .i64 dst, .int .i64 num, .slice pa acks.length pc, .string body] #[.int .i64 me, .int .i64 peer, .int .i64 next, .slice (some ⟨a3, 0, none⟩) qs.length k3, .slice (some ⟨m, 0, none⟩) ks.length mc, .int .i64 got, .slice (some ⟨a6, 0, none⟩) es.length k6, .slice (some ⟨b7, 0, none⟩) l7 k7n, .slice (some ⟨a8, 0, none⟩) xs.length k8] (w1.setCell ⟨G, 7, none⟩ (.slice (some ⟨b7, 0, none⟩) l7 k7n))) := T5a.turn (only_below S7 T5a.lg T5a.room) (hvr.set 7 _)
                    have CO5 := Lib.hid (CB.only S7 hvr (by decide) (by decide) (by decide) (by decide))
                    clear S7 CB T5a T4 CO4 hown1 hnn1 hgr1 hbe1 hblk hchg hvr f7 u7 c7 z4 hro4 hG
                    generalize w1.setCell ⟨G, 7, none⟩ (.slice (some ⟨b7, 0, none⟩) l7 k7n) = X5 at *
                    clear w1
                    have c5 : X5.cell? ⟨w.heap.size, 5, none⟩ = some (.int .i64 got) := T5.out.arg.cell 5
                    have z4 : X5.cell? ⟨w.heap.size + 1, 4, none⟩ = some (.int .i64 num) := T5.out.pkt.cell 4
                    have z6 : X5.cell? ⟨w.heap.size + 1, 6, none⟩ = some (.string body) := T5.out.pkt.cell 6
                    by_cases hgn : got < num
                    · by_cases hin : ∃ e ∈ es, e.1 = num
                      · have HTN : Hid (¬ (takeNew got num es = true)) := by
                          show ¬ _
                          unfold takeNew
                          simp only [Bool.and_eq_true, decide_eq_true_eq]
                          rintro ⟨_, h9⟩
                          obtain ⟨e, he, hee⟩ := hin
                          exact h9 e he hee
                        have K := Lib.hid (specEarly_there lo G me peer next got num (.slice (some ⟨a3, 0, none⟩) qs.length k3) (.slice (some ⟨m, 0, none⟩) ks.length mc) (.slice (some ⟨a6, 0, none⟩) es.length k6) (.slice (some ⟨b7, 0, none⟩) l7 k7n) (.slice (some ⟨a8, 0, none⟩) xs.length k8) [a3] [m] [a6] [b7] [a8] qs ks es (os ++ [num]) xs body le X5 T5.out.var CO5.out T5.out.room hin)
                        clear hin
                        go_wp2_with fail
                        refine (K.out).mono ?_
                        rintro e X9 ⟨rfl, v6, v8, f6, f8, hv9, hc9, hb9⟩
                        obtain ⟨ya, yc, rfl⟩ := rows_form (layEarlyS.read hc9.e)
                        obtain ⟨xxa, xxc, rfl⟩ := rows_form (layStringS.read hc9.x)
                        have T9 := Lib.hid (T5.out.turn hb9 hv9)
                        have CO9 := Lib.hid hc9
                        clear hv9 hc9 hb9 K c5 z4 z6
                        go_upto_region 19 with fail
                        have d0 : X9.cell? ⟨G, 0, none⟩ = some (.int .i64 me) := T9.out.var.cell 0
                        have d1 : X9.cell? ⟨G, 1, none⟩ = some (.int .i64 peer) := T9.out.var.cell 1
                        have d2 : X9.cell? ⟨G, 2, none⟩ = some (.int .i64 next) := T9.out.var.cell 2
                        have d3 : X9.cell? ⟨G, 3, none⟩ = some (.slice (some ⟨a3, 0, none⟩) qs.length k3) := T9.out.var.cell 3
                        have d4 : X9.cell? ⟨G, 4, none⟩ = some (.slice (some ⟨m, 0, none⟩) ks.length mc) := T9.out.var.cell 4
                        have d5 : X9.cell? ⟨G, 5, none⟩ = some (.int .i64 got) := T9.out.var.cell 5
                        have d6 : X9.cell? ⟨G, 6, none⟩ = some (.slice ya es.length yc) := T9.out.var.cell 6
                        have d7 : X9.cell? ⟨G, 7, none⟩ = some (.slice (some ⟨b7, 0, none⟩) l7 k7n) := T9.out.var.cell 7
                        have d8 : X9.cell? ⟨G, 8, none⟩ = some (.slice xxa xs.length xxc) := T9.out.var.cell 8
                        have g0 := T9.out.res.free 0
                        have g1 := T9.out.res.free 1
                        have g2 := T9.out.res.free 2
                        have g3 := T9.out.res.free 3
                        have g4 := T9.out.res.free 4
                        have g5 := T9.out.res.free 5
                        have g6 := T9.out.res.free 6
                        have g7 := T9.out.res.free 7
                        have g8 := T9.out.res.free 8
                        have y0 : X9.cell? ⟨w.heap.size + 2, 0, none⟩ = some (.int .i64 0) := T9.out.res.cell 0
                        have y1 : X9.cell? ⟨w.heap.size + 2, 1, none⟩ = some (.int .i64 0) := T9.out.res.cell 1
                        have y2 : X9.cell? ⟨w.heap.size + 2, 2, none⟩ = some (.int .i64 0) := T9.out.res.cell 2
                        have y3 : X9.cell? ⟨w.heap.size + 2, 3, none⟩ = some (.slice none 0 0) := T9.out.res.cell 3
                        have y4 : X9.cell? ⟨w.heap.size + 2, 4, none⟩ = some (.slice none 0 0) := T9.out.res.cell 4
                        have y5 : X9.cell? ⟨w.heap.size + 2, 5, none⟩ = some (.int .i64 0) := T9.out.res.cell 5
                        have y6 : X9.cell? ⟨w.heap.size + 2, 6, none⟩ = some (.slice none 0 0) := T9.out.res.cell 6
                        have y7 : X9.cell? ⟨w.heap.size + 2, 7, none⟩ = some (.slice none 0 0) := T9.out.res.cell 7
                        have y8 : X9.cell? ⟨w.heap.size + 2, 8, none⟩ = some (.slice none 0 0) := T9.out.res.cell 8
                        have R9 := set_nine (p0 := .int .i64 me) (p1 := .int .i64 peer) (p2 := .int .i64 next) (p3 := .slice (some ⟨a3, 0, none⟩) qs.length k3) (p4 := .slice (some ⟨m, 0, none⟩) ks.length mc) (p5 := .int .i64 got) (p6 := .slice ya es.length yc) (p7 := .slice (some ⟨b7, 0, none⟩) l7 k7n) (p8 := .slice xxa xs.length xxc) T9.out.res
                        have j0 := R9.cell 0
                        have j1 := R9.cell 1
                        have j2 := R9.cell 2
                        have j3 := R9.cell 3
                        have j4 := R9.cell 4
                        have j5 := R9.cell 5
                        have j6 := R9.cell 6
                        have j7 := R9.cell 7
                        have j8 := R9.cell 8
                        have O9 := only_nine X9 (w.heap.size + 2) (.int .i64 me) (.int .i64 peer) (.int .i64 next) (.slice (some ⟨a3, 0, none⟩) qs.length k3) (.slice (some ⟨m, 0, none⟩) ks.length mc) (.int .i64 got) (.slice ya es.length yc) (.slice (some ⟨b7, 0, none⟩) l7 k7n) (.slice xxa xs.length xxc)
                        have FIN := Lib.hid (T9.out.below.trans (only_below O9 (by omega) T9.out.below.size))
                        have FCO := Lib.hid ((CO9.out.only O9 T9.out.res (by decide) (by decide) (by decide) (by decide)).lower T9.out.low)
                        clear R9 O9
                        go_wp2_with fail
                        exact bodyPost_ret (v := .tuple #[.agg #[.int .i64 me, .int .i64 peer, .int .i64 next, .slice (some ⟨a3, 0, none⟩) qs.length k3, .slice (some ⟨m, 0, none⟩) ks.length mc, .int .i64 got, .slice ya es.length yc, .slice (some ⟨b7, 0, none⟩) l7 k7n, .slice xxa xs.length xxc], .bool true]) (by simp [results, Try.results25, go_sem, j0, j1, j2, j3, j4, j5, j6, j7, j8]) rfl (by rw [HQQ.out]; unfold TakeEnd; rw [if_neg (by simp), if_neg HN2.out, if_neg HTN.out, ← HTA.out, ← HOW.out]; exact ⟨_, _, _, _, _, _, _, _, _, _, rfl, FCO.out, FIN.out⟩)
                      · have hin2 : ∀ e ∈ es, e.1 ≠ num := fun e he h9 => hin ⟨e, he, h9⟩
                        have HTN : Hid (takeNew got num es = true) := by
                          show _ = _
                          unfold takeNew
                          simp only [Bool.and_eq_true, decide_eq_true_eq]
                          exact ⟨hgn, hin2⟩
                        have K := Lib.hid (specEarly_new lo G me peer next got num (.slice (some ⟨a3, 0, none⟩) qs.length k3) (.slice (some ⟨m, 0, none⟩) ks.length mc) (.slice (some ⟨a6, 0, none⟩) es.length k6) (.slice (some ⟨b7, 0, none⟩) l7 k7n) (.slice (some ⟨a8, 0, none⟩) xs.length k8) [a3] [m] [a6] [b7] [a8] qs ks es (os ++ [num]) xs body le (by have := HFR.out.1.many; omega) (by omega) (by omega) X5 T5.out.var CO5.out T5.out.room T5.out.lg hin2)
                        obtain ⟨gN, HGN⟩ : ∃ z : Int, Hid (z = got + (drainN got (putE num body es) : Nat)) := ⟨_, Lib.hid rfl⟩
                        obtain ⟨eN, HEN⟩ : ∃ z : List EarlyD, Hid (z = (putE num body es).drop (drainN got (putE num body es))) := ⟨_, Lib.hid rfl⟩
                        obtain ⟨xN, HXN⟩ : ∃ z : List ByteArray, Hid (z = xs ++ ((putE num body es).take (drainN got (putE num body es))).map (·.2)) := ⟨_, Lib.hid rfl⟩
                        rw [← HGN.out, ← HEN.out, ← HXN.out] at K
                        clear hin hin2
                        go_wp2_with fail
                        refine (K.out).mono ?_
                        rintro e X9 ⟨rfl, v6, v8, f6, f8, hv9, hc9, hb9⟩
                        obtain ⟨ya, yc, rfl⟩ := rows_form (layEarlyS.read hc9.e)
                        obtain ⟨xxa, xxc, rfl⟩ := rows_form (layStringS.read hc9.x)
                        have T9 := Lib.hid (T5.out.turn hb9 hv9)
                        have CO9 := Lib.hid hc9
                        clear hv9 hc9 hb9 K c5 z4 z6
                        go_upto_region 19 with fail
                        have d0 : X9.cell? ⟨G, 0, none⟩ = some (.int .i64 me) := T9.out.var.cell 0
                        have d1 : X9.cell? ⟨G, 1, none⟩ = some (.int .i64 peer) := T9.out.var.cell 1
                        have d2 : X9.cell? ⟨G, 2, none⟩ = some (.int .i64 next) := T9.out.var.cell 2
                        have d3 : X9.cell? ⟨G, 3, none⟩ = some (.slice (some ⟨a3, 0, none⟩) qs.length k3) := T9.out.var.cell 3
                        have d4 : X9.cell? ⟨G, 4, none⟩ = some (.slice (some ⟨m, 0, none⟩) ks.length mc) := T9.out.var.cell 4
                        have d5 : X9.cell? ⟨G, 5, none⟩ = some (.int .i64 gN) := T9.out.var.cell 5
                        have d6 : X9.cell? ⟨G, 6, none⟩ = some (.slice ya eN.length yc) := T9.out.var.cell 6
                        have d7 : X9.cell? ⟨G, 7, none⟩ = some (.slice (some ⟨b7, 0, none⟩) l7 k7n) := T9.out.var.cell 7
                        have d8 : X9.cell? ⟨G, 8, none⟩ = some (.slice xxa xN.length xxc) := T9.out.var.cell 8
                        have g0 := T9.out.res.free 0
                        have g1 := T9.out.res.free 1
                        have g2 := T9.out.res.free 2
                        have g3 := T9.out.res.free 3
                        have g4 := T9.out.res.free 4
                        have g5 := T9.out.res.free 5
                        have g6 := T9.out.res.free 6
                        have g7 := T9.out.res.free 7
                        have g8 := T9.out.res.free 8
                        have y0 : X9.cell? ⟨w.heap.size + 2, 0, none⟩ = some (.int .i64 0) := T9.out.res.cell 0
                        have y1 : X9.cell? ⟨w.heap.size + 2, 1, none⟩ = some (.int .i64 0) := T9.out.res.cell 1
                        have y2 : X9.cell? ⟨w.heap.size + 2, 2, none⟩ = some (.int .i64 0) := T9.out.res.cell 2
                        have y3 : X9.cell? ⟨w.heap.size + 2, 3, none⟩ = some (.slice none 0 0) := T9.out.res.cell 3
                        have y4 : X9.cell? ⟨w.heap.size + 2, 4, none⟩ = some (.slice none 0 0) := T9.out.res.cell 4
                        have y5 : X9.cell? ⟨w.heap.size + 2, 5, none⟩ = some (.int .i64 0) := T9.out.res.cell 5
                        have y6 : X9.cell? ⟨w.heap.size + 2, 6, none⟩ = some (.slice none 0 0) := T9.out.res.cell 6
                        have y7 : X9.cell? ⟨w.heap.size + 2, 7, none⟩ = some (.slice none 0 0) := T9.out.res.cell 7
                        have y8 : X9.cell? ⟨w.heap.size + 2, 8, none⟩ = some (.slice none 0 0) := T9.out.res.cell 8
                        have R9 := set_nine (p0 := .int .i64 me) (p1 := .int .i64 peer) (p2 := .int .i64 next) (p3 := .slice (some ⟨a3, 0, none⟩) qs.length k3) (p4 := .slice (some ⟨m, 0, none⟩) ks.length mc) (p5 := .int .i64 gN) (p6 := .slice ya eN.length yc) (p7 := .slice (some ⟨b7, 0, none⟩) l7 k7n) (p8 := .slice xxa xN.length xxc) T9.out.res
                        have j0 := R9.cell 0
                        have j1 := R9.cell 1
                        have j2 := R9.cell 2
                        have j3 := R9.cell 3
                        have j4 := R9.cell 4
                        have j5 := R9.cell 5
                        have j6 := R9.cell 6
                        have j7 := R9.cell 7
                        have j8 := R9.cell 8
                        have O9 := only_nine X9 (w.heap.size + 2) (.int .i64 me) (.int .i64 peer) (.int .i64 next) (.slice (some ⟨a3, 0, none⟩) qs.length k3) (.slice (some ⟨m, 0, none⟩) ks.length mc) (.int .i64 gN) (.slice ya eN.length yc) (.slice (some ⟨b7, 0, none⟩) l7 k7n) (.slice xxa xN.length xxc)
                        have FIN := Lib.hid (T9.out.below.trans (only_below O9 (by omega) T9.out.below.size))
                        have FCO := Lib.hid ((CO9.out.only O9 T9.out.res (by decide) (by decide) (by decide) (by decide)).lower T9.out.low)
                        clear R9 O9
                        go_wp2_with fail
                        exact bodyPost_ret (v := .tuple #[.agg #[.int .i64 me, .int .i64 peer, .int .i64 next, .slice (some ⟨a3, 0, none⟩) qs.length k3, .slice (some ⟨m, 0, none⟩) ks.length mc, .int .i64 gN, .slice ya eN.length yc, .slice (some ⟨b7, 0, none⟩) l7 k7n, .slice xxa xN.length xxc], .bool true]) (by simp [results, Try.results25, go_sem, j0, j1, j2, j3, j4, j5, j6, j7, j8]) rfl (by rw [HQQ.out]; unfold TakeEnd; rw [if_neg (by simp), if_neg HN2.out, if_pos HTN.out, ← HTA.out, ← HOW.out, ← HGN.out, ← HEN.out, ← HXN.out]; exact ⟨_, _, _, _, _, _, _, _, _, _, rfl, FCO.out, FIN.out⟩)
                    · have HTN : Hid (¬ (takeNew got num es = true)) := by
                        show ¬ _
                        unfold takeNew
                        simp only [Bool.and_eq_true, decide_eq_true_eq]
                        exact fun h9 => hgn h9.1
                      go_upto_region 19 with fail
                      clear c5 z4 z6
                      have d0 : X5.cell? ⟨G, 0, none⟩ = some (.int .i64 me) := T5.out.var.cell 0
                      have d1 : X5.cell? ⟨G, 1, none⟩ = some (.int .i64 peer) := T5.out.var.cell 1
                      have d2 : X5.cell? ⟨G, 2, none⟩ = some (.int .i64 next) := T5.out.var.cell 2
                      have d3 : X5.cell? ⟨G, 3, none⟩ = some (.slice (some ⟨a3, 0, none⟩) qs.length k3) := T5.out.var.cell 3
                      have d4 : X5.cell? ⟨G, 4, none⟩ = some (.slice (some ⟨m, 0, none⟩) ks.length mc) := T5.out.var.cell 4
                      have d5 : X5.cell? ⟨G, 5, none⟩ = some (.int .i64 got) := T5.out.var.cell 5
                      have d6 : X5.cell? ⟨G, 6, none⟩ = some (.slice (some ⟨a6, 0, none⟩) es.length k6) := T5.out.var.cell 6
                      have d7 : X5.cell? ⟨G, 7, none⟩ = some (.slice (some ⟨b7, 0, none⟩) l7 k7n) := T5.out.var.cell 7
                      have d8 : X5.cell? ⟨G, 8, none⟩ = some (.slice (some ⟨a8, 0, none⟩) xs.length k8) := T5.out.var.cell 8
                      have g0 := T5.out.res.free 0
                      have g1 := T5.out.res.free 1
                      have g2 := T5.out.res.free 2
                      have g3 := T5.out.res.free 3
                      have g4 := T5.out.res.free 4
                      have g5 := T5.out.res.free 5
                      have g6 := T5.out.res.free 6
                      have g7 := T5.out.res.free 7
                      have g8 := T5.out.res.free 8
                      have y0 : X5.cell? ⟨w.heap.size + 2, 0, none⟩ = some (.int .i64 0) := T5.out.res.cell 0
                      have y1 : X5.cell? ⟨w.heap.size + 2, 1, none⟩ = some (.int .i64 0) := T5.out.res.cell 1
                      have y2 : X5.cell? ⟨w.heap.size + 2, 2, none⟩ = some (.int .i64 0) := T5.out.res.cell 2
                      have y3 : X5.cell? ⟨w.heap.size + 2, 3, none⟩ = some (.slice none 0 0) := T5.out.res.cell 3
                      have y4 : X5.cell? ⟨w.heap.size + 2, 4, none⟩ = some (.slice none 0 0) := T5.out.res.cell 4
                      have y5 : X5.cell? ⟨w.heap.size + 2, 5, none⟩ = some (.int .i64 0) := T5.out.res.cell 5
                      have y6 : X5.cell? ⟨w.heap.size + 2, 6, none⟩ = some (.slice none 0 0) := T5.out.res.cell 6
                      have y7 : X5.cell? ⟨w.heap.size + 2, 7, none⟩ = some (.slice none 0 0) := T5.out.res.cell 7
                      have y8 : X5.cell? ⟨w.heap.size + 2, 8, none⟩ = some (.slice none 0 0) := T5.out.res.cell 8
                      have R9 := set_nine (p0 := .int .i64 me) (p1 := .int .i64 peer) (p2 := .int .i64 next) (p3 := .slice (some ⟨a3, 0, none⟩) qs.length k3) (p4 := .slice (some ⟨m, 0, none⟩) ks.length mc) (p5 := .int .i64 got) (p6 := .slice (some ⟨a6, 0, none⟩) es.length k6) (p7 := .slice (some ⟨b7, 0, none⟩) l7 k7n) (p8 := .slice (some ⟨a8, 0, none⟩) xs.length k8) T5.out.res
                      have j0 := R9.cell 0
                      have j1 := R9.cell 1
                      have j2 := R9.cell 2
                      have j3 := R9.cell 3
                      have j4 := R9.cell 4
                      have j5 := R9.cell 5
                      have j6 := R9.cell 6
                      have j7 := R9.cell 7
                      have j8 := R9.cell 8
                      have O9 := only_nine X5 (w.heap.size + 2) (.int .i64 me) (.int .i64 peer) (.int .i64 next) (.slice (some ⟨a3, 0, none⟩) qs.length k3) (.slice (some ⟨m, 0, none⟩) ks.length mc) (.int .i64 got) (.slice (some ⟨a6, 0, none⟩) es.length k6) (.slice (some ⟨b7, 0, none⟩) l7 k7n) (.slice (some ⟨a8, 0, none⟩) xs.length k8)
                      have FIN := Lib.hid (T5.out.below.trans (only_below O9 (by omega) T5.out.below.size))
                      have FCO := Lib.hid ((CO5.out.only O9 T5.out.res (by decide) (by decide) (by decide) (by decide)).lower T5.out.low)
                      clear R9 O9
                      go_wp2_with fail
                      exact bodyPost_ret (v := .tuple #[.agg #[.int .i64 me, .int .i64 peer, .int .i64 next, .slice (some ⟨a3, 0, none⟩) qs.length k3, .slice (some ⟨m, 0, none⟩) ks.length mc, .int .i64 got, .slice (some ⟨a6, 0, none⟩) es.length k6, .slice (some ⟨b7, 0, none⟩) l7 k7n, .slice (some ⟨a8, 0, none⟩) xs.length k8], .bool true]) (by simp [results, Try.results25, go_sem, j0, j1, j2, j3, j4, j5, j6, j7, j8]) rfl (by rw [HQQ.out]; unfold TakeEnd; rw [if_neg (by simp), if_neg HN2.out, if_neg HTN.out, ← HTA.out, ← HOW.out]; exact ⟨_, _, _, _, _, _, _, _, _, _, rfl, FCO.out, FIN.out⟩)
                · have q4 : ¬ ((os.length : Int) < 4) := by omega
                  have HOW : Hid (os = takeOwed num os) := by show _ = _; unfold takeOwed; rw [if_neg (fun h => h4 h.1)]
                  go_upto_region 17 with fail
                  clear c7 z4
                  have c5 : X4.cell? ⟨w.heap.size, 5, none⟩ = some (.int .i64 got) := T4.out.arg.cell 5
                  have z4 : X4.cell? ⟨w.heap.size + 1, 4, none⟩ = some (.int .i64 num) := T4.out.pkt.cell 4
                  have z6 : X4.cell? ⟨w.heap.size + 1, 6, none⟩ = some (.string body) := T4.out.pkt.cell 6
                  by_cases hgn : got < num
                  · by_cases hin : ∃ e ∈ es, e.1 = num
                    · have HTN : Hid (¬ (takeNew got num es = true)) := by
                        show ¬ _
                        unfold takeNew
                        simp only [Bool.and_eq_true, decide_eq_true_eq]
                        rintro ⟨_, h9⟩
                        obtain ⟨e, he, hee⟩ := hin
                        exact h9 e he hee
                      have K := Lib.hid (specEarly_there lo G me peer next got num (.slice (some ⟨a3, 0, none⟩) qs.length k3) (.slice (some ⟨m, 0, none⟩) ks.length mc) (.slice (some ⟨a6, 0, none⟩) es.length k6) (.slice (some ⟨a7, 0, none⟩) os.length k7) (.slice (some ⟨a8, 0, none⟩) xs.length k8) [a3] [m] [a6] [a7] [a8] qs ks es os xs body le X4 T4.out.var CO4.out T4.out.room hin)
                      clear hin
                      go_wp2_with fail
                      refine (K.out).mono ?_
                      rintro e X9 ⟨rfl, v6, v8, f6, f8, hv9, hc9, hb9⟩
                      obtain ⟨ya, yc, rfl⟩ := rows_form (layEarlyS.read hc9.e)
                      obtain ⟨xxa, xxc, rfl⟩ := rows_form (layStringS.read hc9.x)
                      have T9 := Lib.hid (T4.out.turn hb9 hv9)
                      have CO9 := Lib.hid hc9
                      clear hv9 hc9 hb9 K c5 z4 z6
                      go_upto_region 19 with fail
                      have d0 : X9.cell? ⟨G, 0, none⟩ = some (.int .i64 me) := T9.out.var.cell 0
                      have d1 : X9.cell? ⟨G, 1, none⟩ = some (.int .i64 peer) := T9.out.var.cell 1
                      have d2 : X9.cell? ⟨G, 2, none⟩ = some (.int .i64 next) := T9.out.var.cell 2
                      have d3 : X9.cell? ⟨G, 3, none⟩ = some (.slice (some ⟨a3, 0, none⟩) qs.length k3) := T9.out.var.cell 3
                      have d4 : X9.cell? ⟨G, 4, none⟩ = some (.slice (some ⟨m, 0, none⟩) ks.length mc) := T9.out.var.cell 4
                      have d5 : X9.cell? ⟨G, 5, none⟩ = some (.int .i64 got) := T9.out.var.cell 5
                      have d6 : X9.cell? ⟨G, 6, none⟩ = some (.slice ya es.length yc) := T9.out.var.cell 6
                      have d7 : X9.cell? ⟨G, 7, none⟩ = some (.slice (some ⟨a7, 0, none⟩) os.length k7) := T9.out.var.cell 7
                      have d8 : X9.cell? ⟨G, 8, none⟩ = some (.slice xxa xs.length xxc) := T9.out.var.cell 8
                      have g0 := T9.out.res.free 0
                      have g1 := T9.out.res.free 1
                      have g2 := T9.out.res.free 2
                      have g3 := T9.out.res.free 3
                      have g4 := T9.out.res.free 4
                      have g5 := T9.out.res.free 5
                      have g6 := T9.out.res.free 6
                      have g7 := T9.out.res.free 7
                      have g8 := T9.out.res.free 8
                      have y0 : X9.cell? ⟨w.heap.size + 2, 0, none⟩ = some (.int .i64 0) := T9.out.res.cell 0
                      have y1 : X9.cell? ⟨w.heap.size + 2, 1, none⟩ = some (.int .i64 0) := T9.out.res.cell 1
                      have y2 : X9.cell? ⟨w.heap.size + 2, 2, none⟩ = some (.int .i64 0) := T9.out.res.cell 2
                      have y3 : X9.cell? ⟨w.heap.size + 2, 3, none⟩ = some (.slice none 0 0) := T9.out.res.cell 3
                      have y4 : X9.cell? ⟨w.heap.size + 2, 4, none⟩ = some (.slice none 0 0) := T9.out.res.cell 4
                      have y5 : X9.cell? ⟨w.heap.size + 2, 5, none⟩ = some (.int .i64 0) := T9.out.res.cell 5
                      have y6 : X9.cell? ⟨w.heap.size + 2, 6, none⟩ = some (.slice none 0 0) := T9.out.res.cell 6
                      have y7 : X9.cell? ⟨w.heap.size + 2, 7, none⟩ = some (.slice none 0 0) := T9.out.res.cell 7
                      have y8 : X9.cell? ⟨w.heap.size + 2, 8, none⟩ = some (.slice none 0 0) := T9.out.res.cell 8
                      have R9 := set_nine (p0 := .int .i64 me) (p1 := .int .i64 peer) (p2 := .int .i64 next) (p3 := .slice (some ⟨a3, 0, none⟩) qs.length k3) (p4 := .slice (some ⟨m, 0, none⟩) ks.length mc) (p5 := .int .i64 got) (p6 := .slice ya es.length yc) (p7 := .slice (some ⟨a7, 0, none⟩) os.length k7) (p8 := .slice xxa xs.length xxc) T9.out.res
                      have j0 := R9.cell 0
                      have j1 := R9.cell 1
                      have j2 := R9.cell 2
                      have j3 := R9.cell 3
                      have j4 := R9.cell 4
                      have j5 := R9.cell 5
                      have j6 := R9.cell 6
                      have j7 := R9.cell 7
                      have j8 := R9.cell 8
                      have O9 := only_nine X9 (w.heap.size + 2) (.int .i64 me) (.int .i64 peer) (.int .i64 next) (.slice (some ⟨a3, 0, none⟩) qs.length k3) (.slice (some ⟨m, 0, none⟩) ks.length mc) (.int .i64 got) (.slice ya es.length yc) (.slice (some ⟨a7, 0, none⟩) os.length k7) (.slice xxa xs.length xxc)
                      have FIN := Lib.hid (T9.out.below.trans (only_below O9 (by omega) T9.out.below.size))
                      have FCO := Lib.hid ((CO9.out.only O9 T9.out.res (by decide) (by decide) (by decide) (by decide)).lower T9.out.low)
                      clear R9 O9
                      go_wp2_with fail
                      exact bodyPost_ret (v := .tuple #[.agg #[.int .i64 me, .int .i64 peer, .int .i64 next, .slice (some ⟨a3, 0, none⟩) qs.length k3, .slice (some ⟨m, 0, none⟩) ks.length mc, .int .i64 got, .slice ya es.length yc, .slice (some ⟨a7, 0, none⟩) os.length k7, .slice xxa xs.length xxc], .bool true]) (by simp [results, Try.results25, go_sem, j0, j1, j2, j3, j4, j5, j6, j7, j8]) rfl (by rw [HQQ.out]; unfold TakeEnd; rw [if_neg (by simp), if_neg HN2.out, if_neg HTN.out, ← HTA.out, ← HOW.out]; exact ⟨_, _, _, _, _, _, _, _, _, _, rfl, FCO.out, FIN.out⟩)
                    · have hin2 : ∀ e ∈ es, e.1 ≠ num := fun e he h9 => hin ⟨e, he, h9⟩
                      have HTN : Hid (takeNew got num es = true) := by
                        show _ = _
                        unfold takeNew
                        simp only [Bool.and_eq_true, decide_eq_true_eq]
                        exact ⟨hgn, hin2⟩
                      have K := Lib.hid (specEarly_new lo G me peer next got num (.slice (some ⟨a3, 0, none⟩) qs.length k3) (.slice (some ⟨m, 0, none⟩) ks.length mc) (.slice (some ⟨a6, 0, none⟩) es.length k6) (.slice (some ⟨a7, 0, none⟩) os.length k7) (.slice (some ⟨a8, 0, none⟩) xs.length k8) [a3] [m] [a6] [a7] [a8] qs ks es os xs body le (by have := HFR.out.1.many; omega) (by omega) (by omega) X4 T4.out.var CO4.out T4.out.room T4.out.lg hin2)
                      obtain ⟨gN, HGN⟩ : ∃ z : Int, Hid (z = got + (drainN got (putE num body es) : Nat)) := ⟨_, Lib.hid rfl⟩
                      obtain ⟨eN, HEN⟩ : ∃ z : List EarlyD, Hid (z = (putE num body es).drop (drainN got (putE num body es))) := ⟨_, Lib.hid rfl⟩
                      obtain ⟨xN, HXN⟩ : ∃ z : List ByteArray, Hid (z = xs ++ ((putE num body es).take (drainN got (putE num body es))).map (·.2)) := ⟨_, Lib.hid rfl⟩
                      rw [← HGN.out, ← HEN.out, ← HXN.out] at K
                      clear hin hin2
                      go_wp2_with fail
                      refine (K.out).mono ?_
                      rintro e X9 ⟨rfl, v6, v8, f6, f8, hv9, hc9, hb9⟩
                      obtain ⟨ya, yc, rfl⟩ := rows_form (layEarlyS.read hc9.e)
                      obtain ⟨xxa, xxc, rfl⟩ := rows_form (layStringS.read hc9.x)
                      have T9 := Lib.hid (T4.out.turn hb9 hv9)
                      have CO9 := Lib.hid hc9
                      clear hv9 hc9 hb9 K c5 z4 z6
                      go_upto_region 19 with fail
                      have d0 : X9.cell? ⟨G, 0, none⟩ = some (.int .i64 me) := T9.out.var.cell 0
                      have d1 : X9.cell? ⟨G, 1, none⟩ = some (.int .i64 peer) := T9.out.var.cell 1
                      have d2 : X9.cell? ⟨G, 2, none⟩ = some (.int .i64 next) := T9.out.var.cell 2
                      have d3 : X9.cell? ⟨G, 3, none⟩ = some (.slice (some ⟨a3, 0, none⟩) qs.length k3) := T9.out.var.cell 3
                      have d4 : X9.cell? ⟨G, 4, none⟩ = some (.slice (some ⟨m, 0, none⟩) ks.length mc) := T9.out.var.cell 4
                      have d5 : X9.cell? ⟨G, 5, none⟩ = some (.int .i64 gN) := T9.out.var.cell 5
                      have d6 : X9.cell? ⟨G, 6, none⟩ = some (.slice ya eN.length yc) := T9.out.var.cell 6
                      have d7 : X9.cell? ⟨G, 7, none⟩ = some (.slice (some ⟨a7, 0, none⟩) os.length k7) := T9.out.var.cell 7
                      have d8 : X9.cell? ⟨G, 8, none⟩ = some (.slice xxa xN.length xxc) := T9.out.var.cell 8
                      have g0 := T9.out.res.free 0
                      have g1 := T9.out.res.free 1
                      have g2 := T9.out.res.free 2
                      have g3 := T9.out.res.free 3
                      have g4 := T9.out.res.free 4
                      have g5 := T9.out.res.free 5
                      have g6 := T9.out.res.free 6
                      have g7 := T9.out.res.free 7
                      have g8 := T9.out.res.free 8
                      have y0 : X9.cell? ⟨w.heap.size + 2, 0, none⟩ = some (.int .i64 0) := T9.out.res.cell 0
                      have y1 : X9.cell? ⟨w.heap.size + 2, 1, none⟩ = some (.int .i64 0) := T9.out.res.cell 1
                      have y2 : X9.cell? ⟨w.heap.size + 2, 2, none⟩ = some (.int .i64 0) := T9.out.res.cell 2
                      have y3 : X9.cell? ⟨w.heap.size + 2, 3, none⟩ = some (.slice none 0 0) := T9.out.res.cell 3
                      have y4 : X9.cell? ⟨w.heap.size + 2, 4, none⟩ = some (.slice none 0 0) := T9.out.res.cell 4
                      have y5 : X9.cell? ⟨w.heap.size + 2, 5, none⟩ = some (.int .i64 0) := T9.out.res.cell 5
                      have y6 : X9.cell? ⟨w.heap.size + 2, 6, none⟩ = some (.slice none 0 0) := T9.out.res.cell 6
                      have y7 : X9.cell? ⟨w.heap.size + 2, 7, none⟩ = some (.slice none 0 0) := T9.out.res.cell 7
                      have y8 : X9.cell? ⟨w.heap.size + 2, 8, none⟩ = some (.slice none 0 0) := T9.out.res.cell 8
                      have R9 := set_nine (p0 := .int .i64 me) (p1 := .int .i64 peer) (p2 := .int .i64 next) (p3 := .slice (some ⟨a3, 0, none⟩) qs.length k3) (p4 := .slice (some ⟨m, 0, none⟩) ks.length mc) (p5 := .int .i64 gN) (p6 := .slice ya eN.length yc) (p7 := .slice (some ⟨a7, 0, none⟩) os.length k7) (p8 := .slice xxa xN.length xxc) T9.out.res
                      have j0 := R9.cell 0
                      have j1 := R9.cell 1
                      have j2 := R9.cell 2
                      have j3 := R9.cell 3
                      have j4 := R9.cell 4
                      have j5 := R9.cell 5
                      have j6 := R9.cell 6
                      have j7 := R9.cell 7
                      have j8 := R9.cell 8
                      have O9 := only_nine X9 (w.heap.size + 2) (.int .i64 me) (.int .i64 peer) (.int .i64 next) (.slice (some ⟨a3, 0, none⟩) qs.length k3) (.slice (some ⟨m, 0, none⟩) ks.length mc) (.int .i64 gN) (.slice ya eN.length yc) (.slice (some ⟨a7, 0, none⟩) os.length k7) (.slice xxa xN.length xxc)
                      have FIN := Lib.hid (T9.out.below.trans (only_below O9 (by omega) T9.out.below.size))
                      have FCO := Lib.hid ((CO9.out.only O9 T9.out.res (by decide) (by decide) (by decide) (by decide)).lower T9.out.low)
                      clear R9 O9
                      go_wp2_with fail
                      exact bodyPost_ret (v := .tuple #[.agg #[.int .i64 me, .int .i64 peer, .int .i64 next, .slice (some ⟨a3, 0, none⟩) qs.length k3, .slice (some ⟨m, 0, none⟩) ks.length mc, .int .i64 gN, .slice ya eN.length yc, .slice (some ⟨a7, 0, none⟩) os.length k7, .slice xxa xN.length xxc], .bool true]) (by simp [results, Try.results25, go_sem, j0, j1, j2, j3, j4, j5, j6, j7, j8]) rfl (by rw [HQQ.out]; unfold TakeEnd; rw [if_neg (by simp), if_neg HN2.out, if_pos HTN.out, ← HTA.out, ← HOW.out, ← HGN.out, ← HEN.out, ← HXN.out]; exact ⟨_, _, _, _, _, _, _, _, _, _, rfl, FCO.out, FIN.out⟩)
                  · have HTN : Hid (¬ (takeNew got num es = true)) := by
                      show ¬ _
                      unfold takeNew
                      simp only [Bool.and_eq_true, decide_eq_true_eq]
                      exact fun h9 => hgn h9.1
                    go_upto_region 19 with fail
                    clear c5 z4 z6
                    have d0 : X4.cell? ⟨G, 0, none⟩ = some (.int .i64 me) := T4.out.var.cell 0
                    have d1 : X4.cell? ⟨G, 1, none⟩ = some (.int .i64 peer) := T4.out.var.cell 1
                    have d2 : X4.cell? ⟨G, 2, none⟩ = some (.int .i64 next) := T4.out.var.cell 2
                    have d3 : X4.cell? ⟨G, 3, none⟩ = some (.slice (some ⟨a3, 0, none⟩) qs.length k3) := T4.out.var.cell 3
                    have d4 : X4.cell? ⟨G, 4, none⟩ = some (.slice (some ⟨m, 0, none⟩) ks.length mc) := T4.out.var.cell 4
                    have d5 : X4.cell? ⟨G, 5, none⟩ = some (.int .i64 got) := T4.out.var.cell 5
                    have d6 : X4.cell? ⟨G, 6, none⟩ = some (.slice (some ⟨a6, 0, none⟩) es.length k6) := T4.out.var.cell 6
                    have d7 : X4.cell? ⟨G, 7, none⟩ = some (.slice (some ⟨a7, 0, none⟩) os.length k7) := T4.out.var.cell 7
                    have d8 : X4.cell? ⟨G, 8, none⟩ = some (.slice (some ⟨a8, 0, none⟩) xs.length k8) := T4.out.var.cell 8
                    have g0 := T4.out.res.free 0
                    have g1 := T4.out.res.free 1
                    have g2 := T4.out.res.free 2
                    have g3 := T4.out.res.free 3
                    have g4 := T4.out.res.free 4
                    have g5 := T4.out.res.free 5
                    have g6 := T4.out.res.free 6
                    have g7 := T4.out.res.free 7
                    have g8 := T4.out.res.free 8
                    have y0 : X4.cell? ⟨w.heap.size + 2, 0, none⟩ = some (.int .i64 0) := T4.out.res.cell 0
                    have y1 : X4.cell? ⟨w.heap.size + 2, 1, none⟩ = some (.int .i64 0) := T4.out.res.cell 1
                    have y2 : X4.cell? ⟨w.heap.size + 2, 2, none⟩ = some (.int .i64 0) := T4.out.res.cell 2
                    have y3 : X4.cell? ⟨w.heap.size + 2, 3, none⟩ = some (.slice none 0 0) := T4.out.res.cell 3
                    have y4 : X4.cell? ⟨w.heap.size + 2, 4, none⟩ = some (.slice none 0 0) := T4.out.res.cell 4
                    have y5 : X4.cell? ⟨w.heap.size + 2, 5, none⟩ = some (.int .i64 0) := T4.out.res.cell 5
                    have y6 : X4.cell? ⟨w.heap.size + 2, 6, none⟩ = some (.slice none 0 0) := T4.out.res.cell 6
                    have y7 : X4.cell? ⟨w.heap.size + 2, 7, none⟩ = some (.slice none 0 0) := T4.out.res.cell 7
                    have y8 : X4.cell? ⟨w.heap.size + 2, 8, none⟩ = some (.slice none 0 0) := T4.out.res.cell 8
                    have R9 := set_nine (p0 := .int .i64 me) (p1 := .int .i64 peer) (p2 := .int .i64 next) (p3 := .slice (some ⟨a3, 0, none⟩) qs.length k3) (p4 := .slice (some ⟨m, 0, none⟩) ks.length mc) (p5 := .int .i64 got) (p6 := .slice (some ⟨a6, 0, none⟩) es.length k6) (p7 := .slice (some ⟨a7, 0, none⟩) os.length k7) (p8 := .slice (some ⟨a8, 0, none⟩) xs.length k8) T4.out.res
                    have j0 := R9.cell 0
                    have j1 := R9.cell 1
                    have j2 := R9.cell 2
                    have j3 := R9.cell 3
                    have j4 := R9.cell 4
                    have j5 := R9.cell 5
                    have j6 := R9.cell 6
                    have j7 := R9.cell 7
                    have j8 := R9.cell 8
                    have O9 := only_nine X4 (w.heap.size + 2) (.int .i64 me) (.int .i64 peer) (.int .i64 next) (.slice (some ⟨a3, 0, none⟩) qs.length k3) (.slice (some ⟨m, 0, none⟩) ks.length mc) (.int .i64 got) (.slice (some ⟨a6, 0, none⟩) es.length k6) (.slice (some ⟨a7, 0, none⟩) os.length k7) (.slice (some ⟨a8, 0, none⟩) xs.length k8)
                    have FIN := Lib.hid (T4.out.below.trans (only_below O9 (by omega) T4.out.below.size))
                    have FCO := Lib.hid ((CO4.out.only O9 T4.out.res (by decide) (by decide) (by decide) (by decide)).lower T4.out.low)
                    clear R9 O9
                    go_wp2_with fail
                    exact bodyPost_ret (v := .tuple #[.agg #[.int .i64 me, .int .i64 peer, .int .i64 next, .slice (some ⟨a3, 0, none⟩) qs.length k3, .slice (some ⟨m, 0, none⟩) ks.length mc, .int .i64 got, .slice (some ⟨a6, 0, none⟩) es.length k6, .slice (some ⟨a7, 0, none⟩) os.length k7, .slice (some ⟨a8, 0, none⟩) xs.length k8], .bool true]) (by simp [results, Try.results25, go_sem, j0, j1, j2, j3, j4, j5, j6, j7, j8]) rfl (by rw [HQQ.out]; unfold TakeEnd; rw [if_neg (by simp), if_neg HN2.out, if_neg HTN.out, ← HTA.out, ← HOW.out]; exact ⟨_, _, _, _, _, _, _, _, _, _, rfl, FCO.out, FIN.out⟩)

end Go.Proofs.Ythljmjbmmgligar
