/-
  The program's Take.
-/
import Derived.Test.YthljmjbmmgligarJ27
import Derived.Test.YthljmjbmmgligarJ29
import Derived.Test.YthljmjbmmgligarJ31
import Derived.Test.YthljmjbmmgligarJ34
import Derived.Test.YthljmjbmmgligarJ37
import Derived.Test.YthljmjbmmgligarJ41
namespace Go.Proofs.Ythljmjbmmgligar
open Go.RowKit

theorem tail_var {α : Type} {e : TypeId} {A : Lay α} (hf : Flat A) {X : World} {b : Nat} {f : List Nat} {v : Value} {xs : List α} {G : Nat} {T : TypeId} {cs : Array Value} (h : (Lay.tail e A).own X b f [v] xs) (hv : VarA G T cs X) (hne : T ≠ e) : G ∉ f := fun hm => by
  obtain ⟨cur, hc⟩ := (tail_block hf h).2 G hm
  rw [hv.row] at hc
  simp only [Option.some.injEq, Obj.cells.injEq] at hc
  exact hne hc.2.1
theorem COT.only {lo : Nat} {v3 v4 v6 v7 v8 : Value} {f3 f4 f6 f7 f8 : List Nat} {qs : List ByteArray} {ss : List PendingD} {es : List EarlyD} {os : List Int} {xs : List ByteArray} {X Y : World} {G : Nat} {T : TypeId} {cs : Array Value} (h : COT lo v3 v4 v6 v7 v8 f3 f4 f6 f7 f8 qs ss es os xs X) (ho : Only G X Y) (hv : VarA G T cs X) (t1 : T ≠ StringT) (t2 : T ≠ PendingT) (t3 : T ≠ EarlyT) (t4 : T ≠ 3) : COT lo v3 v4 v6 v7 v8 f3 f4 f6 f7 f8 qs ss es os xs Y := by
  have hc := only_chg ho
  refine ⟨layStringT.chg h.q hc ?_, layPendingS.chg h.s hc ?_, layEarlyT.chg h.e hc ?_, layIntS.chg h.o hc ?_, layStringT.chg h.x hc ?_, h.ap⟩
  · exact fun g hg hm => tail_var flatString h.q hv t1 (List.mem_singleton.1 hm ▸ hg)
  · exact fun g hg hm => row_off flatPending h.s hv t2 (List.mem_singleton.1 hm ▸ hg)
  · exact fun g hg hm => tail_var flatEarly h.e hv t3 (List.mem_singleton.1 hm ▸ hg)
  · exact fun g hg hm => row_off flatIntP h.o hv t4 (List.mem_singleton.1 hm ▸ hg)
  · exact fun g hg hm => tail_var flatString h.x hv t1 (List.mem_singleton.1 hm ▸ hg)
theorem COT.lower {lo b : Nat} {v3 v4 v6 v7 v8 : Value} {f3 f4 f6 f7 f8 : List Nat} {qs : List ByteArray} {ss : List PendingD} {es : List EarlyD} {os : List Int} {xs : List ByteArray} {X : World} (h : COT lo v3 v4 v6 v7 v8 f3 f4 f6 f7 f8 qs ss es os xs X) (hb : b ≤ lo) : COT b v3 v4 v6 v7 v8 f3 f4 f6 f7 f8 qs ss es os xs X := ⟨layStringT.lower h.q hb, layPendingS.lower h.s hb, layEarlyT.lower h.e hb, layIntS.lower h.o hb, layStringT.lower h.x hb, h.ap⟩
/-- A channel and a Bool are returned; its rows may be tails. -/
def ChanRetT (ok : Bool) (me peer next got : Int) (qs : List ByteArray) (ss : List PendingD) (es : List EarlyD) (os : List Int) (xs : List ByteArray) (w : World) (e : Ending) (w' : World) : Prop :=
  ∃ (v3 v4 v6 v7 v8 : Value) (f3 f4 f6 f7 f8 : List Nat), e = .returned (.tuple #[.agg #[.int .i64 me, .int .i64 peer, .int .i64 next, v3, v4, .int .i64 got, v6, v7, v8], .bool ok]) ∧ COT w.heap.size v3 v4 v6 v7 v8 f3 f4 f6 f7 f8 qs ss es os xs w' ∧ Below w.heap.size w w'
def TakeEndT (me peer next got : Int) (qs : List ByteArray) (ss : List PendingD) (es : List EarlyD) (os : List Int) (xs : List ByteArray) (op num : Int) (acks : List Int) (body : ByteArray) (b : Bool) (w : World) (e : Ending) (w' : World) : Prop :=
  if b = false then ChanRetT false me peer next got qs ss es os xs w e w'
  else if op = 2 then ChanRetT true me peer next got qs (takeAcks acks ss) es os xs w e w'
  else if takeNew got num es = true then ChanRetT true me peer next (got + (drainN got (putE num body es) : Nat)) qs (takeAcks acks ss) ((putE num body es).drop (drainN got (putE num body es))) (takeOwed num os) (xs ++ ((putE num body es).take (drainN got (putE num body es))).map (·.2)) w e w'
  else ChanRetT true me peer next got qs (takeAcks acks ss) es (takeOwed num os) xs w e w'
theorem early_asc {got : Int} {es : List EarlyD} (h : EarlyOk got es) : es.Pairwise (fun a b => a.1 < b.1) :=
  pairwise_of_next (R := fun a b : EarlyD => a.1 < b.1) (fun _ _ _ h1 h2 => Int.lt_trans h1 h2) (fun i x y hx hy => (h (i + 1) y hy).2.1 (by omega) x (by rw [Nat.add_sub_cancel]; exact hx))
theorem early_few {got : Int} {es : List EarlyD} (h : EarlyOk got es) : es.length ≤ 3 := by
  refine Nat.not_lt.1 (fun hl => ?_)
  have ha := early_asc h
  have g0 := List.getElem?_eq_getElem (show 0 < es.length by omega)
  have g1 := List.getElem?_eq_getElem (show 1 < es.length by omega)
  have g2 := List.getElem?_eq_getElem (show 2 < es.length by omega)
  have g3 := List.getElem?_eq_getElem (show 3 < es.length by omega)
  have l1 := asc_lt ha (show 0 < 1 by omega) g0 g1
  have l2 := asc_lt ha (show 1 < 2 by omega) g1 g2
  have l3 := asc_lt ha (show 2 < 3 by omega) g2 g3
  have k0 := (h 0 _ g0).1.1
  have k3 := (h 3 _ g3).1.2
  omega
theorem takeOk_iff {me peer next got : Int} {qs : List ByteArray} {ss : List PendingD} {es : List EarlyD} {os : List Int} {xs : List ByteArray} {op key fr dst num : Int} {acks : List Int} {body : ByteArray} : TakeOk me peer next got qs ss es os xs op key fr dst num acks body ↔ ChanP me peer next got qs ss es os xs ∧ CanP me peer got op key fr dst num acks body := by
  constructor
  · rintro ⟨⟨h1, h2, h3, h4, h5⟩, h6, h7⟩
    refine ⟨h1, h2, h4, h5, h7, ?_⟩
    have hop : op = 1 ∨ op = 2 ∨ op = 3 := by have := h2.1; omega
    rcases hop with h | h | h
    · exact .inr ⟨h, h6 h⟩
    · exact .inl h
    · exact absurd h h3
  · rintro ⟨h1, h2, h4, h5, h7, h8⟩
    refine ⟨⟨h1, h2, ?_, h4, h5⟩, fun e => ?_, h7⟩
    · rcases h8 with h | h
      · omega
      · omega
    · rcases h8 with h | h
      · omega
      · exact h.2
/-- What keepEarly and bringOut make. -/
theorem kept_new {got num : Int} {body : ByteArray} {es : List EarlyD} (h : takeNew got num es = true) : keptE got num body es = putE num body es := by
  unfold takeNew at h
  rw [Bool.and_eq_true, decide_eq_true_eq, decide_eq_true_eq] at h
  unfold keptE
  rw [if_pos h]
theorem kept_old {got num : Int} {body : ByteArray} {es : List EarlyD} (h : takeNew got num es = false) : keptE got num body es = es := by
  unfold keptE
  rw [if_neg]
  intro h2
  unfold takeNew at h
  rw [Bool.and_eq_false_iff, decide_eq_false_iff_not, decide_eq_false_iff_not] at h
  rcases h with h | h
  · exact h h2.1
  · exact h h2.2
theorem drain_none {got : Int} {es : List EarlyD} (h : EarlyOk got es) : drainN got es = 0 := by
  cases es with
  | nil => rfl
  | cons e es =>
    have := (h 0 e rfl).1.1
    unfold drainN
    rw [if_neg (by omega)]

set_option maxRecDepth 100000 in
set_option maxHeartbeats 12800000 in
theorem implTake_any (HG : CloneGives) (me peer next got : Int) (vq vs ve vo vx : Value) (qs : List ByteArray) (ss : List PendingD) (es : List EarlyD) (os : List Int) (xs : List ByteArray) (op key fr dst num : Int) (vp : Value) (acks : List Int) (body : ByteArray) (la : acks.length ≤ 1048576) (lb : body.size ≤ 1048576) (lq : qs.length ≤ 1048576) (ls : ss.length ≤ 1048576) (le : es.length ≤ 1048576) (lo9 : os.length ≤ 1048576) (lx : xs.length ≤ 1048576) (z3 : ∀ x ∈ qs, x.size ≤ 1048576) (z4 : ∀ x ∈ ss, x.2.1.size ≤ 1048576) (z6 : ∀ x ∈ es, x.2.size ≤ 1048576) (z8 : ∀ x ∈ xs, x.size ≤ 1048576) (w : World) (hq : layStringS.rd w [vq] qs) (hs : layPendingS.rd w [vs] ss) (he : layEarlyS.rd w [ve] es) (ho : layIntS.rd w [vo] os) (hx : layStringS.rd w [vx] xs) (hp : layIntS.rd w [vp] acks) (b : Bool) (hb : b = true ↔ TakeOk me peer next got qs ss es os xs op key fr dst num acks body) :
    Calls Try.prog 27 #[.agg #[.int .i64 me, .int .i64 peer, .int .i64 next, vq, vs, .int .i64 got, ve, vo, vx], .agg #[.int .i64 op, .int .i64 key, .int .i64 fr, .int .i64 dst, .int .i64 num, vp, .string body]] w (TakeEndT me peer next got qs ss es os xs op num acks body b w) := by
  obtain ⟨qa, qc, rfl⟩ := rows_form hq
  obtain ⟨sa, sc, rfl⟩ := rows_form hs
  obtain ⟨ea, ec, rfl⟩ := rows_form he
  obtain ⟨oa, oc, rfl⟩ := rows_form ho
  obtain ⟨xa, xc, rfl⟩ := rows_form hx
  obtain ⟨pa, pc, rfl⟩ := rows_form hp
  have HB := Lib.hid (hb.trans takeOk_iff)
  have e1 : (w.alloc (.cells #[.int .i64 me, .int .i64 peer, .int .i64 next, .slice qa qs.length qc, .slice sa ss.length sc, .int .i64 got, .slice ea es.length ec, .slice oa os.length oc, .slice xa xs.length xc] ChanT)).heap.size = w.heap.size + 1 := by simp
  have e2 : ((w.alloc (.cells #[.int .i64 me, .int .i64 peer, .int .i64 next, .slice qa qs.length qc, .slice sa ss.length sc, .int .i64 got, .slice ea es.length ec, .slice oa os.length oc, .slice xa xs.length xc] ChanT)).alloc (.cells #[.int .i64 op, .int .i64 key, .int .i64 fr, .int .i64 dst, .int .i64 num, .slice pa acks.length pc, .string body] PkT)).heap.size = w.heap.size + 2 := by simp
  have A0 := Lib.hid (((VarA.new w ChanT #[.int .i64 me, .int .i64 peer, .int .i64 next, .slice qa qs.length qc, .slice sa ss.length sc, .int .i64 got, .slice ea es.length ec, .slice oa os.length oc, .slice xa xs.length xc]).alloc (.cells #[.int .i64 op, .int .i64 key, .int .i64 fr, .int .i64 dst, .int .i64 num, .slice pa acks.length pc, .string body] PkT)).alloc (.cells #[.int .i64 0, .int .i64 0, .int .i64 0, .slice none 0 0, .slice none 0 0, .int .i64 0, .slice none 0 0, .slice none 0 0, .slice none 0 0] ChanT))
  have hp0 := (VarA.new (w.alloc (.cells #[.int .i64 me, .int .i64 peer, .int .i64 next, .slice qa qs.length qc, .slice sa ss.length sc, .int .i64 got, .slice ea es.length ec, .slice oa os.length oc, .slice xa xs.length xc] ChanT)) PkT #[.int .i64 op, .int .i64 key, .int .i64 fr, .int .i64 dst, .int .i64 num, .slice pa acks.length pc, .string body]).alloc (.cells #[.int .i64 0, .int .i64 0, .int .i64 0, .slice none 0 0, .slice none 0 0, .int .i64 0, .slice none 0 0, .slice none 0 0, .slice none 0 0] ChanT)
  have hr0 := VarA.new ((w.alloc (.cells #[.int .i64 me, .int .i64 peer, .int .i64 next, .slice qa qs.length qc, .slice sa ss.length sc, .int .i64 got, .slice ea es.length ec, .slice oa os.length oc, .slice xa xs.length xc] ChanT)).alloc (.cells #[.int .i64 op, .int .i64 key, .int .i64 fr, .int .i64 dst, .int .i64 num, .slice pa acks.length pc, .string body] PkT)) ChanT #[.int .i64 0, .int .i64 0, .int .i64 0, .slice none 0 0, .slice none 0 0, .int .i64 0, .slice none 0 0, .slice none 0 0, .slice none 0 0]
  rw [e1] at hp0
  rw [e2] at hr0
  have P0 := Lib.hid hp0
  have R0 := Lib.hid hr0
  have B0 := Lib.hid ((((Below.refl w.heap.size w).alloc (Nat.le_refl _) (.cells #[.int .i64 me, .int .i64 peer, .int .i64 next, .slice qa qs.length qc, .slice sa ss.length sc, .int .i64 got, .slice ea es.length ec, .slice oa os.length oc, .slice xa xs.length xc] ChanT)).alloc (by simp) (.cells #[.int .i64 op, .int .i64 key, .int .i64 fr, .int .i64 dst, .int .i64 num, .slice pa acks.length pc, .string body] PkT)).alloc (by simp; omega) (.cells #[.int .i64 0, .int .i64 0, .int .i64 0, .slice none 0 0, .slice none 0 0, .int .i64 0, .slice none 0 0, .slice none 0 0, .slice none 0 0] ChanT))
  have HQ := Lib.hid hq
  have HS := Lib.hid hs
  have HE := Lib.hid he
  have HO := Lib.hid ho
  have HX := Lib.hid hx
  have HP := Lib.hid hp
  clear hb hq hs he ho hx hp hr0 hp0 e1 e2
  obtain ⟨Q, HQQ⟩ : ∃ Q : Ending → World → Prop, Hid (Q = TakeEndT me peer next got qs ss es os xs op num acks body b w) := ⟨_, Lib.hid rfl⟩
  rw [← HQQ.out]
  go_enter Try.func27, Try.ntmps27
  go_upto_region 1 with fail
  generalize ((w.alloc (.cells #[.int .i64 me, .int .i64 peer, .int .i64 next, .slice qa qs.length qc, .slice sa ss.length sc, .int .i64 got, .slice ea es.length ec, .slice oa os.length oc, .slice xa xs.length xc] ChanT)).alloc (.cells #[.int .i64 op, .int .i64 key, .int .i64 fr, .int .i64 dst, .int .i64 num, .slice pa acks.length pc, .string body] PkT)).alloc (.cells #[.int .i64 0, .int .i64 0, .int .i64 0, .slice none 0 0, .slice none 0 0, .int .i64 0, .slice none 0 0, .slice none 0 0, .slice none 0 0] ChanT) = Y at *
  have c0 : Y.cell? ⟨w.heap.size, 0, none⟩ = some (.int .i64 me) := A0.out.cell 0
  have c1 : Y.cell? ⟨w.heap.size, 1, none⟩ = some (.int .i64 peer) := A0.out.cell 1
  have c2 : Y.cell? ⟨w.heap.size, 2, none⟩ = some (.int .i64 next) := A0.out.cell 2
  have c3 : Y.cell? ⟨w.heap.size, 3, none⟩ = some (.slice qa qs.length qc) := A0.out.cell 3
  have c4 : Y.cell? ⟨w.heap.size, 4, none⟩ = some (.slice sa ss.length sc) := A0.out.cell 4
  have c5 : Y.cell? ⟨w.heap.size, 5, none⟩ = some (.int .i64 got) := A0.out.cell 5
  have c6 : Y.cell? ⟨w.heap.size, 6, none⟩ = some (.slice ea es.length ec) := A0.out.cell 6
  have c7 : Y.cell? ⟨w.heap.size, 7, none⟩ = some (.slice oa os.length oc) := A0.out.cell 7
  have c8 : Y.cell? ⟨w.heap.size, 8, none⟩ = some (.slice xa xs.length xc) := A0.out.cell 8
  have K := Lib.hid (copyOfChan_any HG me peer next _ qs _ ss got _ es _ os _ xs Y (layStringS.below HQ.out B0.out) lq (layPendingS.below HS.out B0.out) ls (layEarlyS.below HE.out B0.out) le (layIntS.below HO.out B0.out) lo9 (layStringS.below HX.out B0.out) lx z3 z4 z6 z8)
  go_wp2_with fail
  refine (K.out).mono ?_
  intro e Y1 hcp
  obtain ⟨a3, k3, a4, k4, a6, k6, a7, k7, a8, k8, rfl, hco, hb1⟩ := hcp
  have hYlt := R0.out.lt
  obtain ⟨lo, HLO⟩ : ∃ n : Nat, Hid (n = Y.heap.size) := ⟨_, Lib.hid rfl⟩
  rw [← HLO.out] at hco
  have CO1 : Hid (CO lo (.slice (some ⟨a3, 0, none⟩) qs.length k3) (.slice (some ⟨a4, 0, none⟩) ss.length k4) (.slice (some ⟨a6, 0, none⟩) es.length k6) (.slice (some ⟨a7, 0, none⟩) os.length k7) (.slice (some ⟨a8, 0, none⟩) xs.length k8) [a3] [a4] [a6] [a7] [a8] qs ss es os xs (Y1.alloc (.cells #[.int .i64 me, .int .i64 peer, .int .i64 next, .slice (some ⟨a3, 0, none⟩) qs.length k3, .slice (some ⟨a4, 0, none⟩) ss.length k4, .int .i64 got, .slice (some ⟨a6, 0, none⟩) es.length k6, .slice (some ⟨a7, 0, none⟩) os.length k7, .slice (some ⟨a8, 0, none⟩) xs.length k8] ChanT))) := Lib.hid (hco.next ((Below.refl _ _).alloc (Nat.le_refl _) _))
  have P1 : Hid (TS w lo Y1.heap.size #[.int .i64 me, .int .i64 peer, .int .i64 next, .slice qa qs.length qc, .slice sa ss.length sc, .int .i64 got, .slice ea es.length ec, .slice oa os.length oc, .slice xa xs.length xc] #[.int .i64 op, .int .i64 key, .int .i64 fr, .int .i64 dst, .int .i64 num, .slice pa acks.length pc, .string body] #[.int .i64 me, .int .i64 peer, .int .i64 next, .slice (some ⟨a3, 0, none⟩) qs.length k3, .slice (some ⟨a4, 0, none⟩) ss.length k4, .int .i64 got, .slice (some ⟨a6, 0, none⟩) es.length k6, .slice (some ⟨a7, 0, none⟩) os.length k7, .slice (some ⟨a8, 0, none⟩) xs.length k8] (Y1.alloc (.cells #[.int .i64 me, .int .i64 peer, .int .i64 next, .slice (some ⟨a3, 0, none⟩) qs.length k3, .slice (some ⟨a4, 0, none⟩) ss.length k4, .int .i64 got, .slice (some ⟨a6, 0, none⟩) es.length k6, .slice (some ⟨a7, 0, none⟩) os.length k7, .slice (some ⟨a8, 0, none⟩) xs.length k8] ChanT))) := Lib.hid ⟨(A0.out.next hb1).alloc _, (P0.out.next hb1).alloc _, (R0.out.next hb1).alloc _, VarA.new Y1 ChanT _, by rw [HLO.out]; omega, by rw [HLO.out]; exact hb1.size, by rw [HLO.out]; omega, (B0.out.trans (hb1.mono B0.out.size)).alloc (by have := hb1.size; have := B0.out.size; omega) _⟩
  clear hco hb1 hYlt K A0 P0 R0 B0 HLO c0 c1 c2 c3 c4 c5 c6 c7 c8
  go_upto_region 2 with fail
  generalize Y1.alloc (.cells #[.int .i64 me, .int .i64 peer, .int .i64 next, .slice (some ⟨a3, 0, none⟩) qs.length k3, .slice (some ⟨a4, 0, none⟩) ss.length k4, .int .i64 got, .slice (some ⟨a6, 0, none⟩) es.length k6, .slice (some ⟨a7, 0, none⟩) os.length k7, .slice (some ⟨a8, 0, none⟩) xs.length k8] ChanT) = X1 at *
  generalize Y1.heap.size = G at *
  have c0 : X1.cell? ⟨w.heap.size, 0, none⟩ = some (.int .i64 me) := P1.out.arg.cell 0
  have c1 : X1.cell? ⟨w.heap.size, 1, none⟩ = some (.int .i64 peer) := P1.out.arg.cell 1
  have c2 : X1.cell? ⟨w.heap.size, 2, none⟩ = some (.int .i64 next) := P1.out.arg.cell 2
  have c3 : X1.cell? ⟨w.heap.size, 3, none⟩ = some (.slice qa qs.length qc) := P1.out.arg.cell 3
  have c4 : X1.cell? ⟨w.heap.size, 4, none⟩ = some (.slice sa ss.length sc) := P1.out.arg.cell 4
  have c5 : X1.cell? ⟨w.heap.size, 5, none⟩ = some (.int .i64 got) := P1.out.arg.cell 5
  have c6 : X1.cell? ⟨w.heap.size, 6, none⟩ = some (.slice ea es.length ec) := P1.out.arg.cell 6
  have c7 : X1.cell? ⟨w.heap.size, 7, none⟩ = some (.slice oa os.length oc) := P1.out.arg.cell 7
  have c8 : X1.cell? ⟨w.heap.size, 8, none⟩ = some (.slice xa xs.length xc) := P1.out.arg.cell 8
  have MIDNO : Hid (b = false → ∀ (X : World) (v3 v4 v6 v7 v8 : Value) (f3 f4 f6 f7 f8 : List Nat), COT w.heap.size v3 v4 v6 v7 v8 f3 f4 f6 f7 f8 qs ss es os xs X → Below w.heap.size w X → Q (.returned (.tuple #[.agg #[.int .i64 me, .int .i64 peer, .int .i64 next, v3, v4, .int .i64 got, v6, v7, v8], .bool false])) X) := Lib.hid (fun hbf X v3 v4 v6 v7 v8 f3 f4 f6 f7 f8 h1 h2 => by
    rw [HQQ.out]
    unfold TakeEndT
    rw [if_pos hbf]
    exact ⟨v3, v4, v6, v7, v8, f3, f4, f6, f7, f8, rfl, h1, h2⟩)
  obtain ⟨b1, HB1⟩ := exists_bool (ChanP me peer next got qs ss es os xs)
  have K1 := Lib.hid (implChanOk_bool me peer next got _ _ _ _ _ qs ss es os xs b1 HB1.out (by omega) (by omega) (by omega) (by omega) (by omega) X1 (layStringS.below HQ.out P1.out.below) (layPendingS.below HS.out P1.out.below) (layEarlyS.below HE.out P1.out.below) (layIntS.below HO.out P1.out.below) (layStringS.below HX.out P1.out.below))
  go_wp2_with fail
  refine (K1.out).mono ?_
  rintro e X2 ⟨rfl, hb2⟩
  have P2 := Lib.hid (P1.out.next hb2)
  have CO2 := Lib.hid (CO1.out.next hb2)
  clear hb2 K1 P1 CO1 c0 c1 c2 c3 c4 c5 c6 c7 c8
  cases b1 with
  | false =>
    have hbf : b = false := by
      cases b with
      | false => rfl
      | true => cases HB1.out.2 (HB.out.1 rfl).1
    go_upto_region 3 with fail
    have d0 : X2.cell? ⟨G, 0, none⟩ = some (.int .i64 me) := P2.out.var.cell 0
    have d1 : X2.cell? ⟨G, 1, none⟩ = some (.int .i64 peer) := P2.out.var.cell 1
    have d2 : X2.cell? ⟨G, 2, none⟩ = some (.int .i64 next) := P2.out.var.cell 2
    have d3 : X2.cell? ⟨G, 3, none⟩ = some (.slice (some ⟨a3, 0, none⟩) qs.length k3) := P2.out.var.cell 3
    have d4 : X2.cell? ⟨G, 4, none⟩ = some (.slice (some ⟨a4, 0, none⟩) ss.length k4) := P2.out.var.cell 4
    have d5 : X2.cell? ⟨G, 5, none⟩ = some (.int .i64 got) := P2.out.var.cell 5
    have d6 : X2.cell? ⟨G, 6, none⟩ = some (.slice (some ⟨a6, 0, none⟩) es.length k6) := P2.out.var.cell 6
    have d7 : X2.cell? ⟨G, 7, none⟩ = some (.slice (some ⟨a7, 0, none⟩) os.length k7) := P2.out.var.cell 7
    have d8 : X2.cell? ⟨G, 8, none⟩ = some (.slice (some ⟨a8, 0, none⟩) xs.length k8) := P2.out.var.cell 8
    have g0 := P2.out.res.free 0
    have g1 := P2.out.res.free 1
    have g2 := P2.out.res.free 2
    have g3 := P2.out.res.free 3
    have g4 := P2.out.res.free 4
    have g5 := P2.out.res.free 5
    have g6 := P2.out.res.free 6
    have g7 := P2.out.res.free 7
    have g8 := P2.out.res.free 8
    have y0 : X2.cell? ⟨w.heap.size + 2, 0, none⟩ = some (.int .i64 0) := P2.out.res.cell 0
    have y1 : X2.cell? ⟨w.heap.size + 2, 1, none⟩ = some (.int .i64 0) := P2.out.res.cell 1
    have y2 : X2.cell? ⟨w.heap.size + 2, 2, none⟩ = some (.int .i64 0) := P2.out.res.cell 2
    have y3 : X2.cell? ⟨w.heap.size + 2, 3, none⟩ = some (.slice none 0 0) := P2.out.res.cell 3
    have y4 : X2.cell? ⟨w.heap.size + 2, 4, none⟩ = some (.slice none 0 0) := P2.out.res.cell 4
    have y5 : X2.cell? ⟨w.heap.size + 2, 5, none⟩ = some (.int .i64 0) := P2.out.res.cell 5
    have y6 : X2.cell? ⟨w.heap.size + 2, 6, none⟩ = some (.slice none 0 0) := P2.out.res.cell 6
    have y7 : X2.cell? ⟨w.heap.size + 2, 7, none⟩ = some (.slice none 0 0) := P2.out.res.cell 7
    have y8 : X2.cell? ⟨w.heap.size + 2, 8, none⟩ = some (.slice none 0 0) := P2.out.res.cell 8
    have R9 := set_nine (p0 := .int .i64 me) (p1 := .int .i64 peer) (p2 := .int .i64 next) (p3 := .slice (some ⟨a3, 0, none⟩) qs.length k3) (p4 := .slice (some ⟨a4, 0, none⟩) ss.length k4) (p5 := .int .i64 got) (p6 := .slice (some ⟨a6, 0, none⟩) es.length k6) (p7 := .slice (some ⟨a7, 0, none⟩) os.length k7) (p8 := .slice (some ⟨a8, 0, none⟩) xs.length k8) P2.out.res
    have j0 := R9.cell 0
    have j1 := R9.cell 1
    have j2 := R9.cell 2
    have j3 := R9.cell 3
    have j4 := R9.cell 4
    have j5 := R9.cell 5
    have j6 := R9.cell 6
    have j7 := R9.cell 7
    have j8 := R9.cell 8
    have O9 := only_nine X2 (w.heap.size + 2) (.int .i64 me) (.int .i64 peer) (.int .i64 next) (.slice (some ⟨a3, 0, none⟩) qs.length k3) (.slice (some ⟨a4, 0, none⟩) ss.length k4) (.int .i64 got) (.slice (some ⟨a6, 0, none⟩) es.length k6) (.slice (some ⟨a7, 0, none⟩) os.length k7) (.slice (some ⟨a8, 0, none⟩) xs.length k8)
    have FIN := Lib.hid (P2.out.below.trans (only_below O9 (by omega) P2.out.below.size))
    have FCO := Lib.hid ((CO2.out.t.lower P2.out.low).only O9 P2.out.res (by decide) (by decide) (by decide) (by decide))
    clear R9 O9
    go_wp2_with fail
    exact bodyPost_ret (v := .tuple #[.agg #[.int .i64 me, .int .i64 peer, .int .i64 next, .slice (some ⟨a3, 0, none⟩) qs.length k3, .slice (some ⟨a4, 0, none⟩) ss.length k4, .int .i64 got, .slice (some ⟨a6, 0, none⟩) es.length k6, .slice (some ⟨a7, 0, none⟩) os.length k7, .slice (some ⟨a8, 0, none⟩) xs.length k8], .bool false]) (by simp [results, Try.results27, go_sem, j0, j1, j2, j3, j4, j5, j6, j7, j8]) rfl (MIDNO.out hbf _ _ _ _ _ _ _ _ _ _ _ FCO.out FIN.out)
  | true =>
  have HOK := Lib.hid (HB1.out.1 rfl)
  clear HB1
  have hg0 := HOK.out.gotR.1
  have hg1 := HOK.out.gotR.2
  have z0 : X2.cell? ⟨(w.heap.size + 1), 0, none⟩ = some (.int .i64 op) := P2.out.pkt.cell 0
  have z1 : X2.cell? ⟨(w.heap.size + 1), 1, none⟩ = some (.int .i64 key) := P2.out.pkt.cell 1
  have z2 : X2.cell? ⟨(w.heap.size + 1), 2, none⟩ = some (.int .i64 fr) := P2.out.pkt.cell 2
  have z3 : X2.cell? ⟨(w.heap.size + 1), 3, none⟩ = some (.int .i64 dst) := P2.out.pkt.cell 3
  have z4 : X2.cell? ⟨(w.heap.size + 1), 4, none⟩ = some (.int .i64 num) := P2.out.pkt.cell 4
  have z5 : X2.cell? ⟨(w.heap.size + 1), 5, none⟩ = some (.slice pa acks.length pc) := P2.out.pkt.cell 5
  have z6 : X2.cell? ⟨(w.heap.size + 1), 6, none⟩ = some (.string body) := P2.out.pkt.cell 6
  obtain ⟨b2, HB2⟩ := exists_bool (CanP me peer got op key fr dst num acks body)
  have K2 := Lib.hid (canTake_any w.heap.size me peer next got _ _ _ _ _ op key fr dst num _ acks body (by omega) (by omega) hg0 (by omega) b2 HB2.out X2 P2.out.arg (layIntS.below HP.out P2.out.below))
  go_wp2_with fail
  refine (K2.out).mono ?_
  rintro e X3 ⟨rfl, hb3⟩
  have P3 := Lib.hid (P2.out.next hb3)
  have CO3 := Lib.hid (CO2.out.next hb3)
  clear hb3 K2 P2 CO2 z0 z1 z2 z3 z4 z5 z6
  cases b2 with
  | false =>
    have hbf : b = false := by
      cases b with
      | false => rfl
      | true => cases HB2.out.2 (HB.out.1 rfl).2
    go_upto_region 3 with fail
    have d0 : X3.cell? ⟨G, 0, none⟩ = some (.int .i64 me) := P3.out.var.cell 0
    have d1 : X3.cell? ⟨G, 1, none⟩ = some (.int .i64 peer) := P3.out.var.cell 1
    have d2 : X3.cell? ⟨G, 2, none⟩ = some (.int .i64 next) := P3.out.var.cell 2
    have d3 : X3.cell? ⟨G, 3, none⟩ = some (.slice (some ⟨a3, 0, none⟩) qs.length k3) := P3.out.var.cell 3
    have d4 : X3.cell? ⟨G, 4, none⟩ = some (.slice (some ⟨a4, 0, none⟩) ss.length k4) := P3.out.var.cell 4
    have d5 : X3.cell? ⟨G, 5, none⟩ = some (.int .i64 got) := P3.out.var.cell 5
    have d6 : X3.cell? ⟨G, 6, none⟩ = some (.slice (some ⟨a6, 0, none⟩) es.length k6) := P3.out.var.cell 6
    have d7 : X3.cell? ⟨G, 7, none⟩ = some (.slice (some ⟨a7, 0, none⟩) os.length k7) := P3.out.var.cell 7
    have d8 : X3.cell? ⟨G, 8, none⟩ = some (.slice (some ⟨a8, 0, none⟩) xs.length k8) := P3.out.var.cell 8
    have g0 := P3.out.res.free 0
    have g1 := P3.out.res.free 1
    have g2 := P3.out.res.free 2
    have g3 := P3.out.res.free 3
    have g4 := P3.out.res.free 4
    have g5 := P3.out.res.free 5
    have g6 := P3.out.res.free 6
    have g7 := P3.out.res.free 7
    have g8 := P3.out.res.free 8
    have y0 : X3.cell? ⟨w.heap.size + 2, 0, none⟩ = some (.int .i64 0) := P3.out.res.cell 0
    have y1 : X3.cell? ⟨w.heap.size + 2, 1, none⟩ = some (.int .i64 0) := P3.out.res.cell 1
    have y2 : X3.cell? ⟨w.heap.size + 2, 2, none⟩ = some (.int .i64 0) := P3.out.res.cell 2
    have y3 : X3.cell? ⟨w.heap.size + 2, 3, none⟩ = some (.slice none 0 0) := P3.out.res.cell 3
    have y4 : X3.cell? ⟨w.heap.size + 2, 4, none⟩ = some (.slice none 0 0) := P3.out.res.cell 4
    have y5 : X3.cell? ⟨w.heap.size + 2, 5, none⟩ = some (.int .i64 0) := P3.out.res.cell 5
    have y6 : X3.cell? ⟨w.heap.size + 2, 6, none⟩ = some (.slice none 0 0) := P3.out.res.cell 6
    have y7 : X3.cell? ⟨w.heap.size + 2, 7, none⟩ = some (.slice none 0 0) := P3.out.res.cell 7
    have y8 : X3.cell? ⟨w.heap.size + 2, 8, none⟩ = some (.slice none 0 0) := P3.out.res.cell 8
    have R9 := set_nine (p0 := .int .i64 me) (p1 := .int .i64 peer) (p2 := .int .i64 next) (p3 := .slice (some ⟨a3, 0, none⟩) qs.length k3) (p4 := .slice (some ⟨a4, 0, none⟩) ss.length k4) (p5 := .int .i64 got) (p6 := .slice (some ⟨a6, 0, none⟩) es.length k6) (p7 := .slice (some ⟨a7, 0, none⟩) os.length k7) (p8 := .slice (some ⟨a8, 0, none⟩) xs.length k8) P3.out.res
    have j0 := R9.cell 0
    have j1 := R9.cell 1
    have j2 := R9.cell 2
    have j3 := R9.cell 3
    have j4 := R9.cell 4
    have j5 := R9.cell 5
    have j6 := R9.cell 6
    have j7 := R9.cell 7
    have j8 := R9.cell 8
    have O9 := only_nine X3 (w.heap.size + 2) (.int .i64 me) (.int .i64 peer) (.int .i64 next) (.slice (some ⟨a3, 0, none⟩) qs.length k3) (.slice (some ⟨a4, 0, none⟩) ss.length k4) (.int .i64 got) (.slice (some ⟨a6, 0, none⟩) es.length k6) (.slice (some ⟨a7, 0, none⟩) os.length k7) (.slice (some ⟨a8, 0, none⟩) xs.length k8)
    have FIN := Lib.hid (P3.out.below.trans (only_below O9 (by omega) P3.out.below.size))
    have FCO := Lib.hid ((CO3.out.t.lower P3.out.low).only O9 P3.out.res (by decide) (by decide) (by decide) (by decide))
    clear R9 O9
    go_wp2_with fail
    exact bodyPost_ret (v := .tuple #[.agg #[.int .i64 me, .int .i64 peer, .int .i64 next, .slice (some ⟨a3, 0, none⟩) qs.length k3, .slice (some ⟨a4, 0, none⟩) ss.length k4, .int .i64 got, .slice (some ⟨a6, 0, none⟩) es.length k6, .slice (some ⟨a7, 0, none⟩) os.length k7, .slice (some ⟨a8, 0, none⟩) xs.length k8], .bool false]) (by simp [results, Try.results27, go_sem, j0, j1, j2, j3, j4, j5, j6, j7, j8]) rfl (MIDNO.out hbf _ _ _ _ _ _ _ _ _ _ _ FCO.out FIN.out)
  | true =>
  have HCAN := Lib.hid (HB2.out.1 rfl)
  clear HB2 MIDNO
  obtain rfl : b = true := HB.out.2 ⟨HOK.out, HCAN.out⟩
  clear HB
  have hes := early_few HOK.out.early
  have hos := HOK.out.owes
  have hxs : xs.length ≤ 1000 := by have := HOK.out.many; omega
  have l0 := P3.out.lt
  go_upto_region 4 with fail
  have z5 : X3.cell? ⟨w.heap.size + 1, 5, none⟩ = some (.slice pa acks.length pc) := P3.out.pkt.cell 5
  have KD := Lib.hid (dropSent_any lo G me peer next got _ _ _ _ [a3] [a6] [a7] [a8] a4 k4 qs ss es os xs (by omega) w pa acks.length pc acks (by omega) X3 P3.out.var CO3.out P3.out.lg HP.out P3.out.below P3.out.low P3.out.room)
  obtain ⟨n4, HN4⟩ : ∃ n : Nat, Hid (n = (takeAcks acks ss).length) := ⟨_, Lib.hid rfl⟩
  rw [← HN4.out] at KD
  go_wp2_with fail
  refine (KD.out).mono ?_
  rintro e X4 ⟨rfl, hv4, hco4, hb4⟩
  have T4 := Lib.hid (P3.out.turn hb4 hv4)
  have CO4 := Lib.hid hco4
  clear hv4 hco4 hb4 KD P3 CO3 z5
  have z0 : X4.cell? ⟨w.heap.size + 1, 0, none⟩ = some (.int .i64 op) := T4.out.pkt.cell 0
  by_cases hop : op = 1
  rotate_left
  · have hop2 : op = 2 := by
      rcases HCAN.out.2.2.2.2 with h | h
      · exact h
      · exact absurd h.1 hop
    have hq : (op == 1) = false := by rw [beq_eq_false_iff_ne]; exact hop
    have MID : Hid (∀ (X : World) (v3 v4 v6 v7 v8 : Value) (f3 f4 f6 f7 f8 : List Nat), COT w.heap.size v3 v4 v6 v7 v8 f3 f4 f6 f7 f8 qs (takeAcks acks ss) es os xs X → Below w.heap.size w X → Q (.returned (.tuple #[.agg #[.int .i64 me, .int .i64 peer, .int .i64 next, v3, v4, .int .i64 got, v6, v7, v8], .bool true])) X) := Lib.hid (fun X v3 v4 v6 v7 v8 f3 f4 f6 f7 f8 h1 h2 => by
      rw [HQQ.out]
      unfold TakeEndT
      rw [if_neg (by simp), if_pos hop2]
      exact ⟨v3, v4, v6, v7, v8, f3, f4, f6, f7, f8, rfl, h1, h2⟩)
    clear hop hop2
    go_upto_region 9 with fail
    have d0 : X4.cell? ⟨G, 0, none⟩ = some (.int .i64 me) := T4.out.var.cell 0
    have d1 : X4.cell? ⟨G, 1, none⟩ = some (.int .i64 peer) := T4.out.var.cell 1
    have d2 : X4.cell? ⟨G, 2, none⟩ = some (.int .i64 next) := T4.out.var.cell 2
    have d3 : X4.cell? ⟨G, 3, none⟩ = some (.slice (some ⟨a3, 0, none⟩) qs.length k3) := T4.out.var.cell 3
    have d4 : X4.cell? ⟨G, 4, none⟩ = some (.slice (some ⟨a4, 0, none⟩) n4 k4) := T4.out.var.cell 4
    have d5 : X4.cell? ⟨G, 5, none⟩ = some (.int .i64 got) := T4.out.var.cell 5
    have d6 : X4.cell? ⟨G, 6, none⟩ = some (.slice (some ⟨a6, 0, none⟩) es.length k6) := T4.out.var.cell 6
    have d7 : X4.cell? ⟨G, 7, none⟩ = some (.slice (some ⟨a7, 0, none⟩) os.length k7) := T4.out.var.cell 7
    have d8 : X4.cell? ⟨G, 8, none⟩ = some (.slice (some ⟨a8, 0, none⟩) xs.length k8) := T4.out.var.cell 8
    have g0 := T4.out.res.free 0
    have g1 := T4.out.res.free 1
    have g2 := T4.out.res.free 2
    have g3 := T4.out.res.free 3
    have g4 := T4.out.res.free 4
    have g5 := T4.out.res.free 5
    have g6 := T4.out.res.free 6
    have g7 := T4.out.res.free 7
    have g8 := T4.out.res.free 8
    have y0 : X4.cell? ⟨w.heap.size + 2, 0, none⟩ = some (.int .i64 0) := T4.out.res.cell 0
    have y1 : X4.cell? ⟨w.heap.size + 2, 1, none⟩ = some (.int .i64 0) := T4.out.res.cell 1
    have y2 : X4.cell? ⟨w.heap.size + 2, 2, none⟩ = some (.int .i64 0) := T4.out.res.cell 2
    have y3 : X4.cell? ⟨w.heap.size + 2, 3, none⟩ = some (.slice none 0 0) := T4.out.res.cell 3
    have y4 : X4.cell? ⟨w.heap.size + 2, 4, none⟩ = some (.slice none 0 0) := T4.out.res.cell 4
    have y5 : X4.cell? ⟨w.heap.size + 2, 5, none⟩ = some (.int .i64 0) := T4.out.res.cell 5
    have y6 : X4.cell? ⟨w.heap.size + 2, 6, none⟩ = some (.slice none 0 0) := T4.out.res.cell 6
    have y7 : X4.cell? ⟨w.heap.size + 2, 7, none⟩ = some (.slice none 0 0) := T4.out.res.cell 7
    have y8 : X4.cell? ⟨w.heap.size + 2, 8, none⟩ = some (.slice none 0 0) := T4.out.res.cell 8
    have R9 := set_nine (p0 := .int .i64 me) (p1 := .int .i64 peer) (p2 := .int .i64 next) (p3 := .slice (some ⟨a3, 0, none⟩) qs.length k3) (p4 := .slice (some ⟨a4, 0, none⟩) n4 k4) (p5 := .int .i64 got) (p6 := .slice (some ⟨a6, 0, none⟩) es.length k6) (p7 := .slice (some ⟨a7, 0, none⟩) os.length k7) (p8 := .slice (some ⟨a8, 0, none⟩) xs.length k8) T4.out.res
    have j0 := R9.cell 0
    have j1 := R9.cell 1
    have j2 := R9.cell 2
    have j3 := R9.cell 3
    have j4 := R9.cell 4
    have j5 := R9.cell 5
    have j6 := R9.cell 6
    have j7 := R9.cell 7
    have j8 := R9.cell 8
    have O9 := only_nine X4 (w.heap.size + 2) (.int .i64 me) (.int .i64 peer) (.int .i64 next) (.slice (some ⟨a3, 0, none⟩) qs.length k3) (.slice (some ⟨a4, 0, none⟩) n4 k4) (.int .i64 got) (.slice (some ⟨a6, 0, none⟩) es.length k6) (.slice (some ⟨a7, 0, none⟩) os.length k7) (.slice (some ⟨a8, 0, none⟩) xs.length k8)
    have FIN := Lib.hid (T4.out.below.trans (only_below O9 (by omega) T4.out.below.size))
    have FCO := Lib.hid ((CO4.out.t.lower T4.out.low).only O9 T4.out.res (by decide) (by decide) (by decide) (by decide))
    clear R9 O9
    go_wp2_with fail
    exact bodyPost_ret (v := .tuple #[.agg #[.int .i64 me, .int .i64 peer, .int .i64 next, .slice (some ⟨a3, 0, none⟩) qs.length k3, .slice (some ⟨a4, 0, none⟩) n4 k4, .int .i64 got, .slice (some ⟨a6, 0, none⟩) es.length k6, .slice (some ⟨a7, 0, none⟩) os.length k7, .slice (some ⟨a8, 0, none⟩) xs.length k8], .bool true]) (by simp [results, Try.results27, go_sem, j0, j1, j2, j3, j4, j5, j6, j7, j8]) rfl (MID.out _ _ _ _ _ _ _ _ _ _ _ FCO.out FIN.out)
  have hq : (op == 1) = true := by rw [beq_iff_eq]; exact hop
  have MID : Hid (∀ (X : World) (v3 v4 v6 v7 v8 : Value) (f3 f4 f6 f7 f8 : List Nat), COT w.heap.size v3 v4 v6 v7 v8 f3 f4 f6 f7 f8 qs (takeAcks acks ss) ((keptE got num body es).drop (drainN got (keptE got num body es))) (takeOwed num os) (xs ++ ((keptE got num body es).take (drainN got (keptE got num body es))).map (·.2)) X → Below w.heap.size w X → Q (.returned (.tuple #[.agg #[.int .i64 me, .int .i64 peer, .int .i64 next, v3, v4, .int .i64 (got + (drainN got (keptE got num body es) : Nat)), v6, v7, v8], .bool true])) X) := Lib.hid (fun X v3 v4 v6 v7 v8 f3 f4 f6 f7 f8 h1 h2 => by
    rw [HQQ.out]
    unfold TakeEndT
    rw [if_neg (by simp), if_neg (by omega)]
    by_cases hn : takeNew got num es = true
    · rw [if_pos hn]
      rw [kept_new hn] at h1 ⊢
      exact ⟨v3, v4, v6, v7, v8, f3, f4, f6, f7, f8, rfl, h1, h2⟩
    · rw [if_neg hn]
      have hn' : takeNew got num es = false := by simpa using hn
      rw [kept_old hn', drain_none HOK.out.early] at h1 ⊢
      simp only [List.drop_zero, List.take_zero, List.map_nil, List.append_nil, Int.natCast_zero, Int.add_zero] at h1 ⊢
      exact ⟨v3, v4, v6, v7, v8, f3, f4, f6, f7, f8, rfl, h1, h2⟩)
  have KO := Lib.hid (owe_any lo G me peer next got num _ _ _ _ _ [a3] [a4] [a6] [a7] [a8] qs (takeAcks acks ss) es os xs (by omega) X4 T4.out.var CO4.out T4.out.lg T4.out.room)
  have z4 : X4.cell? ⟨w.heap.size + 1, 4, none⟩ = some (.int .i64 num) := T4.out.pkt.cell 4
  clear hop
  go_wp2_with fail
  refine (KO.out).mono ?_
  rintro e X5 ⟨rfl, u7, h7, hv5, hco5, hb5⟩
  have T5 := Lib.hid (T4.out.turn hb5 hv5)
  have CO5 := Lib.hid hco5
  clear hv5 hco5 hb5 KO T4 CO4 z0 z4
  have z4 : X5.cell? ⟨w.heap.size + 1, 4, none⟩ = some (.int .i64 num) := T5.out.pkt.cell 4
  have z6' : X5.cell? ⟨w.heap.size + 1, 6, none⟩ = some (.string body) := T5.out.pkt.cell 6
  have KK := Lib.hid (keepEarly_any HG lo G me peer next got num body lb _ _ _ _ [a3] [a4] h7 [a8] a6 k6 qs (takeAcks acks ss) es (takeOwed num os) xs (by omega) (early_asc HOK.out.early) X5 T5.out.var CO5.out T5.out.lg T5.out.room)
  have hkl : (keptE got num body es).length ≤ 1000000 := by
    unfold keptE
    split
    · rename_i hc
      rw [putE_length num body es hc.2]
      omega
    · omega
  go_wp2_with fail
  refine (KK.out).mono ?_
  rintro e X6 ⟨rfl, a9, k9, hv6, hco6, hb6⟩
  have T6 := Lib.hid (T5.out.turn hb6 hv6)
  have CO6 := Lib.hid hco6
  clear hv6 hco6 hb6 KK T5 CO5 z4 z6'
  generalize keptE got num body es = L at *
  have KB := Lib.hid (bringOut_any lo G me peer next got hg0 (by omega) _ _ _ _ [a3] [a4] h7 [a8] a9 k9 qs (takeAcks acks ss) L (takeOwed num os) xs hkl (by omega) X6 T6.out.var CO6.out T6.out.lg T6.out.room)
  generalize L.drop (drainN got L) = L1 at *
  generalize xs ++ (L.take (drainN got L)).map (·.2) = x9 at *
  generalize got + ((drainN got L : Nat) : Int) = g9 at *
  go_wp2_with fail
  refine (KB.out).mono ?_
  rintro e X7 ⟨rfl, v6, v8, f6, f8, hv7, hco7, hb7⟩
  have T7 := Lib.hid (T6.out.turn hb7 hv7)
  have CO7 := Lib.hid hco7
  obtain ⟨b6, c6, rfl⟩ := tail_form (e := EarlyT) (A := layEarly) hco7.e
  obtain ⟨b8, c8, rfl⟩ := tail_form (e := StringT) (A := layString) hco7.x
  obtain ⟨b7, c7, rfl⟩ := rows_form (layIntS.read hco7.o)
  clear hv7 hco7 hb7 KB T6 CO6
  go_upto_region 9 with fail
  have d0 : X7.cell? ⟨G, 0, none⟩ = some (.int .i64 me) := T7.out.var.cell 0
  have d1 : X7.cell? ⟨G, 1, none⟩ = some (.int .i64 peer) := T7.out.var.cell 1
  have d2 : X7.cell? ⟨G, 2, none⟩ = some (.int .i64 next) := T7.out.var.cell 2
  have d3 : X7.cell? ⟨G, 3, none⟩ = some (.slice (some ⟨a3, 0, none⟩) qs.length k3) := T7.out.var.cell 3
  have d4 : X7.cell? ⟨G, 4, none⟩ = some (.slice (some ⟨a4, 0, none⟩) n4 k4) := T7.out.var.cell 4
  have d5 : X7.cell? ⟨G, 5, none⟩ = some (.int .i64 g9) := T7.out.var.cell 5
  have d6 : X7.cell? ⟨G, 6, none⟩ = some (.slice b6 L1.length c6) := T7.out.var.cell 6
  have d7 : X7.cell? ⟨G, 7, none⟩ = some (.slice b7 (takeOwed num os).length c7) := T7.out.var.cell 7
  have d8 : X7.cell? ⟨G, 8, none⟩ = some (.slice b8 x9.length c8) := T7.out.var.cell 8
  have g0 := T7.out.res.free 0
  have g1 := T7.out.res.free 1
  have g2 := T7.out.res.free 2
  have g3 := T7.out.res.free 3
  have g4 := T7.out.res.free 4
  have g5 := T7.out.res.free 5
  have g6 := T7.out.res.free 6
  have g7 := T7.out.res.free 7
  have g8 := T7.out.res.free 8
  have y0 : X7.cell? ⟨w.heap.size + 2, 0, none⟩ = some (.int .i64 0) := T7.out.res.cell 0
  have y1 : X7.cell? ⟨w.heap.size + 2, 1, none⟩ = some (.int .i64 0) := T7.out.res.cell 1
  have y2 : X7.cell? ⟨w.heap.size + 2, 2, none⟩ = some (.int .i64 0) := T7.out.res.cell 2
  have y3 : X7.cell? ⟨w.heap.size + 2, 3, none⟩ = some (.slice none 0 0) := T7.out.res.cell 3
  have y4 : X7.cell? ⟨w.heap.size + 2, 4, none⟩ = some (.slice none 0 0) := T7.out.res.cell 4
  have y5 : X7.cell? ⟨w.heap.size + 2, 5, none⟩ = some (.int .i64 0) := T7.out.res.cell 5
  have y6 : X7.cell? ⟨w.heap.size + 2, 6, none⟩ = some (.slice none 0 0) := T7.out.res.cell 6
  have y7 : X7.cell? ⟨w.heap.size + 2, 7, none⟩ = some (.slice none 0 0) := T7.out.res.cell 7
  have y8 : X7.cell? ⟨w.heap.size + 2, 8, none⟩ = some (.slice none 0 0) := T7.out.res.cell 8
  have R9 := set_nine (p0 := .int .i64 me) (p1 := .int .i64 peer) (p2 := .int .i64 next) (p3 := .slice (some ⟨a3, 0, none⟩) qs.length k3) (p4 := .slice (some ⟨a4, 0, none⟩) n4 k4) (p5 := .int .i64 g9) (p6 := .slice b6 L1.length c6) (p7 := .slice b7 (takeOwed num os).length c7) (p8 := .slice b8 x9.length c8) T7.out.res
  have j0 := R9.cell 0
  have j1 := R9.cell 1
  have j2 := R9.cell 2
  have j3 := R9.cell 3
  have j4 := R9.cell 4
  have j5 := R9.cell 5
  have j6 := R9.cell 6
  have j7 := R9.cell 7
  have j8 := R9.cell 8
  have O9 := only_nine X7 (w.heap.size + 2) (.int .i64 me) (.int .i64 peer) (.int .i64 next) (.slice (some ⟨a3, 0, none⟩) qs.length k3) (.slice (some ⟨a4, 0, none⟩) n4 k4) (.int .i64 g9) (.slice b6 L1.length c6) (.slice b7 (takeOwed num os).length c7) (.slice b8 x9.length c8)
  have FIN := Lib.hid (T7.out.below.trans (only_below O9 (by omega) T7.out.below.size))
  have FCO := Lib.hid ((CO7.out.lower T7.out.low).only O9 T7.out.res (by decide) (by decide) (by decide) (by decide))
  clear R9 O9
  go_wp2_with fail
  exact bodyPost_ret (v := .tuple #[.agg #[.int .i64 me, .int .i64 peer, .int .i64 next, .slice (some ⟨a3, 0, none⟩) qs.length k3, .slice (some ⟨a4, 0, none⟩) n4 k4, .int .i64 g9, .slice b6 L1.length c6, .slice b7 (takeOwed num os).length c7, .slice b8 x9.length c8], .bool true]) (by simp [results, Try.results27, go_sem, j0, j1, j2, j3, j4, j5, j6, j7, j8]) rfl (MID.out _ _ _ _ _ _ _ _ _ _ _ FCO.out FIN.out)

end Go.Proofs.Ythljmjbmmgligar
