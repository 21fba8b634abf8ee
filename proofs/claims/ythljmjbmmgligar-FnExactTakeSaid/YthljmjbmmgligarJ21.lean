/-
  The given Push.
-/
import Derived.Test.YthljmjbmmgligarJ17
import Derived.Test.YthljmjbmmgligarJ20
namespace Go.Proofs.Ythljmjbmmgligar
open Go.RowKit

/-- A text may be pushed. -/
def PushOk (me peer next got : Int) (qs : List ByteArray) (ss : List PendingD) (es : List EarlyD) (os : List Int) (xs : List ByteArray) (t : ByteArray) : Prop := ChanP me peer next got qs ss es os xs ∧ t.size ≤ 120 ∧ qs.length < 30 ∧ next + (qs.length : Int) < 1000
/-- The argument's variable, the result's, the copy's, its rows. -/
structure PS (w : World) (G : Nat) (ca cb : Array Value) (X : World) : Prop where
  arg : VarA w.heap.size ChanT ca X
  res : VarA (w.heap.size + 1) ChanT #[.int .i64 0, .int .i64 0, .int .i64 0, .slice none 0 0, .slice none 0 0, .int .i64 0, .slice none 0 0, .slice none 0 0, .slice none 0 0] X
  var : VarA G ChanT cb X
  lt : w.heap.size + 1 < G
  below : Below w.heap.size w X
theorem PS.next {w : World} {G : Nat} {ca cb : Array Value} {X Y : World} (h : PS w G ca cb X) (hb : Below X.heap.size X Y) : PS w G ca cb Y := ⟨h.arg.next hb, h.res.next hb, h.var.next hb, h.lt, h.below.trans (hb.mono h.below.size)⟩

set_option maxRecDepth 100000 in
set_option maxHeartbeats 6400000 in
theorem specPush_any (me peer next got : Int) (vq vs ve vo vx : Value) (qs : List ByteArray) (ss : List PendingD) (es : List EarlyD) (os : List Int) (xs : List ByteArray) (t : ByteArray) (ht : t.size ≤ 100000000) (lq : qs.length ≤ 100000000) (ls : ss.length ≤ 100000000) (le : es.length ≤ 100000000) (lo : os.length ≤ 100000000) (lx : xs.length ≤ 100000000) (w : World) (hq : layStringS.rd w [vq] qs) (hs : layPendingS.rd w [vs] ss) (he : layEarlyS.rd w [ve] es) (ho : layIntS.rd w [vo] os) (hx : layStringS.rd w [vx] xs) (b : Bool) (hb : b = true ↔ PushOk me peer next got qs ss es os xs t) :
    Calls Try.prog 17 #[.agg #[.int .i64 me, .int .i64 peer, .int .i64 next, vq, vs, .int .i64 got, ve, vo, vx], .string t] w (ChanRet b me peer next got (if b = true then qs ++ [t] else qs) ss es os xs w) := by
  obtain ⟨qa, qc, rfl⟩ := rows_form hq
  obtain ⟨sa, sc, rfl⟩ := rows_form hs
  obtain ⟨ea, ec, rfl⟩ := rows_form he
  obtain ⟨oa, oc, rfl⟩ := rows_form ho
  obtain ⟨xa, xc, rfl⟩ := rows_form hx
  obtain ⟨i0, hi0, hz0, hsz0, hby0⟩ := info_of infoString
  have HB := Lib.hid hb
  have e1 : (w.alloc (.cells #[.int .i64 me, .int .i64 peer, .int .i64 next, .slice qa qs.length qc, .slice sa ss.length sc, .int .i64 got, .slice ea es.length ec, .slice oa os.length oc, .slice xa xs.length xc] ChanT)).heap.size = w.heap.size + 1 := by simp
  have A0 := Lib.hid ((VarA.new w ChanT #[.int .i64 me, .int .i64 peer, .int .i64 next, .slice qa qs.length qc, .slice sa ss.length sc, .int .i64 got, .slice ea es.length ec, .slice oa os.length oc, .slice xa xs.length xc]).alloc (.cells #[.int .i64 0, .int .i64 0, .int .i64 0, .slice none 0 0, .slice none 0 0, .int .i64 0, .slice none 0 0, .slice none 0 0, .slice none 0 0] ChanT))
  have hr0 := VarA.new (w.alloc (.cells #[.int .i64 me, .int .i64 peer, .int .i64 next, .slice qa qs.length qc, .slice sa ss.length sc, .int .i64 got, .slice ea es.length ec, .slice oa os.length oc, .slice xa xs.length xc] ChanT)) ChanT #[.int .i64 0, .int .i64 0, .int .i64 0, .slice none 0 0, .slice none 0 0, .int .i64 0, .slice none 0 0, .slice none 0 0, .slice none 0 0]
  rw [e1] at hr0
  have R0 := Lib.hid hr0
  have B0 := Lib.hid (((Below.refl w.heap.size w).alloc (Nat.le_refl _) (.cells #[.int .i64 me, .int .i64 peer, .int .i64 next, .slice qa qs.length qc, .slice sa ss.length sc, .int .i64 got, .slice ea es.length ec, .slice oa os.length oc, .slice xa xs.length xc] ChanT)).alloc (by simp) (.cells #[.int .i64 0, .int .i64 0, .int .i64 0, .slice none 0 0, .slice none 0 0, .int .i64 0, .slice none 0 0, .slice none 0 0, .slice none 0 0] ChanT))
  have HQ := Lib.hid hq
  have HS := Lib.hid hs
  have HE := Lib.hid he
  have HO := Lib.hid ho
  have HX := Lib.hid hx
  clear hb hq hs he ho hx hr0 e1
  obtain ⟨Q, HQQ⟩ : ∃ Q : Ending → World → Prop, Hid (Q = ChanRet b me peer next got (if b = true then qs ++ [t] else qs) ss es os xs w) := ⟨_, Lib.hid rfl⟩
  rw [← HQQ.out]
  go_enter Try.func17, Try.ntmps17
  go_upto_region 1 with fail
  generalize (w.alloc (.cells #[.int .i64 me, .int .i64 peer, .int .i64 next, .slice qa qs.length qc, .slice sa ss.length sc, .int .i64 got, .slice ea es.length ec, .slice oa os.length oc, .slice xa xs.length xc] ChanT)).alloc (.cells #[.int .i64 0, .int .i64 0, .int .i64 0, .slice none 0 0, .slice none 0 0, .int .i64 0, .slice none 0 0, .slice none 0 0, .slice none 0 0] ChanT) = Y at *
  have c0 : Y.cell? ⟨w.heap.size, 0, none⟩ = some (.int .i64 me) := A0.out.cell 0
  have c1 : Y.cell? ⟨w.heap.size, 1, none⟩ = some (.int .i64 peer) := A0.out.cell 1
  have c2 : Y.cell? ⟨w.heap.size, 2, none⟩ = some (.int .i64 next) := A0.out.cell 2
  have c3 : Y.cell? ⟨w.heap.size, 3, none⟩ = some (.slice qa qs.length qc) := A0.out.cell 3
  have c4 : Y.cell? ⟨w.heap.size, 4, none⟩ = some (.slice sa ss.length sc) := A0.out.cell 4
  have c5 : Y.cell? ⟨w.heap.size, 5, none⟩ = some (.int .i64 got) := A0.out.cell 5
  have c6 : Y.cell? ⟨w.heap.size, 6, none⟩ = some (.slice ea es.length ec) := A0.out.cell 6
  have c7 : Y.cell? ⟨w.heap.size, 7, none⟩ = some (.slice oa os.length oc) := A0.out.cell 7
  have c8 : Y.cell? ⟨w.heap.size, 8, none⟩ = some (.slice xa xs.length xc) := A0.out.cell 8
  have K := Lib.hid (specChanCopy_any me peer next _ qs _ ss got _ es _ os _ xs Y (layStringS.below HQ.out B0.out) lq (layPendingS.below HS.out B0.out) ls (layEarlyS.below HE.out B0.out) le (layIntS.below HO.out B0.out) lo (layStringS.below HX.out B0.out) lx)
  go_wp2_with fail
  refine (K.out).mono ?_
  intro e Y1 hcp
  obtain ⟨a3, k3, a4, k4, a6, k6, a7, k7, a8, k8, rfl, hco, hb1⟩ := hcp.co
  have hYlt := R0.out.lt
  have CO1 : Hid (CO w.heap.size (.slice (some ⟨a3, 0, none⟩) qs.length k3) (.slice (some ⟨a4, 0, none⟩) ss.length k4) (.slice (some ⟨a6, 0, none⟩) es.length k6) (.slice (some ⟨a7, 0, none⟩) os.length k7) (.slice (some ⟨a8, 0, none⟩) xs.length k8) [a3] [a4] [a6] [a7] [a8] qs ss es os xs (Y1.alloc (.cells #[.int .i64 me, .int .i64 peer, .int .i64 next, .slice (some ⟨a3, 0, none⟩) qs.length k3, .slice (some ⟨a4, 0, none⟩) ss.length k4, .int .i64 got, .slice (some ⟨a6, 0, none⟩) es.length k6, .slice (some ⟨a7, 0, none⟩) os.length k7, .slice (some ⟨a8, 0, none⟩) xs.length k8] ChanT))) := (hco.lower (by omega)).next ((Below.refl _ _).alloc (Nat.le_refl _) _)
  have P1 : Hid (PS w Y1.heap.size #[.int .i64 me, .int .i64 peer, .int .i64 next, .slice qa qs.length qc, .slice sa ss.length sc, .int .i64 got, .slice ea es.length ec, .slice oa os.length oc, .slice xa xs.length xc] #[.int .i64 me, .int .i64 peer, .int .i64 next, .slice (some ⟨a3, 0, none⟩) qs.length k3, .slice (some ⟨a4, 0, none⟩) ss.length k4, .int .i64 got, .slice (some ⟨a6, 0, none⟩) es.length k6, .slice (some ⟨a7, 0, none⟩) os.length k7, .slice (some ⟨a8, 0, none⟩) xs.length k8] (Y1.alloc (.cells #[.int .i64 me, .int .i64 peer, .int .i64 next, .slice (some ⟨a3, 0, none⟩) qs.length k3, .slice (some ⟨a4, 0, none⟩) ss.length k4, .int .i64 got, .slice (some ⟨a6, 0, none⟩) es.length k6, .slice (some ⟨a7, 0, none⟩) os.length k7, .slice (some ⟨a8, 0, none⟩) xs.length k8] ChanT))) := ⟨(A0.out.next hb1).alloc _, (R0.out.next hb1).alloc _, VarA.new Y1 ChanT _, by have := hb1.size; omega, (B0.out.trans (hb1.mono B0.out.size)).alloc (by have := hb1.size; have := B0.out.size; omega) _⟩
  clear hcp hco hb1 hYlt K A0 R0 B0 c0 c1 c2 c3 c4 c5 c6 c7 c8
  go_upto_region 2 with fail
  generalize Y1.alloc (.cells #[.int .i64 me, .int .i64 peer, .int .i64 next, .slice (some ⟨a3, 0, none⟩) qs.length k3, .slice (some ⟨a4, 0, none⟩) ss.length k4, .int .i64 got, .slice (some ⟨a6, 0, none⟩) es.length k6, .slice (some ⟨a7, 0, none⟩) os.length k7, .slice (some ⟨a8, 0, none⟩) xs.length k8] ChanT) = X1 at *
  generalize Y1.heap.size = G at *
  have c0 : X1.cell? ⟨w.heap.size, 0, none⟩ = some (.int .i64 me) := P1.out.arg.cell 0
  have c1 : X1.cell? ⟨w.heap.size, 1, none⟩ = some (.int .i64 peer) := P1.out.arg.cell 1
  have c2 : X1.cell? ⟨w.heap.size, 2, none⟩ = some (.int .i64 next) := P1.out.arg.cell 2
  have c3 : X1.cell? ⟨w.heap.size, 3, none⟩ = some (.slice qa qs.length qc) := P1.out.arg.cell 3
  have c4 : X1.cell? ⟨w.heap.size, 4, none⟩ = some (.slice sa ss.length sc) := P1.out.arg.cell 4
  have c5 : X1.cell? ⟨w.heap.size, 5, none⟩ = some (.int .i64 got) := P1.out.arg.cell 5
  have c6 : X1.cell? ⟨w.heap.size, 6, none⟩ = some (.slice ea es.length ec) := P1.out.arg.cell 6
  have c7 : X1.cell? ⟨w.heap.size, 7, none⟩ = some (.slice oa os.length oc) := P1.out.arg.cell 7
  have c8 : X1.cell? ⟨w.heap.size, 8, none⟩ = some (.slice xa xs.length xc) := P1.out.arg.cell 8
  have hlt1 := P1.out.lt
  by_cases hok : ChanP me peer next got qs ss es os xs
  rotate_left
  · obtain rfl : b = false := by
      cases b with
      | false => rfl
      | true => exact absurd (HB.out.1 rfl).1 hok
    have K := Lib.hid (specChanOk_bool me peer next got _ _ _ _ _ qs ss es os xs false ⟨fun e => (by cases e), fun e => absurd e hok⟩ lq ls le lo lx X1 (layStringS.below HQ.out P1.out.below) (layPendingS.below HS.out P1.out.below) (layEarlyS.below HE.out P1.out.below) (layIntS.below HO.out P1.out.below) (layStringS.below HX.out P1.out.below))
    go_wp2_with fail
    refine (K.out).mono ?_
    rintro e X2 ⟨rfl, hb2⟩
    have P2 := Lib.hid (P1.out.next hb2)
    have CO2 := Lib.hid (CO1.out.next hb2)
    clear hb2 K P1 CO1 c0 c1 c2 c3 c4 c5 c6 c7 c8
    go_upto_region 3 with fail
    have d0 : X2.cell? ⟨G, 0, none⟩ = some (.int .i64 me) := P2.out.var.cell 0
    have d1 : X2.cell? ⟨G, 1, none⟩ = some (.int .i64 peer) := P2.out.var.cell 1
    have d2 : X2.cell? ⟨G, 2, none⟩ = some (.int .i64 next) := P2.out.var.cell 2
    have d3 : X2.cell? ⟨G, 3, none⟩ = some (.slice (some ⟨a3, 0, none⟩) qs.length k3) := P2.out.var.cell 3
    have d4 : X2.cell? ⟨G, 4, none⟩ = some (.slice (some ⟨a4, 0, none⟩) ss.length k4) := P2.out.var.cell 4
    have d5 : X2.cell? ⟨G, 5, none⟩ = some (.int .i64 got) := P2.out.var.cell 5
    have d6 : X2.cell? ⟨G, 6, none⟩ = some (.slice (some ⟨a6, 0, none⟩) es.length k6) := P2.out.var.cell 6
    have d7 : X2.cell? ⟨G, 7, none⟩ = some (.slice (some ⟨a7, 0, none⟩) os.length k7) := P2.out.var.cell 7
    have d8 : X2.cell? ⟨G, 8, none⟩ = some (.slice (some ⟨a8, 0, none⟩) xs.length k8) := P2.out.var.cell 8
    have g0 := P2.out.res.free 0
    have g1 := P2.out.res.free 1
    have g2 := P2.out.res.free 2
    have g3 := P2.out.res.free 3
    have g4 := P2.out.res.free 4
    have g5 := P2.out.res.free 5
    have g6 := P2.out.res.free 6
    have g7 := P2.out.res.free 7
    have g8 := P2.out.res.free 8
    have y0 : X2.cell? ⟨w.heap.size + 1, 0, none⟩ = some (.int .i64 0) := P2.out.res.cell 0
    have y1 : X2.cell? ⟨w.heap.size + 1, 1, none⟩ = some (.int .i64 0) := P2.out.res.cell 1
    have y2 : X2.cell? ⟨w.heap.size + 1, 2, none⟩ = some (.int .i64 0) := P2.out.res.cell 2
    have y3 : X2.cell? ⟨w.heap.size + 1, 3, none⟩ = some (.slice none 0 0) := P2.out.res.cell 3
    have y4 : X2.cell? ⟨w.heap.size + 1, 4, none⟩ = some (.slice none 0 0) := P2.out.res.cell 4
    have y5 : X2.cell? ⟨w.heap.size + 1, 5, none⟩ = some (.int .i64 0) := P2.out.res.cell 5
    have y6 : X2.cell? ⟨w.heap.size + 1, 6, none⟩ = some (.slice none 0 0) := P2.out.res.cell 6
    have y7 : X2.cell? ⟨w.heap.size + 1, 7, none⟩ = some (.slice none 0 0) := P2.out.res.cell 7
    have y8 : X2.cell? ⟨w.heap.size + 1, 8, none⟩ = some (.slice none 0 0) := P2.out.res.cell 8
    have R9 := set_nine (p0 := .int .i64 me) (p1 := .int .i64 peer) (p2 := .int .i64 next) (p3 := .slice (some ⟨a3, 0, none⟩) qs.length k3) (p4 := .slice (some ⟨a4, 0, none⟩) ss.length k4) (p5 := .int .i64 got) (p6 := .slice (some ⟨a6, 0, none⟩) es.length k6) (p7 := .slice (some ⟨a7, 0, none⟩) os.length k7) (p8 := .slice (some ⟨a8, 0, none⟩) xs.length k8) P2.out.res
    have j0 := R9.cell 0
    have j1 := R9.cell 1
    have j2 := R9.cell 2
    have j3 := R9.cell 3
    have j4 := R9.cell 4
    have j5 := R9.cell 5
    have j6 := R9.cell 6
    have j7 := R9.cell 7
    have j8 := R9.cell 8
    have O9 := only_nine X2 (w.heap.size + 1) (.int .i64 me) (.int .i64 peer) (.int .i64 next) (.slice (some ⟨a3, 0, none⟩) qs.length k3) (.slice (some ⟨a4, 0, none⟩) ss.length k4) (.int .i64 got) (.slice (some ⟨a6, 0, none⟩) es.length k6) (.slice (some ⟨a7, 0, none⟩) os.length k7) (.slice (some ⟨a8, 0, none⟩) xs.length k8)
    have FIN := Lib.hid (P2.out.below.trans (only_below O9 (by omega) P2.out.below.size))
    have FCO := Lib.hid (CO2.out.only O9 P2.out.res (by decide) (by decide) (by decide) (by decide))
    clear R9 O9
    go_wp2_with fail
    exact bodyPost_ret (v := .tuple #[.agg #[.int .i64 me, .int .i64 peer, .int .i64 next, .slice (some ⟨a3, 0, none⟩) qs.length k3, .slice (some ⟨a4, 0, none⟩) ss.length k4, .int .i64 got, .slice (some ⟨a6, 0, none⟩) es.length k6, .slice (some ⟨a7, 0, none⟩) os.length k7, .slice (some ⟨a8, 0, none⟩) xs.length k8], .bool false]) (by simp [results, Try.results17, go_sem, j0, j1, j2, j3, j4, j5, j6, j7, j8]) rfl (by rw [HQQ.out]; exact ⟨_, _, _, _, _, _, _, _, _, _, rfl, FCO.out, FIN.out⟩)
  have K := Lib.hid (specChanOk_bool me peer next got _ _ _ _ _ qs ss es os xs true ⟨fun _ => hok, fun _ => rfl⟩ lq ls le lo lx X1 (layStringS.below HQ.out P1.out.below) (layPendingS.below HS.out P1.out.below) (layEarlyS.below HE.out P1.out.below) (layIntS.below HO.out P1.out.below) (layStringS.below HX.out P1.out.below))
  go_wp2_with fail
  refine (K.out).mono ?_
  rintro e X2 ⟨rfl, hb2⟩
  have P2 := Lib.hid (P1.out.next hb2)
  have CO2 := Lib.hid (CO1.out.next hb2)
  clear hb2 K P1 CO1 c0 c1 c2 c3 c4 c5 c6 c7 c8
  have c2 : X2.cell? ⟨w.heap.size, 2, none⟩ = some (.int .i64 next) := P2.out.arg.cell 2
  have c3 : X2.cell? ⟨w.heap.size, 3, none⟩ = some (.slice qa qs.length qc) := P2.out.arg.cell 3
  have hnx := hok.nextR
  have hfw := hok.few
  have hsum : IntKind.i64.wrap (next + (qs.length : Int)) = next + (qs.length : Int) := by rw [IntKind.wrap_i64]; omega
  by_cases hbo : b = true
  · subst hbo
    obtain ⟨_, h1, h2, h3⟩ := HB.out.1 rfl
    have q1 : ¬ ((120 : Int) < (t.size : Int)) := by omega
    have q2 : ¬ ((30 : Int) ≤ (qs.length : Int)) := by omega
    have q3 : ¬ ((1000 : Int) ≤ next + (qs.length : Int)) := by omega
    go_upto_region 4 with fail
    clear c2 c3
    have d3 : X2.cell? ⟨G, 3, none⟩ = some (.slice (some ⟨a3, 0, none⟩) qs.length k3) := P2.out.var.cell 3
    have l3 := P2.out.lt
    have hG := P2.out.var.lt
    have S2 : Hid (layStringS.own X2 w.heap.size [a3] [.slice (some ⟨a3, 0, none⟩) qs.length k3] qs) := CO2.out.q
    go_upto_region 5 with (at_builtin; refine wpList_pushT X2 rfl _ _ 22 rfl w.heap.size StringT i0 _ 16 layString flatString Try.underlying22 hi0 hz0 hsz0 hby0 rfl (by omega) (.slice (some ⟨a3, 0, none⟩) qs.length k3) [a3] qs (by rfl) S2.out t #[.string t] rfl (by rfl) (by omega) P2.out.below.size ?_; intro v1 w1 hown1 hnn1 htl1 hgr1 hbe1; obtain ⟨a9, k9, rfl, hblk, hg1b, hg1l⟩ := flat_some flatString hown1 hnn1; rw [hblk] at hown1 htl1; obtain ⟨l9, HL9⟩ : ∃ l : Nat, Hid (l = (qs ++ [t]).length) := ⟨_, Lib.hid rfl⟩; rw [← HL9.out] at hown1; rw [← HL9.out]; have hchg := Chg.grown hgr1 [a3] (fun k hk => by cases hk; simp); have hvr : VarA G ChanT #[.int .i64 me, .int .i64 peer, .int .i64 next, .slice (some ⟨a3, 0, none⟩) qs.length k3, .slice (some ⟨a4, 0, none⟩) ss.length k4, .int .i64 got, .slice (some ⟨a6, 0, none⟩) es.length k6, .slice (some ⟨a7, 0, none⟩) os.length k7, .slice (some ⟨a8, 0, none⟩) xs.length k8] w1 := ⟨by rw [hchg.block G hG (fun hm => row_off flatString S2.out P2.out.var (by decide) hm)]; exact P2.out.var.row⟩; have f3 : w1.cell? ⟨G, 3, none⟩ = some (.slice (some ⟨a3, 0, none⟩) qs.length k3) := hvr.cell 3; have u3 := hvr.free 3)
    have hap : ∀ g ∈ [a9], g ∉ [a8] := fun g hg hg2 => by
      rw [List.mem_singleton] at hg hg2
      rcases htl1 with h9 | h9
      · have e9 : a9 = a3 := by simpa [blk, Value.ownBlock] using h9
        exact CO2.out.ap g (by simp; omega) (by simp; omega)
      · have h10 := h9 a9 (by simp)
        have h11 := (layStringS.blocks CO2.out.x a8 (by simp)).2
        omega
    have P3 : Hid (PS w G #[.int .i64 me, .int .i64 peer, .int .i64 next, .slice qa qs.length qc, .slice sa ss.length sc, .int .i64 got, .slice ea es.length ec, .slice oa os.length oc, .slice xa xs.length xc] #[.int .i64 me, .int .i64 peer, .int .i64 next, .slice (some ⟨a3, 0, none⟩) qs.length k3, .slice (some ⟨a4, 0, none⟩) ss.length k4, .int .i64 got, .slice (some ⟨a6, 0, none⟩) es.length k6, .slice (some ⟨a7, 0, none⟩) os.length k7, .slice (some ⟨a8, 0, none⟩) xs.length k8] w1) := by
      have harg : VarA w.heap.size ChanT #[.int .i64 me, .int .i64 peer, .int .i64 next, .slice qa qs.length qc, .slice sa ss.length sc, .int .i64 got, .slice ea es.length ec, .slice oa os.length oc, .slice xa xs.length xc] w1 := ⟨by rw [hchg.block _ P2.out.arg.lt (fun hm => row_off flatString S2.out P2.out.arg (by decide) hm)]; exact P2.out.arg.row⟩
      have hres : VarA (w.heap.size + 1) ChanT #[.int .i64 0, .int .i64 0, .int .i64 0, .slice none 0 0, .slice none 0 0, .int .i64 0, .slice none 0 0, .slice none 0 0, .slice none 0 0] w1 := ⟨by rw [hchg.block _ P2.out.res.lt (fun hm => row_off flatString S2.out P2.out.res (by decide) hm)]; exact P2.out.res.row⟩
      exact ⟨harg, hres, hvr, l3, P2.out.below.trans hbe1⟩
    have CO3 : Hid (CO w.heap.size (.slice (some ⟨a9, 0, none⟩) l9 k9) (.slice (some ⟨a4, 0, none⟩) ss.length k4) (.slice (some ⟨a6, 0, none⟩) es.length k6) (.slice (some ⟨a7, 0, none⟩) os.length k7) (.slice (some ⟨a8, 0, none⟩) xs.length k8) [a9] [a4] [a6] [a7] [a8] (qs ++ [t]) ss es os xs w1) := by
      refine ⟨hown1, layPendingS.chg CO2.out.s hchg ?_, layEarlyS.chg CO2.out.e hchg ?_, layIntS.chg CO2.out.o hchg ?_, layStringS.chg CO2.out.x hchg ?_, hap⟩
      · exact fun g hg hm => rows_off flatPending flatString CO2.out.s CO2.out.q (by decide) g hg hm
      · exact fun g hg hm => rows_off flatEarly flatString CO2.out.e CO2.out.q (by decide) g hg hm
      · exact fun g hg hm => rows_off flatIntP flatString CO2.out.o CO2.out.q (by decide) g hg hm
      · exact fun g hg hm => CO2.out.ap g hm hg
    have O3 : Only G w1 (w1.setCell ⟨G, 3, none⟩ (.slice (some ⟨a9, 0, none⟩) l9 k9)) := Only.setCell 3 _
    have P4 : Hid (PS w G #[.int .i64 me, .int .i64 peer, .int .i64 next, .slice qa qs.length qc, .slice sa ss.length sc, .int .i64 got, .slice ea es.length ec, .slice oa os.length oc, .slice xa xs.length xc] #[.int .i64 me, .int .i64 peer, .int .i64 next, .slice (some ⟨a9, 0, none⟩) l9 k9, .slice (some ⟨a4, 0, none⟩) ss.length k4, .int .i64 got, .slice (some ⟨a6, 0, none⟩) es.length k6, .slice (some ⟨a7, 0, none⟩) os.length k7, .slice (some ⟨a8, 0, none⟩) xs.length k8] (w1.setCell ⟨G, 3, none⟩ (.slice (some ⟨a9, 0, none⟩) l9 k9))) := ⟨P3.out.arg.only O3 (by omega), P3.out.res.only O3 (by omega), P3.out.var.set 3 _, l3, P3.out.below.trans (only_below O3 (by omega) P3.out.below.size)⟩
    have CO4 := Lib.hid (CO3.out.only O3 P3.out.var (by decide) (by decide) (by decide) (by decide))
    clear P2 P3 CO2 CO3 O3 hown1 hnn1 htl1 hgr1 hbe1 hblk hg1b hg1l hchg hvr f3 u3 hap S2 d3
    generalize w1.setCell ⟨G, 3, none⟩ (.slice (some ⟨a9, 0, none⟩) l9 k9) = X4 at *
    clear w1
    have d0 : X4.cell? ⟨G, 0, none⟩ = some (.int .i64 me) := P4.out.var.cell 0
    have d1 : X4.cell? ⟨G, 1, none⟩ = some (.int .i64 peer) := P4.out.var.cell 1
    have d2 : X4.cell? ⟨G, 2, none⟩ = some (.int .i64 next) := P4.out.var.cell 2
    have d3 : X4.cell? ⟨G, 3, none⟩ = some (.slice (some ⟨a9, 0, none⟩) l9 k9) := P4.out.var.cell 3
    have d4 : X4.cell? ⟨G, 4, none⟩ = some (.slice (some ⟨a4, 0, none⟩) ss.length k4) := P4.out.var.cell 4
    have d5 : X4.cell? ⟨G, 5, none⟩ = some (.int .i64 got) := P4.out.var.cell 5
    have d6 : X4.cell? ⟨G, 6, none⟩ = some (.slice (some ⟨a6, 0, none⟩) es.length k6) := P4.out.var.cell 6
    have d7 : X4.cell? ⟨G, 7, none⟩ = some (.slice (some ⟨a7, 0, none⟩) os.length k7) := P4.out.var.cell 7
    have d8 : X4.cell? ⟨G, 8, none⟩ = some (.slice (some ⟨a8, 0, none⟩) xs.length k8) := P4.out.var.cell 8
    have g0 := P4.out.res.free 0
    have g1 := P4.out.res.free 1
    have g2 := P4.out.res.free 2
    have g3 := P4.out.res.free 3
    have g4 := P4.out.res.free 4
    have g5 := P4.out.res.free 5
    have g6 := P4.out.res.free 6
    have g7 := P4.out.res.free 7
    have g8 := P4.out.res.free 8
    have y0 : X4.cell? ⟨w.heap.size + 1, 0, none⟩ = some (.int .i64 0) := P4.out.res.cell 0
    have y1 : X4.cell? ⟨w.heap.size + 1, 1, none⟩ = some (.int .i64 0) := P4.out.res.cell 1
    have y2 : X4.cell? ⟨w.heap.size + 1, 2, none⟩ = some (.int .i64 0) := P4.out.res.cell 2
    have y3 : X4.cell? ⟨w.heap.size + 1, 3, none⟩ = some (.slice none 0 0) := P4.out.res.cell 3
    have y4 : X4.cell? ⟨w.heap.size + 1, 4, none⟩ = some (.slice none 0 0) := P4.out.res.cell 4
    have y5 : X4.cell? ⟨w.heap.size + 1, 5, none⟩ = some (.int .i64 0) := P4.out.res.cell 5
    have y6 : X4.cell? ⟨w.heap.size + 1, 6, none⟩ = some (.slice none 0 0) := P4.out.res.cell 6
    have y7 : X4.cell? ⟨w.heap.size + 1, 7, none⟩ = some (.slice none 0 0) := P4.out.res.cell 7
    have y8 : X4.cell? ⟨w.heap.size + 1, 8, none⟩ = some (.slice none 0 0) := P4.out.res.cell 8
    have R9 := set_nine (p0 := .int .i64 me) (p1 := .int .i64 peer) (p2 := .int .i64 next) (p3 := .slice (some ⟨a9, 0, none⟩) l9 k9) (p4 := .slice (some ⟨a4, 0, none⟩) ss.length k4) (p5 := .int .i64 got) (p6 := .slice (some ⟨a6, 0, none⟩) es.length k6) (p7 := .slice (some ⟨a7, 0, none⟩) os.length k7) (p8 := .slice (some ⟨a8, 0, none⟩) xs.length k8) P4.out.res
    have j0 := R9.cell 0
    have j1 := R9.cell 1
    have j2 := R9.cell 2
    have j3 := R9.cell 3
    have j4 := R9.cell 4
    have j5 := R9.cell 5
    have j6 := R9.cell 6
    have j7 := R9.cell 7
    have j8 := R9.cell 8
    have O9 := only_nine X4 (w.heap.size + 1) (.int .i64 me) (.int .i64 peer) (.int .i64 next) (.slice (some ⟨a9, 0, none⟩) l9 k9) (.slice (some ⟨a4, 0, none⟩) ss.length k4) (.int .i64 got) (.slice (some ⟨a6, 0, none⟩) es.length k6) (.slice (some ⟨a7, 0, none⟩) os.length k7) (.slice (some ⟨a8, 0, none⟩) xs.length k8)
    have FIN := Lib.hid (P4.out.below.trans (only_below O9 (by omega) P4.out.below.size))
    have FCO := Lib.hid (CO4.out.only O9 P4.out.res (by decide) (by decide) (by decide) (by decide))
    clear R9 O9
    go_wp2_with fail
    exact bodyPost_ret (v := .tuple #[.agg #[.int .i64 me, .int .i64 peer, .int .i64 next, .slice (some ⟨a9, 0, none⟩) l9 k9, .slice (some ⟨a4, 0, none⟩) ss.length k4, .int .i64 got, .slice (some ⟨a6, 0, none⟩) es.length k6, .slice (some ⟨a7, 0, none⟩) os.length k7, .slice (some ⟨a8, 0, none⟩) xs.length k8], .bool true]) (by simp [results, Try.results17, go_sem, j0, j1, j2, j3, j4, j5, j6, j7, j8]) rfl (by rw [HQQ.out]; exact ⟨_, _, _, _, _, _, _, _, _, _, rfl, FCO.out, FIN.out⟩)
  · obtain rfl : b = false := by cases b with | false => rfl | true => exact absurd rfl hbo
    have HN : Hid (¬ (t.size ≤ 120 ∧ qs.length < 30 ∧ next + (qs.length : Int) < 1000)) := fun h => hbo (HB.out.2 ⟨hok, h⟩)
    clear hbo
    have P2' := P2
    by_cases h1 : t.size ≤ 120
    · have q1 : ¬ ((120 : Int) < (t.size : Int)) := by omega
      by_cases h2 : qs.length < 30
      · have q2 : ¬ ((30 : Int) ≤ (qs.length : Int)) := by omega
        have h3 : ¬ (next + (qs.length : Int) < 1000) := fun h => HN.out ⟨h1, h2, h⟩
        have q3 : (1000 : Int) ≤ next + (qs.length : Int) := by omega
        go_upto_region 3 with fail
        have d0 : X2.cell? ⟨G, 0, none⟩ = some (.int .i64 me) := P2.out.var.cell 0
        have d1 : X2.cell? ⟨G, 1, none⟩ = some (.int .i64 peer) := P2.out.var.cell 1
        have d2 : X2.cell? ⟨G, 2, none⟩ = some (.int .i64 next) := P2.out.var.cell 2
        have d3 : X2.cell? ⟨G, 3, none⟩ = some (.slice (some ⟨a3, 0, none⟩) qs.length k3) := P2.out.var.cell 3
        have d4 : X2.cell? ⟨G, 4, none⟩ = some (.slice (some ⟨a4, 0, none⟩) ss.length k4) := P2.out.var.cell 4
        have d5 : X2.cell? ⟨G, 5, none⟩ = some (.int .i64 got) := P2.out.var.cell 5
        have d6 : X2.cell? ⟨G, 6, none⟩ = some (.slice (some ⟨a6, 0, none⟩) es.length k6) := P2.out.var.cell 6
        have d7 : X2.cell? ⟨G, 7, none⟩ = some (.slice (some ⟨a7, 0, none⟩) os.length k7) := P2.out.var.cell 7
        have d8 : X2.cell? ⟨G, 8, none⟩ = some (.slice (some ⟨a8, 0, none⟩) xs.length k8) := P2.out.var.cell 8
        have g0 := P2.out.res.free 0
        have g1 := P2.out.res.free 1
        have g2 := P2.out.res.free 2
        have g3 := P2.out.res.free 3
        have g4 := P2.out.res.free 4
        have g5 := P2.out.res.free 5
        have g6 := P2.out.res.free 6
        have g7 := P2.out.res.free 7
        have g8 := P2.out.res.free 8
        have y0 : X2.cell? ⟨w.heap.size + 1, 0, none⟩ = some (.int .i64 0) := P2.out.res.cell 0
        have y1 : X2.cell? ⟨w.heap.size + 1, 1, none⟩ = some (.int .i64 0) := P2.out.res.cell 1
        have y2 : X2.cell? ⟨w.heap.size + 1, 2, none⟩ = some (.int .i64 0) := P2.out.res.cell 2
        have y3 : X2.cell? ⟨w.heap.size + 1, 3, none⟩ = some (.slice none 0 0) := P2.out.res.cell 3
        have y4 : X2.cell? ⟨w.heap.size + 1, 4, none⟩ = some (.slice none 0 0) := P2.out.res.cell 4
        have y5 : X2.cell? ⟨w.heap.size + 1, 5, none⟩ = some (.int .i64 0) := P2.out.res.cell 5
        have y6 : X2.cell? ⟨w.heap.size + 1, 6, none⟩ = some (.slice none 0 0) := P2.out.res.cell 6
        have y7 : X2.cell? ⟨w.heap.size + 1, 7, none⟩ = some (.slice none 0 0) := P2.out.res.cell 7
        have y8 : X2.cell? ⟨w.heap.size + 1, 8, none⟩ = some (.slice none 0 0) := P2.out.res.cell 8
        have R9 := set_nine (p0 := .int .i64 me) (p1 := .int .i64 peer) (p2 := .int .i64 next) (p3 := .slice (some ⟨a3, 0, none⟩) qs.length k3) (p4 := .slice (some ⟨a4, 0, none⟩) ss.length k4) (p5 := .int .i64 got) (p6 := .slice (some ⟨a6, 0, none⟩) es.length k6) (p7 := .slice (some ⟨a7, 0, none⟩) os.length k7) (p8 := .slice (some ⟨a8, 0, none⟩) xs.length k8) P2.out.res
        have j0 := R9.cell 0
        have j1 := R9.cell 1
        have j2 := R9.cell 2
        have j3 := R9.cell 3
        have j4 := R9.cell 4
        have j5 := R9.cell 5
        have j6 := R9.cell 6
        have j7 := R9.cell 7
        have j8 := R9.cell 8
        have O9 := only_nine X2 (w.heap.size + 1) (.int .i64 me) (.int .i64 peer) (.int .i64 next) (.slice (some ⟨a3, 0, none⟩) qs.length k3) (.slice (some ⟨a4, 0, none⟩) ss.length k4) (.int .i64 got) (.slice (some ⟨a6, 0, none⟩) es.length k6) (.slice (some ⟨a7, 0, none⟩) os.length k7) (.slice (some ⟨a8, 0, none⟩) xs.length k8)
        have FIN := Lib.hid (P2.out.below.trans (only_below O9 (by omega) P2.out.below.size))
        have FCO := Lib.hid (CO2.out.only O9 P2.out.res (by decide) (by decide) (by decide) (by decide))
        clear R9 O9
        go_wp2_with fail
        exact bodyPost_ret (v := .tuple #[.agg #[.int .i64 me, .int .i64 peer, .int .i64 next, .slice (some ⟨a3, 0, none⟩) qs.length k3, .slice (some ⟨a4, 0, none⟩) ss.length k4, .int .i64 got, .slice (some ⟨a6, 0, none⟩) es.length k6, .slice (some ⟨a7, 0, none⟩) os.length k7, .slice (some ⟨a8, 0, none⟩) xs.length k8], .bool false]) (by simp [results, Try.results17, go_sem, j0, j1, j2, j3, j4, j5, j6, j7, j8]) rfl (by rw [HQQ.out]; exact ⟨_, _, _, _, _, _, _, _, _, _, rfl, FCO.out, FIN.out⟩)
      · have q2 : (30 : Int) ≤ (qs.length : Int) := by omega
        go_upto_region 3 with fail
        have d0 : X2.cell? ⟨G, 0, none⟩ = some (.int .i64 me) := P2.out.var.cell 0
        have d1 : X2.cell? ⟨G, 1, none⟩ = some (.int .i64 peer) := P2.out.var.cell 1
        have d2 : X2.cell? ⟨G, 2, none⟩ = some (.int .i64 next) := P2.out.var.cell 2
        have d3 : X2.cell? ⟨G, 3, none⟩ = some (.slice (some ⟨a3, 0, none⟩) qs.length k3) := P2.out.var.cell 3
        have d4 : X2.cell? ⟨G, 4, none⟩ = some (.slice (some ⟨a4, 0, none⟩) ss.length k4) := P2.out.var.cell 4
        have d5 : X2.cell? ⟨G, 5, none⟩ = some (.int .i64 got) := P2.out.var.cell 5
        have d6 : X2.cell? ⟨G, 6, none⟩ = some (.slice (some ⟨a6, 0, none⟩) es.length k6) := P2.out.var.cell 6
        have d7 : X2.cell? ⟨G, 7, none⟩ = some (.slice (some ⟨a7, 0, none⟩) os.length k7) := P2.out.var.cell 7
        have d8 : X2.cell? ⟨G, 8, none⟩ = some (.slice (some ⟨a8, 0, none⟩) xs.length k8) := P2.out.var.cell 8
        have g0 := P2.out.res.free 0
        have g1 := P2.out.res.free 1
        have g2 := P2.out.res.free 2
        have g3 := P2.out.res.free 3
        have g4 := P2.out.res.free 4
        have g5 := P2.out.res.free 5
        have g6 := P2.out.res.free 6
        have g7 := P2.out.res.free 7
        have g8 := P2.out.res.free 8
        have y0 : X2.cell? ⟨w.heap.size + 1, 0, none⟩ = some (.int .i64 0) := P2.out.res.cell 0
        have y1 : X2.cell? ⟨w.heap.size + 1, 1, none⟩ = some (.int .i64 0) := P2.out.res.cell 1
        have y2 : X2.cell? ⟨w.heap.size + 1, 2, none⟩ = some (.int .i64 0) := P2.out.res.cell 2
        have y3 : X2.cell? ⟨w.heap.size + 1, 3, none⟩ = some (.slice none 0 0) := P2.out.res.cell 3
        have y4 : X2.cell? ⟨w.heap.size + 1, 4, none⟩ = some (.slice none 0 0) := P2.out.res.cell 4
        have y5 : X2.cell? ⟨w.heap.size + 1, 5, none⟩ = some (.int .i64 0) := P2.out.res.cell 5
        have y6 : X2.cell? ⟨w.heap.size + 1, 6, none⟩ = some (.slice none 0 0) := P2.out.res.cell 6
        have y7 : X2.cell? ⟨w.heap.size + 1, 7, none⟩ = some (.slice none 0 0) := P2.out.res.cell 7
        have y8 : X2.cell? ⟨w.heap.size + 1, 8, none⟩ = some (.slice none 0 0) := P2.out.res.cell 8
        have R9 := set_nine (p0 := .int .i64 me) (p1 := .int .i64 peer) (p2 := .int .i64 next) (p3 := .slice (some ⟨a3, 0, none⟩) qs.length k3) (p4 := .slice (some ⟨a4, 0, none⟩) ss.length k4) (p5 := .int .i64 got) (p6 := .slice (some ⟨a6, 0, none⟩) es.length k6) (p7 := .slice (some ⟨a7, 0, none⟩) os.length k7) (p8 := .slice (some ⟨a8, 0, none⟩) xs.length k8) P2.out.res
        have j0 := R9.cell 0
        have j1 := R9.cell 1
        have j2 := R9.cell 2
        have j3 := R9.cell 3
        have j4 := R9.cell 4
        have j5 := R9.cell 5
        have j6 := R9.cell 6
        have j7 := R9.cell 7
        have j8 := R9.cell 8
        have O9 := only_nine X2 (w.heap.size + 1) (.int .i64 me) (.int .i64 peer) (.int .i64 next) (.slice (some ⟨a3, 0, none⟩) qs.length k3) (.slice (some ⟨a4, 0, none⟩) ss.length k4) (.int .i64 got) (.slice (some ⟨a6, 0, none⟩) es.length k6) (.slice (some ⟨a7, 0, none⟩) os.length k7) (.slice (some ⟨a8, 0, none⟩) xs.length k8)
        have FIN := Lib.hid (P2.out.below.trans (only_below O9 (by omega) P2.out.below.size))
        have FCO := Lib.hid (CO2.out.only O9 P2.out.res (by decide) (by decide) (by decide) (by decide))
        clear R9 O9
        go_wp2_with fail
        exact bodyPost_ret (v := .tuple #[.agg #[.int .i64 me, .int .i64 peer, .int .i64 next, .slice (some ⟨a3, 0, none⟩) qs.length k3, .slice (some ⟨a4, 0, none⟩) ss.length k4, .int .i64 got, .slice (some ⟨a6, 0, none⟩) es.length k6, .slice (some ⟨a7, 0, none⟩) os.length k7, .slice (some ⟨a8, 0, none⟩) xs.length k8], .bool false]) (by simp [results, Try.results17, go_sem, j0, j1, j2, j3, j4, j5, j6, j7, j8]) rfl (by rw [HQQ.out]; exact ⟨_, _, _, _, _, _, _, _, _, _, rfl, FCO.out, FIN.out⟩)
    · have q1 : (120 : Int) < (t.size : Int) := by omega
      go_upto_region 3 with fail
      have d0 : X2.cell? ⟨G, 0, none⟩ = some (.int .i64 me) := P2.out.var.cell 0
      have d1 : X2.cell? ⟨G, 1, none⟩ = some (.int .i64 peer) := P2.out.var.cell 1
      have d2 : X2.cell? ⟨G, 2, none⟩ = some (.int .i64 next) := P2.out.var.cell 2
      have d3 : X2.cell? ⟨G, 3, none⟩ = some (.slice (some ⟨a3, 0, none⟩) qs.length k3) := P2.out.var.cell 3
      have d4 : X2.cell? ⟨G, 4, none⟩ = some (.slice (some ⟨a4, 0, none⟩) ss.length k4) := P2.out.var.cell 4
      have d5 : X2.cell? ⟨G, 5, none⟩ = some (.int .i64 got) := P2.out.var.cell 5
      have d6 : X2.cell? ⟨G, 6, none⟩ = some (.slice (some ⟨a6, 0, none⟩) es.length k6) := P2.out.var.cell 6
      have d7 : X2.cell? ⟨G, 7, none⟩ = some (.slice (some ⟨a7, 0, none⟩) os.length k7) := P2.out.var.cell 7
      have d8 : X2.cell? ⟨G, 8, none⟩ = some (.slice (some ⟨a8, 0, none⟩) xs.length k8) := P2.out.var.cell 8
      have g0 := P2.out.res.free 0
      have g1 := P2.out.res.free 1
      have g2 := P2.out.res.free 2
      have g3 := P2.out.res.free 3
      have g4 := P2.out.res.free 4
      have g5 := P2.out.res.free 5
      have g6 := P2.out.res.free 6
      have g7 := P2.out.res.free 7
      have g8 := P2.out.res.free 8
      have y0 : X2.cell? ⟨w.heap.size + 1, 0, none⟩ = some (.int .i64 0) := P2.out.res.cell 0
      have y1 : X2.cell? ⟨w.heap.size + 1, 1, none⟩ = some (.int .i64 0) := P2.out.res.cell 1
      have y2 : X2.cell? ⟨w.heap.size + 1, 2, none⟩ = some (.int .i64 0) := P2.out.res.cell 2
      have y3 : X2.cell? ⟨w.heap.size + 1, 3, none⟩ = some (.slice none 0 0) := P2.out.res.cell 3
      have y4 : X2.cell? ⟨w.heap.size + 1, 4, none⟩ = some (.slice none 0 0) := P2.out.res.cell 4
      have y5 : X2.cell? ⟨w.heap.size + 1, 5, none⟩ = some (.int .i64 0) := P2.out.res.cell 5
      have y6 : X2.cell? ⟨w.heap.size + 1, 6, none⟩ = some (.slice none 0 0) := P2.out.res.cell 6
      have y7 : X2.cell? ⟨w.heap.size + 1, 7, none⟩ = some (.slice none 0 0) := P2.out.res.cell 7
      have y8 : X2.cell? ⟨w.heap.size + 1, 8, none⟩ = some (.slice none 0 0) := P2.out.res.cell 8
      have R9 := set_nine (p0 := .int .i64 me) (p1 := .int .i64 peer) (p2 := .int .i64 next) (p3 := .slice (some ⟨a3, 0, none⟩) qs.length k3) (p4 := .slice (some ⟨a4, 0, none⟩) ss.length k4) (p5 := .int .i64 got) (p6 := .slice (some ⟨a6, 0, none⟩) es.length k6) (p7 := .slice (some ⟨a7, 0, none⟩) os.length k7) (p8 := .slice (some ⟨a8, 0, none⟩) xs.length k8) P2.out.res
      have j0 := R9.cell 0
      have j1 := R9.cell 1
      have j2 := R9.cell 2
      have j3 := R9.cell 3
      have j4 := R9.cell 4
      have j5 := R9.cell 5
      have j6 := R9.cell 6
      have j7 := R9.cell 7
      have j8 := R9.cell 8
      have O9 := only_nine X2 (w.heap.size + 1) (.int .i64 me) (.int .i64 peer) (.int .i64 next) (.slice (some ⟨a3, 0, none⟩) qs.length k3) (.slice (some ⟨a4, 0, none⟩) ss.length k4) (.int .i64 got) (.slice (some ⟨a6, 0, none⟩) es.length k6) (.slice (some ⟨a7, 0, none⟩) os.length k7) (.slice (some ⟨a8, 0, none⟩) xs.length k8)
      have FIN := Lib.hid (P2.out.below.trans (only_below O9 (by omega) P2.out.below.size))
      have FCO := Lib.hid (CO2.out.only O9 P2.out.res (by decide) (by decide) (by decide) (by decide))
      clear R9 O9
      go_wp2_with fail
      exact bodyPost_ret (v := .tuple #[.agg #[.int .i64 me, .int .i64 peer, .int .i64 next, .slice (some ⟨a3, 0, none⟩) qs.length k3, .slice (some ⟨a4, 0, none⟩) ss.length k4, .int .i64 got, .slice (some ⟨a6, 0, none⟩) es.length k6, .slice (some ⟨a7, 0, none⟩) os.length k7, .slice (some ⟨a8, 0, none⟩) xs.length k8], .bool false]) (by simp [results, Try.results17, go_sem, j0, j1, j2, j3, j4, j5, j6, j7, j8]) rfl (by rw [HQQ.out]; exact ⟨_, _, _, _, _, _, _, _, _, _, rfl, FCO.out, FIN.out⟩)

end Go.Proofs.Ythljmjbmmgligar
