/-
  The program's ChanOk.
-/
import Derived.Test.YthljmjbmmgligarJ25
import Derived.Test.YthljmjbmmgligarJ26
import Derived.Test.YthljmjbmmgligarJ17
namespace Go.Proofs.Ythljmjbmmgligar
open Go.RowKit

theorem exists_bool (p : Prop) : ∃ c : Bool, Hid (c = true ↔ p) := by
  by_cases h : p
  · exact ⟨true, Lib.hid ⟨fun _ => h, fun _ => rfl⟩⟩
  · exact ⟨false, Lib.hid ⟨fun e => (by cases e), fun e => absurd e h⟩⟩

set_option maxRecDepth 100000 in
set_option maxHeartbeats 6400000 in
theorem implChanOk_bool (me peer next got : Int) (vq vs ve vo vx : Value) (qs : List ByteArray) (ss : List PendingD) (es : List EarlyD) (os : List Int) (xs : List ByteArray) (b : Bool) (hb : b = true ↔ ChanP me peer next got qs ss es os xs) (lq : qs.length ≤ 100000000) (ls : ss.length ≤ 100000000) (le : es.length ≤ 100000000) (lo : os.length ≤ 100000000) (lx : xs.length ≤ 100000000) (w : World) (hq : layStringS.rd w [vq] qs) (hs : layPendingS.rd w [vs] ss) (he : layEarlyS.rd w [ve] es) (ho : layIntS.rd w [vo] os) (hx : layStringS.rd w [vx] xs) :
    Calls Try.prog 16 #[.agg #[.int .i64 me, .int .i64 peer, .int .i64 next, vq, vs, .int .i64 got, ve, vo, vx]] w fun e w' => e = .returned (.bool b) ∧ Below w.heap.size w w' := by
  obtain ⟨qa, qc, rfl⟩ := rows_form hq
  obtain ⟨sa, sc, rfl⟩ := rows_form hs
  obtain ⟨ea, ec, rfl⟩ := rows_form he
  obtain ⟨oa, oc, rfl⟩ := rows_form ho
  obtain ⟨xa, xc, rfl⟩ := rows_form hx
  have HB := Lib.hid hb
  have A0 := Lib.hid (VarA.new w ChanT #[.int .i64 me, .int .i64 peer, .int .i64 next, .slice qa qs.length qc, .slice sa ss.length sc, .int .i64 got, .slice ea es.length ec, .slice oa os.length oc, .slice xa xs.length xc])
  have B0 := Lib.hid ((Below.refl w.heap.size w).alloc (Nat.le_refl _) (.cells #[.int .i64 me, .int .i64 peer, .int .i64 next, .slice qa qs.length qc, .slice sa ss.length sc, .int .i64 got, .slice ea es.length ec, .slice oa os.length oc, .slice xa xs.length xc] ChanT))
  have HQ := Lib.hid (layStringS.below hq B0.out)
  have HS := Lib.hid (layPendingS.below hs B0.out)
  have HE := Lib.hid (layEarlyS.below he B0.out)
  have HO := Lib.hid (layIntS.below ho B0.out)
  have HX := Lib.hid (layStringS.below hx B0.out)
  clear hq hs he ho hx hb
  have HBF : Hid (¬ ChanP me peer next got qs ss es os xs → b = false) := Lib.hid (fun h => by
    cases b with
    | false => rfl
    | true => exact absurd (HB.out.1 rfl) h)
  go_enter Try.func16, Try.ntmps16
  go_upto_region 1 with fail
  generalize w.alloc (.cells #[.int .i64 me, .int .i64 peer, .int .i64 next, .slice qa qs.length qc, .slice sa ss.length sc, .int .i64 got, .slice ea es.length ec, .slice oa os.length oc, .slice xa xs.length xc] ChanT) = Y at *
  have c0 : Y.cell? ⟨w.heap.size, 0, none⟩ = some (.int .i64 me) := A0.out.cell 0
  have c1 : Y.cell? ⟨w.heap.size, 1, none⟩ = some (.int .i64 peer) := A0.out.cell 1
  have c2 : Y.cell? ⟨w.heap.size, 2, none⟩ = some (.int .i64 next) := A0.out.cell 2
  have c3 : Y.cell? ⟨w.heap.size, 3, none⟩ = some (.slice qa qs.length qc) := A0.out.cell 3
  have c4 : Y.cell? ⟨w.heap.size, 4, none⟩ = some (.slice sa ss.length sc) := A0.out.cell 4
  have c5 : Y.cell? ⟨w.heap.size, 5, none⟩ = some (.int .i64 got) := A0.out.cell 5
  have c6 : Y.cell? ⟨w.heap.size, 6, none⟩ = some (.slice ea es.length ec) := A0.out.cell 6
  have c7 : Y.cell? ⟨w.heap.size, 7, none⟩ = some (.slice oa os.length oc) := A0.out.cell 7
  have c8 : Y.cell? ⟨w.heap.size, 8, none⟩ = some (.slice xa xs.length xc) := A0.out.cell 8
  obtain ⟨b0, H0⟩ : ∃ c : Bool, Hid (c = true ↔ (1 ≤ me ∧ me ≤ 99)) := ⟨decide _, Lib.hid decide_eq_true_iff⟩
  obtain ⟨b1, H1⟩ : ∃ c : Bool, Hid (c = true ↔ (1 ≤ peer ∧ peer ≤ 99)) := ⟨decide _, Lib.hid decide_eq_true_iff⟩
  have K0 := Lib.hid (isWho_any me b0 H0.out)
  have K1 := Lib.hid (isWho_any peer b1 H1.out)
  cases b0 with
  | false =>
    obtain rfl := HBF.out (fun h => by cases H0.out.2 h.meR)
    go_wp2_with fail
    refine (K0.out _).mono ?_
    rintro e w1 ⟨rfl, rfl⟩
    go_wp2_with fail
    go_ret
    exact ⟨rfl, B0.out⟩
  | true =>
  cases b1 with
  | false =>
    obtain rfl := HBF.out (fun h => by cases H1.out.2 h.peerR)
    go_wp2_with fail
    refine (K0.out _).mono ?_
    rintro e w1 ⟨rfl, rfl⟩
    go_wp2_with fail
    refine (K1.out _).mono ?_
    rintro e w1 ⟨rfl, rfl⟩
    go_wp2_with fail
    go_ret
    exact ⟨rfl, B0.out⟩
  | true =>
  by_cases hc0 : 0 ≤ next
  case neg =>
    have hd : next < 0 := by omega
    obtain rfl := HBF.out (fun h => hc0 h.nextR.1)
    go_wp2_with fail
    refine (K0.out _).mono ?_
    rintro e w1 ⟨rfl, rfl⟩
    go_wp2_with fail
    refine (K1.out _).mono ?_
    rintro e w1 ⟨rfl, rfl⟩
    go_wp2_with fail
    go_ret
    exact ⟨rfl, B0.out⟩
  have hd0 : ¬ (next < 0) := by omega
  by_cases hc1 : next ≤ 1000
  case neg =>
    have hd : (1000 : Int) < next := by omega
    obtain rfl := HBF.out (fun h => hc1 h.nextR.2)
    go_wp2_with fail
    refine (K0.out _).mono ?_
    rintro e w1 ⟨rfl, rfl⟩
    go_wp2_with fail
    refine (K1.out _).mono ?_
    rintro e w1 ⟨rfl, rfl⟩
    go_wp2_with fail
    go_ret
    exact ⟨rfl, B0.out⟩
  have hd1 : ¬ ((1000 : Int) < next) := by omega
  by_cases hc2 : 0 ≤ got
  case neg =>
    have hd : got < 0 := by omega
    obtain rfl := HBF.out (fun h => hc2 h.gotR.1)
    go_wp2_with fail
    refine (K0.out _).mono ?_
    rintro e w1 ⟨rfl, rfl⟩
    go_wp2_with fail
    refine (K1.out _).mono ?_
    rintro e w1 ⟨rfl, rfl⟩
    go_wp2_with fail
    go_ret
    exact ⟨rfl, B0.out⟩
  have hd2 : ¬ (got < 0) := by omega
  by_cases hc3 : got ≤ 1000
  case neg =>
    have hd : (1000 : Int) < got := by omega
    obtain rfl := HBF.out (fun h => hc3 h.gotR.2)
    go_wp2_with fail
    refine (K0.out _).mono ?_
    rintro e w1 ⟨rfl, rfl⟩
    go_wp2_with fail
    refine (K1.out _).mono ?_
    rintro e w1 ⟨rfl, rfl⟩
    go_wp2_with fail
    go_ret
    exact ⟨rfl, B0.out⟩
  have hd3 : ¬ ((1000 : Int) < got) := by omega
  go_wp2_with fail
  refine (K0.out Y).mono ?_
  rintro e w1 ⟨rfl, rfl⟩
  go_wp2_with fail
  refine (K1.out w1).mono ?_
  rintro e w2 ⟨rfl, rfl⟩
  go_upto_region 3 with fail
  obtain ⟨b2, H2⟩ : ∃ c : Bool, Hid (c = true ↔ TextsOk qs) := exists_bool (TextsOk qs)
  obtain ⟨b3, H3⟩ : ∃ c : Bool, Hid (c = true ↔ TextsOk xs) := exists_bool (TextsOk xs)
  obtain ⟨b4, H4⟩ : ∃ c : Bool, Hid (c = true ↔ SentOk next ss) := exists_bool (SentOk next ss)
  obtain ⟨b5, H5⟩ : ∃ c : Bool, Hid (c = true ↔ EarlyOk got es) := exists_bool (EarlyOk got es)
  obtain ⟨b6, H6⟩ : ∃ c : Bool, Hid (c = true ↔ (os.length ≤ 4 ∧ OwedOk got os)) := exists_bool (os.length ≤ 4 ∧ OwedOk got os)
  have K2 := Lib.hid (areBodies_any qs _ b2 H2.out lq w2 HQ.out)
  have K3 := Lib.hid (areBodies_any xs _ b3 H3.out lx w2 HX.out)
  have K4 := Lib.hid (areSentRight_any me peer next got (.slice qa qs.length qc) _ (.slice ea es.length ec) (.slice oa os.length oc) (.slice xa xs.length xc) ss b4 H4.out (by omega) ls w2 HS.out)
  have K5 := Lib.hid (fun X hX => areEarlyRight_any me peer next got (.slice qa qs.length qc) (.slice sa ss.length sc) _ (.slice oa os.length oc) (.slice xa xs.length xc) es b5 H5.out hc2 (by omega) le X (layEarlyS.below HE.out hX))
  have K6 := Lib.hid (fun X hX => areOwedRight_any me peer next got (.slice qa qs.length qc) (.slice sa ss.length sc) (.slice ea es.length ec) _ (.slice xa xs.length xc) os b6 H6.out hc2 (by omega) lo X (layIntS.below HO.out hX))
  by_cases hc4 : qs.length ≤ 30
  case neg =>
    have hd : (30 : Int) < (qs.length : Int) := by omega
    obtain rfl := HBF.out (fun h => hc4 h.few)
    go_wp2_with fail
    go_ret
    exact ⟨rfl, B0.out⟩
  have hd4 : ¬ ((30 : Int) < (qs.length : Int)) := by omega
  by_cases hc5 : (xs.length : Int) = got
  case neg =>
    have hd : ¬ ((xs.length : Int) = got) := by omega
    obtain rfl := HBF.out (fun h => hc5 h.many)
    go_wp2_with fail
    go_ret
    exact ⟨rfl, B0.out⟩
  cases b2 with
  | false =>
    obtain rfl := HBF.out (fun h => by cases H2.out.2 h.queue)
    go_wp2_with fail
    refine (K2.out).mono ?_
    rintro e w3 ⟨rfl, rfl⟩
    go_wp2_with fail
    go_ret
    exact ⟨rfl, B0.out⟩
  | true =>
  cases b3 with
  | false =>
    obtain rfl := HBF.out (fun h => by cases H3.out.2 h.out)
    go_wp2_with fail
    refine (K2.out).mono ?_
    rintro e w3 ⟨rfl, rfl⟩
    go_wp2_with fail
    refine (K3.out).mono ?_
    rintro e w4 ⟨rfl, rfl⟩
    go_wp2_with fail
    go_ret
    exact ⟨rfl, B0.out⟩
  | true =>
  go_wp2_with fail
  refine (K2.out).mono ?_
  rintro e w3 ⟨rfl, rfl⟩
  go_wp2_with fail
  refine (K3.out).mono ?_
  rintro e w4 ⟨rfl, rfl⟩
  go_wp2_with fail
  refine (K4.out).mono ?_
  rintro e w5 ⟨rfl, hb5⟩
  have B5 := Lib.hid hb5
  have A5 := Lib.hid (A0.out.next hb5)
  have BW5 := Lib.hid (B0.out.trans (hb5.mono B0.out.size))
  clear hb5 c0 c1 c2 c3 c4 c5 c6 c7 c8
  cases b4 with
  | false =>
    obtain rfl := HBF.out (fun h => by cases H4.out.2 h.sent)
    go_wp2_with fail
    go_ret
    exact ⟨rfl, BW5.out⟩
  | true =>
  have f0 : w5.cell? ⟨w.heap.size, 0, none⟩ = some (.int .i64 me) := A5.out.cell 0
  have f1 : w5.cell? ⟨w.heap.size, 1, none⟩ = some (.int .i64 peer) := A5.out.cell 1
  have f2 : w5.cell? ⟨w.heap.size, 2, none⟩ = some (.int .i64 next) := A5.out.cell 2
  have f3 : w5.cell? ⟨w.heap.size, 3, none⟩ = some (.slice qa qs.length qc) := A5.out.cell 3
  have f4 : w5.cell? ⟨w.heap.size, 4, none⟩ = some (.slice sa ss.length sc) := A5.out.cell 4
  have f5 : w5.cell? ⟨w.heap.size, 5, none⟩ = some (.int .i64 got) := A5.out.cell 5
  have f6 : w5.cell? ⟨w.heap.size, 6, none⟩ = some (.slice ea es.length ec) := A5.out.cell 6
  have f7 : w5.cell? ⟨w.heap.size, 7, none⟩ = some (.slice oa os.length oc) := A5.out.cell 7
  have f8 : w5.cell? ⟨w.heap.size, 8, none⟩ = some (.slice xa xs.length xc) := A5.out.cell 8
  go_wp2_with fail
  refine (K5.out w5 B5.out).mono ?_
  rintro e w6 ⟨rfl, hb6⟩
  have B6 := Lib.hid (B5.out.trans (hb6.mono B5.out.size))
  have A6 := Lib.hid (A5.out.next hb6)
  have BW6 := Lib.hid (BW5.out.trans (hb6.mono BW5.out.size))
  clear hb6 f0 f1 f2 f3 f4 f5 f6 f7 f8
  cases b5 with
  | false =>
    obtain rfl := HBF.out (fun h => by cases H5.out.2 h.early)
    go_wp2_with fail
    go_ret
    exact ⟨rfl, BW6.out⟩
  | true =>
  have g0 : w6.cell? ⟨w.heap.size, 0, none⟩ = some (.int .i64 me) := A6.out.cell 0
  have g1 : w6.cell? ⟨w.heap.size, 1, none⟩ = some (.int .i64 peer) := A6.out.cell 1
  have g2 : w6.cell? ⟨w.heap.size, 2, none⟩ = some (.int .i64 next) := A6.out.cell 2
  have g3 : w6.cell? ⟨w.heap.size, 3, none⟩ = some (.slice qa qs.length qc) := A6.out.cell 3
  have g4 : w6.cell? ⟨w.heap.size, 4, none⟩ = some (.slice sa ss.length sc) := A6.out.cell 4
  have g5 : w6.cell? ⟨w.heap.size, 5, none⟩ = some (.int .i64 got) := A6.out.cell 5
  have g6 : w6.cell? ⟨w.heap.size, 6, none⟩ = some (.slice ea es.length ec) := A6.out.cell 6
  have g7 : w6.cell? ⟨w.heap.size, 7, none⟩ = some (.slice oa os.length oc) := A6.out.cell 7
  have g8 : w6.cell? ⟨w.heap.size, 8, none⟩ = some (.slice xa xs.length xc) := A6.out.cell 8
  go_wp2_with fail
  refine (K6.out w6 B6.out).mono ?_
  rintro e w7 ⟨rfl, hb7⟩
  have BW7 := Lib.hid (BW6.out.trans (hb7.mono BW6.out.size))
  clear hb7
  obtain rfl : b = b6 := by
    cases b6 with
    | false => exact HBF.out (fun h => by cases H6.out.2 ⟨h.owes, h.owed⟩)
    | true => exact HB.out.2 ⟨H0.out.1 (by first | rfl | trivial), H1.out.1 (by first | rfl | trivial), ⟨hc0, hc1⟩, hc4, H2.out.1 (by first | rfl | trivial), H4.out.1 (by first | rfl | trivial), ⟨hc2, hc3⟩, hc5, H3.out.1 (by first | rfl | trivial), (H6.out.1 (by first | rfl | trivial)).1, H5.out.1 (by first | rfl | trivial), (H6.out.1 (by first | rfl | trivial)).2⟩
  cases b <;> (go_wp2_with fail; go_ret; exact ⟨rfl, BW7.out⟩)

end Go.Proofs.Ythljmjbmmgligar
