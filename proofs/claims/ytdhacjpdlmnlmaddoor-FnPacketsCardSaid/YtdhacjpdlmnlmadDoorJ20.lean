/-
  A text that is drawn as another one, spoilt or not.
  What the laws of packets draw.
-/
import Derived.Test.YtdhacjpdlmnlmadDoorJ17
import Derived.Deep.RegionHeld3
import Derived.BigQuiet
import Derived.Deep.QuietTactic
import Derived.Test.YtdhacjpdlmnlmadDoorJ19
namespace Go.Proofs.YtdhacjpdlmnlmadDoor
open Go.RowKit

set_option maxRecDepth 100000 in
set_option maxHeartbeats 1600000 in
theorem spoilt_any {c : Nat} {a : Option Addr} {len cap : Nat} (s : ByteArray) (hs : s.size ≤ 1000) (w : World) (H : Cur c a len cap w) :
    Calls Tryd.prog 30 #[.pointer (some ⟨c, 0, none⟩), .string s] w fun e w' => ∃ t : ByteArray, t.size ≤ 1001 ∧ e = .returned (.string t) ∧ Cur c a len cap w' ∧ Only c w w' := by
  have HC := Lib.hid H
  clear H
  go_enter Tryd.func30, Tryd.ntmps30
  go_wp2_with fail
  refine (below_any 12 (by omega) (by omega) _ HC.out).mono ?_
  rintro e w1 ⟨x, x0, x1, rfl, hc1, ho1⟩
  have HC1 := Lib.hid hc1
  have HO1 := Lib.hid ho1
  clear hc1 ho1
  have h4 : x = 0 ∨ x = 1 ∨ x = 2 ∨ x = 3 ∨ 4 ≤ x := by omega
  rcases h4 with rfl | rfl | rfl | rfl | hx4
  · go_wp2_with fail
    refine (text_any 1 (by omega) _ HC1.out).mono ?_
    rintro e w2 ⟨l, hl, rfl, hc2, ho2⟩
    have HC2 := Lib.hid hc2
    have HO2 := Lib.hid (HO1.out.trans ho2)
    obtain ⟨A, hA, AA⟩ : ∃ A : ByteArray, A.size = 1 ∧ Hid (A = ⟨l.toArray⟩) := ⟨_, by show l.toArray.size = 1; simpa using hl, rfl⟩
    rw [← AA.out]
    have h9 : ¬ (9223372036854775807 < s.size + A.size) := by omega
    clear hc2 ho2 hl
    go_wp2_with fail
    go_ret
    exact ⟨s ++ A, by rw [ByteArray.size_append]; omega, rfl, HC2.out, HO2.out⟩
  · go_wp2_with fail
    refine (below_any ((s.size : Int) + 1) (by omega) (by omega) _ HC1.out).mono ?_
    rintro e w2 ⟨y, y0, y1, rfl, hc2, ho2⟩
    have HC2 := Lib.hid hc2
    have HO2 := Lib.hid (HO1.out.trans ho2)
    obtain ⟨k, rfl⟩ := Int.eq_ofNat_of_zero_le y0
    have hk : (k : Int) ≤ (s.size : Int) := by omega
    clear hc2 ho2
    go_wp2_with fail
    go_ret
    exact ⟨_, by rw [ByteArray.size_extract]; omega, rfl, HC2.out, HO2.out⟩
  · by_cases h0 : 0 < (s.size : Int)
    · go_wp2_with fail
      refine (below_any (s.size : Int) (by omega) (by omega) _ HC1.out).mono ?_
      rintro e w2 ⟨y, y0, y1, rfl, hc2, ho2⟩
      have S2 : Hid (Cur c a len cap w2 ∧ Only c w w2) := ⟨hc2, HO1.out.trans ho2⟩
      obtain ⟨k, rfl⟩ := Int.eq_ofNat_of_zero_le y0
      have hk : (k : Int) ≤ (s.size : Int) := by omega
      have hk1 : (k : Int) + 1 ≤ (s.size : Int) := by omega
      have hkw : IntKind.i64.wrap ((k : Int) + 1) = (k : Int) + 1 := by rw [IntKind.wrap_i64]; omega
      have hk3 : ((k : Int) + 1).toNat = k + 1 := by omega
      have hk4 : (0 : Int) ≤ (k : Int) + 1 := by omega
      obtain ⟨p1, hp1⟩ : ∃ p, s.extract 0 k = p := ⟨_, rfl⟩
      obtain ⟨p2, hp2⟩ : ∃ p, s.extract (k + 1) s.size = p := ⟨_, rfl⟩
      have q1 : p1.size ≤ s.size := by rw [← hp1, ByteArray.size_extract]; omega
      have q3 : p1.size + p2.size ≤ s.size := by rw [← hp1, ← hp2, ByteArray.size_extract, ByteArray.size_extract]; omega
      have K : Hid (∀ X, (Cur c a len cap X ∧ Only c w X) → Calls Tryd.prog 50 #[.pointer (some ⟨c, 0, none⟩), .int .i64 1] X fun e Y => ∃ B : ByteArray, B.size = 1 ∧ e = .returned (.string B) ∧ (Cur c a len cap Y ∧ Only c w Y)) := fun X hX => by
        refine (text_any 1 (by omega) X hX.1).mono ?_
        rintro e Y ⟨l, hl, rfl, hc, ho⟩
        exact ⟨⟨l.toArray⟩, by show l.toArray.size = 1; simpa using hl, rfl, hc, hX.2.trans ho⟩
      clear hc2 ho2
      go_wp2_with fail
      go_region_held3 (fun X => Cur c a len cap X ∧ Only c w X) (first | (with_reducible assumption) | (with_reducible exact ⟨Cur.below S2.out.1 (Below.drew (Below.refl _ _)), Only.trans S2.out.2 (Only.of_below (Below.drew (Below.refl _ _)))⟩)) (first | (go_at_call 50; refine (K.out _ (by assumption)).mono ?_; rintro e v1 ⟨B, hB, rfl, hS⟩; have m1 : ∀ X, (Op.stringOp .add p1 B).run Tryd.prog X = .ok (.string (p1 ++ B)) X := (fun X => run_string_add_sum X p1 B (by omega)); have m2 : ∀ X, (Op.stringOp .add (p1 ++ B) p2).run Tryd.prog X = .ok (.string (p1 ++ B ++ p2)) X := (fun X => run_string_add_sum X (p1 ++ B) p2 (by rw [ByteArray.size_append]; omega))))
      all_goals
        go_wp2_with fail
        go_ret
        exact ⟨p1 ++ B ++ p2, by rw [ByteArray.size_append, ByteArray.size_append]; omega, rfl, hS.1, hS.2⟩
    · go_wp2_with fail
      go_ret
      exact ⟨s, by omega, rfl, HC1.out, HO1.out⟩
  · by_cases h0 : 0 < (s.size : Int)
    · go_wp2_with fail
      refine (below_any (s.size : Int) (by omega) (by omega) _ HC1.out).mono ?_
      rintro e w2 ⟨y, y0, y1, rfl, hc2, ho2⟩
      have S2 : Hid (Cur c a len cap w2 ∧ Only c w w2) := ⟨hc2, HO1.out.trans ho2⟩
      obtain ⟨k, rfl⟩ := Int.eq_ofNat_of_zero_le y0
      have hk : (k : Int) ≤ (s.size : Int) := by omega
      have hk1 : (k : Int) + 1 ≤ (s.size : Int) := by omega
      have hkw : IntKind.i64.wrap ((k : Int) + 1) = (k : Int) + 1 := by rw [IntKind.wrap_i64]; omega
      have hk3 : ((k : Int) + 1).toNat = k + 1 := by omega
      have hk4 : (0 : Int) ≤ (k : Int) + 1 := by omega
      obtain ⟨p1, hp1⟩ : ∃ p, s.extract 0 k = p := ⟨_, rfl⟩
      obtain ⟨p2, hp2⟩ : ∃ p, s.extract (k + 1) s.size = p := ⟨_, rfl⟩
      have q1 : p1.size ≤ s.size := by rw [← hp1, ByteArray.size_extract]; omega
      have q3 : p1.size + p2.size ≤ s.size := by rw [← hp1, ← hp2, ByteArray.size_extract, ByteArray.size_extract]; omega
      have K : Hid (∀ X, (Cur c a len cap X ∧ Only c w X) → Calls Tryd.prog 50 #[.pointer (some ⟨c, 0, none⟩), .int .i64 1] X fun e Y => ∃ B : ByteArray, B.size = 1 ∧ e = .returned (.string B) ∧ (Cur c a len cap Y ∧ Only c w Y)) := fun X hX => by
        refine (text_any 1 (by omega) X hX.1).mono ?_
        rintro e Y ⟨l, hl, rfl, hc, ho⟩
        exact ⟨⟨l.toArray⟩, by show l.toArray.size = 1; simpa using hl, rfl, hc, hX.2.trans ho⟩
      clear hc2 ho2
      go_wp2_with fail
      go_region_held3 (fun X => Cur c a len cap X ∧ Only c w X) (first | (with_reducible assumption) | (with_reducible exact ⟨Cur.below S2.out.1 (Below.drew (Below.refl _ _)), Only.trans S2.out.2 (Only.of_below (Below.drew (Below.refl _ _)))⟩)) (first | (go_at_call 50; refine (K.out _ (by assumption)).mono ?_; rintro e v1 ⟨B, hB, rfl, hS⟩; have m1 : ∀ X, (Op.stringOp .add p1 B).run Tryd.prog X = .ok (.string (p1 ++ B)) X := (fun X => run_string_add_sum X p1 B (by omega)); have m2 : ∀ X, (Op.stringOp .add (p1 ++ B) p2).run Tryd.prog X = .ok (.string (p1 ++ B ++ p2)) X := (fun X => run_string_add_sum X (p1 ++ B) p2 (by rw [ByteArray.size_append]; omega))))
      all_goals
        go_wp2_with fail
        go_ret
        exact ⟨p1 ++ B ++ p2, by rw [ByteArray.size_append, ByteArray.size_append]; omega, rfl, hS.1, hS.2⟩
    · go_wp2_with fail
      go_ret
      exact ⟨s, by omega, rfl, HC1.out, HO1.out⟩
  · have d0 : ¬ (x = 0) := by omega
    have d1 : ¬ (x = 1) := by omega
    have d2 : ¬ (x = 2) := by omega
    have d3 : ¬ (x = 3) := by omega
    go_wp2_with fail
    go_ret
    exact ⟨s, by omega, rfl, HC1.out, HO1.out⟩

end Go.Proofs.YtdhacjpdlmnlmadDoor
namespace Go.Proofs.YtdhacjpdlmnlmadDoor
open Go.RowKit

theorem unsealed_small (text : ByteArray) (hs : text.size ≤ 1000) : ∃ (s : ByteArray) (ok : Bool), s.size ≤ 1000 ∧
    ∀ w, Calls Tryd.prog 28 #[.string text] w fun e w' => e = .returned (.tuple #[.string s, .bool ok]) ∧ Below w.heap.size w w' := by
  by_cases h1 : text.size < 4
  · exact ⟨⟨#[]⟩, false, by show 0 ≤ _; omega, fun w => specUnsealed_short text h1 w⟩
  by_cases h3 : (⟨(sealedOf (text.extract 0 (text.size - 4)).data.toList).toArray⟩ : ByteArray) = text
  · exact ⟨_, true, by simp [ByteArray.size_extract]; omega, fun w => specUnsealed_right text (by omega) (by omega) ((unsealed_same text).1 h3) w⟩
  · exact ⟨⟨#[]⟩, false, by show 0 ≤ _; omega, fun w => specUnsealed_wrong text (by omega) (by omega) (fun h => h3 ((unsealed_same text).2 h)) w⟩
theorem PkOkP.few {op key fr dst num : Int} {xs : List Int} {body : ByteArray} (h : PkOkP op key fr dst num xs body) : (pkB (pkOf op key fr dst num xs body)).length ≤ 200 := by
  have hf := h.fits
  have h1 := var_five _ hf.num
  have h2 := var_five _ hf.many
  have h3 := acks_bytes _ hf.acks
  have h4 : (pkOf op key fr dst num xs body).acks.length ≤ 4 := by
    show (xs.map Int.toNat).length ≤ 4
    rw [List.length_map]
    exact h.2.2.2.2.2.1
  have h5 : (pkOf op key fr dst num xs body).body.length ≤ 120 := by
    show body.data.toList.length ≤ 120
    have := h.2.2.2.2.2.2.1
    simpa using this
  unfold pkB
  simp only [List.length_cons, List.length_append]
  omega
theorem sealedOf_size (l : List UInt8) : (⟨(sealedOf l).toArray⟩ : ByteArray).size = l.length + 4 := by
  show (sealedOf l).toArray.size = _
  simp [sealedOf, four_length]
theorem packetText_small (op key fr dst num : Int) (v : Value) (xs : List Int) (body : ByteArray) (hl : xs.length ≤ 4) (hb : body.size ≤ 200) : ∃ (s : ByteArray) (ok : Bool), s.size ≤ 300 ∧
    ∀ w, layIntS.rd w [v] xs → Calls Tryd.prog 26 #[.agg #[.int .i64 op, .int .i64 key, .int .i64 fr, .int .i64 dst, .int .i64 num, v, .string body]] w fun e w' => e = .returned (.tuple #[.string s, .bool ok]) ∧ Below w.heap.size w w' := by
  by_cases hy : PkOkP op key fr dst num xs body
  · refine ⟨_, true, ?_, fun w h => specPacketText_yes op key fr dst num v xs body w h hy⟩
    have := hy.few
    rw [sealedOf_size]
    omega
  · exact ⟨⟨#[]⟩, false, by show 0 ≤ _; omega, fun w h => specPacketText_no op key fr dst num v xs body (by omega) (by omega) w h hy⟩

/-- A drawn packet, as it is handed back. -/
def DrewP (w : World) (e : Ending) (w' : World) : Prop :=
  ∃ (op key fr dst num : Int) (v : Value) (xs : List Int) (body : ByteArray), xs.length ≤ 4 ∧ body.size ≤ 200 ∧ e = .returned (.agg #[.int .i64 op, .int .i64 key, .int .i64 fr, .int .i64 dst, .int .i64 num, v, .string body]) ∧ (∃ f, layIntS.own w' w.heap.size f [v] xs) ∧ Below w.heap.size w w'

set_option maxRecDepth 100000 in
set_option maxHeartbeats 1600000 in
theorem drawPacketText_any (a : Option Addr) (len cap : Nat) (w : World) (H : Src a len w) :
    Calls Tryd.prog 5 #[.slice a len cap] w (DrewP w) := by
  have HS := Lib.hid H
  have A0 := Lib.hid (VarA.new w PkT #[.int .i64 0, .int .i64 0, .int .i64 0, .int .i64 0, .int .i64 0, .slice none 0 0, .string ⟨#[]⟩])
  have B0 := Lib.hid ((Below.refl w.heap.size w).alloc (Nat.le_refl _) (.cells #[.int .i64 0, .int .i64 0, .int .i64 0, .int .i64 0, .int .i64 0, .slice none 0 0, .string ⟨#[]⟩] PkT))
  clear H
  go_enter Tryd.func5, Tryd.ntmps5
  go_upto_region 1 with fail
  generalize w.alloc (.cells #[.int .i64 0, .int .i64 0, .int .i64 0, .int .i64 0, .int .i64 0, .slice none 0 0, .string ⟨#[]⟩] PkT) = Y0 at *
  go_wp2_with fail
  refine (new_any a len cap _ (HS.out.below B0.out)).mono ?_
  rintro e w1 ⟨c, rfl, hc, hcur, hb⟩
  have A1 := Lib.hid (A0.out.next hb)
  have B1 := Lib.hid (B0.out.trans (hb.mono B0.out.size))
  have hyc := A0.out.lt
  clear hb A0 B0
  go_wp2_with fail
  refine (anyPacket_any _ hcur).mono ?_
  rintro e w2 ⟨op, key, fr, dst, num, v, xs, body, hx, hbs, rfl, ⟨f, hown⟩, _, ho⟩
  obtain ⟨va, vc, rfl⟩ : ∃ (va : Option Addr) (vc : Nat), v = .slice va xs.length vc := own_slice hown
  have hs1 := B1.out.size
  have hs0 := A1.out.lt
  have B2 := Lib.hid (B1.out.trans (only_below ho (b := w.heap.size) (by omega) hs1))
  have A2 := A1.out.only ho (by omega)
  have O7 := only_seven w2 w.heap.size (.int .i64 op) (.int .i64 key) (.int .i64 fr) (.int .i64 dst) (.int .i64 num) (.slice va xs.length vc) (.string body)
  have FIN : Hid (DrewP w (.returned (.agg #[.int .i64 op, .int .i64 key, .int .i64 fr, .int .i64 dst, .int .i64 num, .slice va xs.length vc, .string body])) (((((((w2.setCell ⟨w.heap.size, 0, none⟩ (.int .i64 op)).setCell ⟨w.heap.size, 1, none⟩ (.int .i64 key)).setCell ⟨w.heap.size, 2, none⟩ (.int .i64 fr)).setCell ⟨w.heap.size, 3, none⟩ (.int .i64 dst)).setCell ⟨w.heap.size, 4, none⟩ (.int .i64 num)).setCell ⟨w.heap.size, 5, none⟩ (.slice va xs.length vc)).setCell ⟨w.heap.size, 6, none⟩ (.string body))) :=
    ⟨op, key, fr, dst, num, _, xs, body, hx, hbs, rfl, own_seven _ _ _ _ _ _ _ ⟨f, hown⟩ (by omega) hs1, B2.out.trans (only_below O7 (Nat.le_refl _) B2.out.size)⟩
  have g0 := A2.free 0
  have g1 := A2.free 1
  have g2 := A2.free 2
  have g3 := A2.free 3
  have g4 := A2.free 4
  have g5 := A2.free 5
  have g6 := A2.free 6
  have q0 : w2.cell? ⟨w.heap.size, 0, none⟩ = some (.int .i64 0) := A2.cell 0
  have q1 : w2.cell? ⟨w.heap.size, 1, none⟩ = some (.int .i64 0) := A2.cell 1
  have q2 : w2.cell? ⟨w.heap.size, 2, none⟩ = some (.int .i64 0) := A2.cell 2
  have q3 : w2.cell? ⟨w.heap.size, 3, none⟩ = some (.int .i64 0) := A2.cell 3
  have q4 : w2.cell? ⟨w.heap.size, 4, none⟩ = some (.int .i64 0) := A2.cell 4
  have q5 : w2.cell? ⟨w.heap.size, 5, none⟩ = some (.slice none 0 0) := A2.cell 5
  have q6 : w2.cell? ⟨w.heap.size, 6, none⟩ = some (.string ⟨#[]⟩) := A2.cell 6
  have R7 := set_seven (p0 := .int .i64 op) (p1 := .int .i64 key) (p2 := .int .i64 fr) (p3 := .int .i64 dst) (p4 := .int .i64 num) (p5 := .slice va xs.length vc) (p6 := .string body) A2
  have j0 := R7.cell 0
  have j1 := R7.cell 1
  have j2 := R7.cell 2
  have j3 := R7.cell 3
  have j4 := R7.cell 4
  have j5 := R7.cell 5
  have j6 := R7.cell 6
  clear R7 A1 A2 B1 B2 O7 hown ho hcur
  go_wp2_with fail
  exact bodyPost_ret (v := .agg #[.int .i64 op, .int .i64 key, .int .i64 fr, .int .i64 dst, .int .i64 num, .slice va xs.length vc, .string body]) (by simp [results, Tryd.results5, go_sem, j0, j1, j2, j3, j4, j5, j6]) rfl FIN.out

set_option maxRecDepth 100000 in
set_option maxHeartbeats 1600000 in
theorem drawReadPacket_any (a : Option Addr) (len cap : Nat) (w : World) (H : Src a len w) :
    Calls Tryd.prog 11 #[.slice a len cap] w fun e w' => ∃ t : ByteArray, t.size ≤ 1100 ∧ e = .returned (.string t) ∧ Below w.heap.size w w' := by
  have HS := Lib.hid H
  clear H
  go_enter Tryd.func11, Tryd.ntmps11
  go_wp2_with fail
  refine (new_any a len cap _ HS.out).mono ?_
  rintro e w1 ⟨c, rfl, hc, hcur, hb1⟩
  have HC1 := Lib.hid hcur
  have B1 := Lib.hid hb1
  clear hb1 hcur
  go_wp2_with fail
  refine (anyPacket_any _ HC1.out).mono ?_
  rintro e w2 ⟨op, key, fr, dst, num, v, xs, body, hx, hbs, rfl, ⟨f, hown⟩, hc2, ho2⟩
  have HC2 := Lib.hid hc2
  have B2 := Lib.hid (B1.out.trans (only_below ho2 hc B1.out.size))
  obtain ⟨s, ok, hsz, hPT⟩ := packetText_small op key fr dst num v xs body hx hbs
  have KP := Lib.hid (hPT w2 (layIntS.read hown))
  clear hc2 ho2 hPT hown HC1 B1 HS
  go_wp2_with fail
  refine KP.out.mono ?_
  rintro e w3 ⟨rfl, hb3⟩
  have HC3 := Lib.hid (HC2.out.below hb3)
  have B3 := Lib.hid (B2.out.trans (hb3.mono B2.out.size))
  clear hb3 KP HC2 B2
  go_wp2_with fail
  refine (once_any 3 (by omega) (by omega) _ HC3.out).mono ?_
  rintro e w4 ⟨b, rfl, hc4, ho4⟩
  have HC4 := Lib.hid hc4
  have B4 := Lib.hid (B3.out.trans (only_below ho4 hc B3.out.size))
  clear hc4 ho4 HC3 B3
  cases b
  · go_wp2_with fail
    refine (spoilt_any s (by omega) _ HC4.out).mono ?_
    rintro e w5 ⟨t, ht, rfl, _, ho5⟩
    have B5 := Lib.hid (B4.out.trans (only_below ho5 hc B4.out.size))
    clear ho5
    go_wp2_with fail
    exact bodyPost_ret (by simp [results, Tryd.results11, go_sem]) rfl ⟨t, by omega, rfl, B5.out⟩
  · obtain ⟨u, ok2, hu, hU⟩ := unsealed_small s (by omega)
    have KU := Lib.hid hU
    clear hU
    go_wp2_with fail
    refine (KU.out _).mono ?_
    rintro e w5 ⟨rfl, hb5⟩
    have HC5 := Lib.hid (HC4.out.below hb5)
    have B5 := Lib.hid (B4.out.trans (hb5.mono B4.out.size))
    clear hb5 KU HC4 B4
    cases ok2
    · go_wp2_with fail
      exact bodyPost_ret (by simp [results, Tryd.results11, go_sem]) rfl ⟨s, by omega, rfl, B5.out⟩
    · go_wp2_with fail
      refine (spoilt_any u hu _ HC5.out).mono ?_
      rintro e w6 ⟨t, ht, rfl, _, ho6⟩
      have B6 := Lib.hid (B5.out.trans (only_below ho6 hc B5.out.size))
      have KS := Lib.hid (specSealed_yes t (by omega))
      have hts : (⟨(sealedOf t.data.toList).toArray⟩ : ByteArray).size ≤ 1100 := by rw [sealedOf_size]; show t.data.size + 4 ≤ 1100; have : t.data.size ≤ 1001 := ht; omega
      generalize (⟨(sealedOf t.data.toList).toArray⟩ : ByteArray) = z at *
      clear ho6 B5 HC5
      go_wp2_with fail
      refine (KS.out _).mono ?_
      rintro e w7 ⟨rfl, hb7⟩
      have B7 := Lib.hid (B6.out.trans (hb7.mono B6.out.size))
      clear hb7 KS B6
      go_wp2_with fail
      exact bodyPost_ret (by simp [results, Tryd.results11, go_sem]) rfl ⟨z, hts, rfl, B7.out⟩

end Go.Proofs.YtdhacjpdlmnlmadDoor
