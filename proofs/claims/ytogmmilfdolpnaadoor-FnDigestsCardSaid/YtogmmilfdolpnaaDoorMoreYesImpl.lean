/-
  The program's HashMore of a right hasher.
-/
import Derived.Test.YtogmmilfdolpnaaDoorMoreImpl
namespace Go.Proofs.YtogmmilfdolpnaaDoor
open Go.RowKit

/-- The variables of HashMore, and one of eight words. -/
structure TA (w : World) (t : TypeId) (a b c : Value) (q : Nat) (t8 : TypeId) (us : List Nat) (X : World) : Prop where
  tt : TT w t a b c X
  arr : ArrW q t8 us X
  len : us.length = 8
theorem TA.next {w : World} {t : TypeId} {a b c : Value} {q : Nat} {t8 : TypeId} {us : List Nat} {X Y : World} (h : TA w t a b c q t8 us X) (hb : Below X.heap.size X Y) : TA w t a b c q t8 us Y := ⟨h.tt.next hb, h.arr.next hb, h.len⟩
theorem TA.drew {w : World} {t : TypeId} {a b c : Value} {q : Nat} {t8 : TypeId} {us : List Nat} {X : World} (h : TA w t a b c q t8 us X) : TA w t a b c q t8 us X.drew := ⟨h.tt.drew, h.arr.drew, h.len⟩
theorem TA.store {w : World} {t : TypeId} {a b c : Value} {q : Nat} {t8 : TypeId} {us : List Nat} {X : World} (h : TA w t a b c q t8 us X) (x y z : Value) : TA w t a b c q t8 us (((X.setCell ⟨w.heap.size + 1, 0, none⟩ x).setCell ⟨w.heap.size + 1, 1, none⟩ y).setCell ⟨w.heap.size + 1, 2, none⟩ z) := by
  obtain ⟨x0, y0, z0, hr⟩ := h.tt.r
  exact ⟨(h.tt.store x y z).2.2.2.2.2.2.2, h.arr.only (Only.set3 X (w.heap.size + 1) x y z) (fun e => hr.other h.arr h.len e.symm), h.len⟩
theorem TA.nine {w : World} {t : TypeId} {a b c : Value} {q : Nat} {t8 : TypeId} {u0 u1 u2 u3 u4 u5 u6 u7 : Nat} {X : World} (h : TA w t a b c q t8 [u0, u1, u2, u3, u4, u5, u6, u7] X) :
    X.cell? ⟨q, 0, none⟩ = some (.int .u32 u0) ∧ X.cell? ⟨q, 1, none⟩ = some (.int .u32 u1) ∧ X.cell? ⟨q, 2, none⟩ = some (.int .u32 u2) ∧ X.cell? ⟨q, 3, none⟩ = some (.int .u32 u3) ∧ X.cell? ⟨q, 4, none⟩ = some (.int .u32 u4) ∧ X.cell? ⟨q, 5, none⟩ = some (.int .u32 u5) ∧ X.cell? ⟨q, 6, none⟩ = some (.int .u32 u6) ∧ X.cell? ⟨q, 7, none⟩ = some (.int .u32 u7) ∧ X.cell? ⟨w.heap.size, 2, none⟩ = some c ∧ TA w t a b c q t8 [u0, u1, u2, u3, u4, u5, u6, u7] X :=
  ⟨h.arr.cell 0 (by show 0 < 8; decide), h.arr.cell 1 (by show 1 < 8; decide), h.arr.cell 2 (by show 2 < 8; decide), h.arr.cell 3 (by show 3 < 8; decide), h.arr.cell 4 (by show 4 < 8; decide), h.arr.cell 5 (by show 5 < 8; decide), h.arr.cell 6 (by show 6 < 8; decide), h.arr.cell 7 (by show 7 < 8; decide), h.tt.v.c2, h⟩
theorem keep_TA {P : Program} {f : FuncId} {args : Array Value} {r : Ending} {w : World} {t : TypeId} {a b c : Value} {q : Nat} {t8 : TypeId} {u0 u1 u2 u3 u4 u5 u6 u7 : Nat} (hc : ∀ X, Calls P f args X fun e X' => e = r ∧ Below X.heap.size X X') (X : World)
    (h : X.cell? ⟨q, 0, none⟩ = some (.int .u32 u0) ∧ X.cell? ⟨q, 1, none⟩ = some (.int .u32 u1) ∧ X.cell? ⟨q, 2, none⟩ = some (.int .u32 u2) ∧ X.cell? ⟨q, 3, none⟩ = some (.int .u32 u3) ∧ X.cell? ⟨q, 4, none⟩ = some (.int .u32 u4) ∧ X.cell? ⟨q, 5, none⟩ = some (.int .u32 u5) ∧ X.cell? ⟨q, 6, none⟩ = some (.int .u32 u6) ∧ X.cell? ⟨q, 7, none⟩ = some (.int .u32 u7) ∧ X.cell? ⟨w.heap.size, 2, none⟩ = some c ∧ TA w t a b c q t8 [u0, u1, u2, u3, u4, u5, u6, u7] X) :
    Calls P f args X fun e Y => e = r ∧ Y.cell? ⟨q, 0, none⟩ = some (.int .u32 u0) ∧ Y.cell? ⟨q, 1, none⟩ = some (.int .u32 u1) ∧ Y.cell? ⟨q, 2, none⟩ = some (.int .u32 u2) ∧ Y.cell? ⟨q, 3, none⟩ = some (.int .u32 u3) ∧ Y.cell? ⟨q, 4, none⟩ = some (.int .u32 u4) ∧ Y.cell? ⟨q, 5, none⟩ = some (.int .u32 u5) ∧ Y.cell? ⟨q, 6, none⟩ = some (.int .u32 u6) ∧ Y.cell? ⟨q, 7, none⟩ = some (.int .u32 u7) ∧ Y.cell? ⟨w.heap.size, 2, none⟩ = some c ∧ TA w t a b c q t8 [u0, u1, u2, u3, u4, u5, u6, u7] Y :=
  (hc X).mono fun _ _ ⟨he, hb⟩ => ⟨he, (h.2.2.2.2.2.2.2.2.2.next hb).nine⟩
/-- The new variable stays as it is in a call. -/
theorem freshB (v1 v2 : World) (cs : Array Value) (t : TypeId) (hb : Below (v1.alloc (.cells cs t)).heap.size (v1.alloc (.cells cs t)) v2) : v2.heap[v1.heap.size]? = some (.cells cs t (0, 0)) := by
  rw [hb.block v1.heap.size (by simp)]
  exact heap_alloc_new v1 _
theorem freshA (w1 v1 : World) (cs : Array Value) (t : TypeId) (hb : Below (w1.alloc (.cells cs t)).drew.heap.size (w1.alloc (.cells cs t)).drew v1) : v1.heap[w1.heap.size]? = some (.cells cs t (0, 0)) := freshB w1 v1 cs t ⟨hb.os, hb.tape, hb.output, hb.size, hb.block⟩
theorem freshC (w1 v1 : World) (cs : Array Value) (t : TypeId) (hb : Below (w1.drew.alloc (.cells cs t)).heap.size (w1.drew.alloc (.cells cs t)) v1) : v1.heap[w1.heap.size]? = some (.cells cs t (0, 0)) := freshB w1.drew v1 cs t hb
theorem more_state (st rest s : ByteArray) : eatUp (wordsOf st.data.toList) (rest ++ s).data.toList ((rest ++ s).size / 64) = moreState st rest s := by
  unfold moreState
  rw [ByteArray.size_append]
  congr 1
theorem more_rest (rest s : ByteArray) : (rest ++ s).extract (64 * ((rest ++ s).size / 64)) (rest ++ s).size = ⟨(moreRest rest s).toArray⟩ := by
  apply ByteArray.ext
  apply Array.ext'
  unfold moreRest
  rw [ByteArray.data_extract, Array.toList_extract, List.extract_eq_take_drop, ByteArray.size_append]
  simp only [ByteArray.data_append, Array.toList_append]
  rw [List.take_of_length_le (by simp)]

set_option maxRecDepth 100000 in
set_option maxHeartbeats 4000000 in
theorem implHashMore_yes (st rest : ByteArray) (n : Int) (s : ByteArray) (h : HOk st rest n) (hn : n + (s.size : Int) ≤ 1000000000) (hs : s.size ≤ 500000000) (w : World) (hK : LaidK w) :
    Calls Tryd.prog 27 #[.agg #[.string st, .string rest, .int .i64 n], .string s] w fun e w' => e = .returned (.agg #[.string ⟨(bytesOf (moreState st rest s)).toArray⟩, .string ⟨(moreRest rest s).toArray⟩, .int .i64 (n + (s.size : Int))]) ∧ Below w.heap.size w w' := by
  have H0 := Lib.hid (implHasherOk_yes st rest n h)
  obtain ⟨h1, h2, h3, h4, h5⟩ := h
  have HK := Lib.hid hK
  clear hK
  have T0 := Lib.hid (TT.new w 42 (.string st) (.string rest) (.int .i64 n))
  have qc : ¬ (1000000000 - n < (s.size : Int)) := by omega
  have qw : IntKind.i64.wrap (1000000000 - n) = 1000000000 - n := by rw [IntKind.wrap_i64]; omega
  have qa : IntKind.i64.wrap (n + (s.size : Int)) = n + (s.size : Int) := by rw [IntKind.wrap_i64]; omega
  have m1 : ¬ (9223372036854775807 < rest.size + s.size) := by omega
  have m2 : ∀ X, (Op.stringOp .add rest s).run Tryd.prog X = .ok (.string (rest ++ s)) X := fun X => run_string_add_sum X rest s (by omega)
  have hws := wordsOf_words st.data.toList
  have hwl : (wordsOf st.data.toList).length = 8 := by rw [wordsOf_length]; simp; omega
  have hml : (moreState st rest s).length = 8 := eatUp_length _ _ hwl _
  have hmw : Words (moreState st rest s) := eatUp_words _ _ hws _
  have K1 := Lib.hid (keep_TB (w := w) (t := 42) (a := .string st) (b := .string rest) (c := .int .i64 n) (readState_any st h1))
  have k2 := fun X hX => afterBlocks_any (wordsOf st.data.toList) hws hwl (rest ++ s) X hX
  rw [more_state st rest s, more_rest rest s] at k2
  obtain ⟨ms, MS⟩ : ∃ ms, Hid (ms = moreState st rest s) := ⟨_, rfl⟩
  obtain ⟨mr, MR⟩ : ∃ mr : ByteArray, Hid (mr = ⟨(moreRest rest s).toArray⟩) := ⟨_, rfl⟩
  obtain ⟨W0, WW⟩ : ∃ W0, Hid (W0 = wordsOf st.data.toList) := ⟨_, rfl⟩
  have hmr : mr.size ≤ 1000000 := by
    rw [MR.out]
    show (moreRest rest s).toArray.size ≤ _
    unfold moreRest
    rw [List.size_toArray, List.length_drop, List.length_append]
    simp
    omega
  rw [← MS.out, ← MR.out, ← WW.out] at k2
  rw [← MS.out] at hml hmw
  rw [← MS.out, ← MR.out]
  rw [← WW.out] at K1
  have k3 := stateText_any ms hmw hml
  obtain ⟨mt, MT⟩ : ∃ mt : ByteArray, Hid (mt = ⟨(bytesOf ms).toArray⟩) := ⟨_, rfl⟩
  rw [← MT.out] at k3
  rw [← MT.out]
  obtain ⟨u0, u1, u2, u3, u4, u5, u6, u7, rfl⟩ := eight_of ms hml
  have k2' : ∀ X, LaidK X → Calls Tryd.prog 59 #[stV W0, .string (rest ++ s)] X fun e X' => e = .returned (.tuple #[.agg #[.int .u32 u0, .int .u32 u1, .int .u32 u2, .int .u32 u3, .int .u32 u4, .int .u32 u5, .int .u32 u6, .int .u32 u7], .string mr]) ∧ Below X.heap.size X X' := k2
  have K2 : Hid (∀ X, (X.cell? ⟨w.heap.size, 0, none⟩ = some (.string st) ∧ X.cell? ⟨w.heap.size, 1, none⟩ = some (.string rest) ∧ X.cell? ⟨w.heap.size, 2, none⟩ = some (.int .i64 n) ∧ TT w 42 (.string st) (.string rest) (.int .i64 n) X) → Calls Tryd.prog 59 #[stV W0, .string (rest ++ s)] X fun e Y => e = .returned (.tuple #[.agg #[.int .u32 u0, .int .u32 u1, .int .u32 u2, .int .u32 u3, .int .u32 u4, .int .u32 u5, .int .u32 u6, .int .u32 u7], .string mr]) ∧ (Y.cell? ⟨w.heap.size, 0, none⟩ = some (.string st) ∧ Y.cell? ⟨w.heap.size, 1, none⟩ = some (.string rest) ∧ Y.cell? ⟨w.heap.size, 2, none⟩ = some (.int .i64 n) ∧ TT w 42 (.string st) (.string rest) (.int .i64 n) Y) ∧ Below X.heap.size X Y) := fun X hX => by
    refine (k2' X (HK.out.stays hX.2.2.2.below (Nat.le_refl _))).mono ?_
    rintro e Y ⟨rfl, hb⟩
    exact ⟨rfl, (hX.2.2.2.next hb).three, hb⟩
  have K3 : Hid (∀ q X, (X.cell? ⟨q, 0, none⟩ = some (.int .u32 u0) ∧ X.cell? ⟨q, 1, none⟩ = some (.int .u32 u1) ∧ X.cell? ⟨q, 2, none⟩ = some (.int .u32 u2) ∧ X.cell? ⟨q, 3, none⟩ = some (.int .u32 u3) ∧ X.cell? ⟨q, 4, none⟩ = some (.int .u32 u4) ∧ X.cell? ⟨q, 5, none⟩ = some (.int .u32 u5) ∧ X.cell? ⟨q, 6, none⟩ = some (.int .u32 u6) ∧ X.cell? ⟨q, 7, none⟩ = some (.int .u32 u7) ∧ X.cell? ⟨w.heap.size, 2, none⟩ = some (.int .i64 n) ∧ TA w 42 (.string st) (.string rest) (.int .i64 n) q 70 [u0, u1, u2, u3, u4, u5, u6, u7] X) → Calls Tryd.prog 57 #[.agg #[.int .u32 u0, .int .u32 u1, .int .u32 u2, .int .u32 u3, .int .u32 u4, .int .u32 u5, .int .u32 u6, .int .u32 u7]] X fun e Y => e = .returned (.string mt) ∧ Y.cell? ⟨q, 0, none⟩ = some (.int .u32 u0) ∧ Y.cell? ⟨q, 1, none⟩ = some (.int .u32 u1) ∧ Y.cell? ⟨q, 2, none⟩ = some (.int .u32 u2) ∧ Y.cell? ⟨q, 3, none⟩ = some (.int .u32 u3) ∧ Y.cell? ⟨q, 4, none⟩ = some (.int .u32 u4) ∧ Y.cell? ⟨q, 5, none⟩ = some (.int .u32 u5) ∧ Y.cell? ⟨q, 6, none⟩ = some (.int .u32 u6) ∧ Y.cell? ⟨q, 7, none⟩ = some (.int .u32 u7) ∧ Y.cell? ⟨w.heap.size, 2, none⟩ = some (.int .i64 n) ∧ TA w 42 (.string st) (.string rest) (.int .i64 n) q 70 [u0, u1, u2, u3, u4, u5, u6, u7] Y) := fun q => keep_TA (q := q) k3
  have K4 := Lib.hid (fun q => keep_TA (w := w) (t := 42) (a := .string st) (b := .string rest) (c := .int .i64 n) (q := q) (t8 := 70) (u0 := u0) (u1 := u1) (u2 := u2) (u3 := u3) (u4 := u4) (u5 := u5) (u6 := u6) (u7 := u7) (clone_any mr (by omega)))
  clear k3 k2 k2' WW hwl hws hml hmw
  go_enter Tryd.func27, Tryd.ntmps27
  go_wp2_with fail
  refine (H0.out _).mono ?_
  rintro e w1 ⟨rfl, hb1⟩
  have T1 := Lib.hid (T0.out.next hb1)
  have a2 := T1.out.v.c2
  clear hb1 T0 H0
  go_wp2_with fail
  clear a2
  go_region_held3 (fun X => X.cell? ⟨w.heap.size, 0, none⟩ = some (.string st) ∧ X.cell? ⟨w.heap.size, 1, none⟩ = some (.string rest) ∧ X.cell? ⟨w.heap.size, 2, none⟩ = some (.int .i64 n) ∧ TT w 42 (.string st) (.string rest) (.int .i64 n) X) (first | (with_reducible assumption) | (with_reducible exact (TT.drew T1.out).three) | (with_reducible exact (TT.alloc (by assumption) _).three) | (with_reducible exact (TT.alloc (TT.drew T1.out) _).three) | (with_reducible exact (TT.drew (TT.alloc T1.out _)).three)) (first | (go_at_call_of 58 (Value.string st); refine (K1.out _ (by assumption)).mono ?_; rintro e v1 ⟨rfl, hS1, hbR⟩; have hT1 := hS1.2.2.2; first | ((with_reducible have hR1 := freshA w1 v1 _ _ hbR); have hA1 : ArrW w1.heap.size 70 zero8 v1 := ⟨hR1⟩) | ((with_reducible have hR1 := freshC w1 v1 _ _ hbR); have hA1 : ArrW w1.heap.size 70 zero8 v1 := ⟨hR1⟩) | skip) | (go_at_call_of 59 (Value.string (rest ++ s)); refine (K2.out _ (by assumption)).mono ?_; rintro e v2 ⟨rfl, hS2, hbB⟩; have hT2 := hS2.2.2.2; first | (have hA2 := hA1.next hbB; have g0 := hA2.cell 0 (by decide); have g1 := hA2.cell 1 (by decide); have g2 := hA2.cell 2 (by decide); have g3 := hA2.cell 3 (by decide); have g4 := hA2.cell 4 (by decide); have g5 := hA2.cell 5 (by decide); have g6 := hA2.cell 6 (by decide); have g7 := hA2.cell 7 (by decide); have f0 := hA2.free 0; have f1 := hA2.free 1; have f2 := hA2.free 2; have f3 := hA2.free 3; have f4 := hA2.free 4; have f5 := hA2.free 5; have f6 := hA2.free 6; have f7 := hA2.free 7; obtain ⟨hT5, hA5⟩ := TT.eight hT2 hA2 rfl T1.out.below.size u0 u1 u2 u3 u4 u5 u6 u7; have hS5 := hT5.three) | ((with_reducible have hR2 := freshB v1 v2 _ _ hbB); have hA2 : ArrW v1.heap.size 70 zero8 v2 := ⟨hR2⟩; have g0 := hA2.cell 0 (by decide); have g1 := hA2.cell 1 (by decide); have g2 := hA2.cell 2 (by decide); have g3 := hA2.cell 3 (by decide); have g4 := hA2.cell 4 (by decide); have g5 := hA2.cell 5 (by decide); have g6 := hA2.cell 6 (by decide); have g7 := hA2.cell 7 (by decide); have f0 := hA2.free 0; have f1 := hA2.free 1; have f2 := hA2.free 2; have f3 := hA2.free 3; have f4 := hA2.free 4; have f5 := hA2.free 5; have f6 := hA2.free 6; have f7 := hA2.free 7; obtain ⟨hT5, hA5⟩ := TT.eight hT2 hA2 rfl hT1.below.size u0 u1 u2 u3 u4 u5 u6 u7; have hS5 := hT5.three) | skip))
  · have HTA : Hid (TA w 42 (.string st) (.string rest) (.int .i64 n) v2.heap.size 70 [u0, u1, u2, u3, u4, u5, u6, u7] (v2.alloc (.cells #[.int .u32 u0, .int .u32 u1, .int .u32 u2, .int .u32 u3, .int .u32 u4, .int .u32 u5, .int .u32 u6, .int .u32 u7] 70))) := ⟨TT.alloc hT2 _, ArrW.new v2 70 [u0, u1, u2, u3, u4, u5, u6, u7], rfl⟩
    clear K1 K2
    go_wp2_with fail
    go_region_held3 (fun X => X.cell? ⟨v2.heap.size, 0, none⟩ = some (.int .u32 u0) ∧ X.cell? ⟨v2.heap.size, 1, none⟩ = some (.int .u32 u1) ∧ X.cell? ⟨v2.heap.size, 2, none⟩ = some (.int .u32 u2) ∧ X.cell? ⟨v2.heap.size, 3, none⟩ = some (.int .u32 u3) ∧ X.cell? ⟨v2.heap.size, 4, none⟩ = some (.int .u32 u4) ∧ X.cell? ⟨v2.heap.size, 5, none⟩ = some (.int .u32 u5) ∧ X.cell? ⟨v2.heap.size, 6, none⟩ = some (.int .u32 u6) ∧ X.cell? ⟨v2.heap.size, 7, none⟩ = some (.int .u32 u7) ∧ X.cell? ⟨w.heap.size, 2, none⟩ = some (.int .i64 n) ∧ TA w 42 (.string st) (.string rest) (.int .i64 n) v2.heap.size 70 [u0, u1, u2, u3, u4, u5, u6, u7] X) (first | (with_reducible assumption) | (with_reducible exact (TA.drew HTA.out).nine)) (first | (go_at_call 57; refine (K3.out _ _ (by assumption)).mono ?_; rintro e x1 ⟨rfl, hS⟩; obtain ⟨⟨p0, g0⟩, ⟨p1, g1⟩, ⟨p2, g2⟩, f0, f1, f2, hE, hT⟩ := TT.store hS.2.2.2.2.2.2.2.2.2.tt (.string mt) (.string mr) (.int .i64 (n + (s.size : Int))); have hS2 := (TA.store hS.2.2.2.2.2.2.2.2.2 (.string mt) (.string mr) (.int .i64 (n + (s.size : Int)))).nine) | (go_at_call 51; refine (K4.out _ _ (by assumption)).mono ?_; rintro e x1 ⟨rfl, hS⟩; obtain ⟨⟨p0, g0⟩, ⟨p1, g1⟩, ⟨p2, g2⟩, f0, f1, f2, hE, hT⟩ := TT.store hS.2.2.2.2.2.2.2.2.2.tt (.string mt) (.string mr) (.int .i64 (n + (s.size : Int))); have hS2 := (TA.store hS.2.2.2.2.2.2.2.2.2 (.string mt) (.string mr) (.int .i64 (n + (s.size : Int)))).nine))
    all_goals
      go_wp2_with fail
      have d0 := hE.c0
      have d1 := hE.c1
      have d2 := hE.c2
      refine bodyPost_ret (v := .agg #[.string mt, .string mr, .int .i64 (n + (s.size : Int))]) (by simp [results, Tryd.results27, go_sem, d0, d1, d2]) rfl ⟨rfl, ?_⟩
      exact hT.below
  · have HTA := Lib.hid (TA.mk hT5 hA5 rfl)
    clear hT5 hA5 hS5 hA2 hR2 g0 g1 g2 g3 g4 g5 g6 g7 f0 f1 f2 f3 f4 f5 f6 f7
    clear K1 K2
    go_wp2_with fail
    go_region_held3 (fun X => X.cell? ⟨v1.heap.size, 0, none⟩ = some (.int .u32 u0) ∧ X.cell? ⟨v1.heap.size, 1, none⟩ = some (.int .u32 u1) ∧ X.cell? ⟨v1.heap.size, 2, none⟩ = some (.int .u32 u2) ∧ X.cell? ⟨v1.heap.size, 3, none⟩ = some (.int .u32 u3) ∧ X.cell? ⟨v1.heap.size, 4, none⟩ = some (.int .u32 u4) ∧ X.cell? ⟨v1.heap.size, 5, none⟩ = some (.int .u32 u5) ∧ X.cell? ⟨v1.heap.size, 6, none⟩ = some (.int .u32 u6) ∧ X.cell? ⟨v1.heap.size, 7, none⟩ = some (.int .u32 u7) ∧ X.cell? ⟨w.heap.size, 2, none⟩ = some (.int .i64 n) ∧ TA w 42 (.string st) (.string rest) (.int .i64 n) v1.heap.size 70 [u0, u1, u2, u3, u4, u5, u6, u7] X) (first | (with_reducible assumption) | (with_reducible exact (TA.drew HTA.out).nine)) (first | (go_at_call 57; refine (K3.out _ _ (by assumption)).mono ?_; rintro e x1 ⟨rfl, hS⟩; obtain ⟨⟨p0, g0⟩, ⟨p1, g1⟩, ⟨p2, g2⟩, f0, f1, f2, hE, hT⟩ := TT.store hS.2.2.2.2.2.2.2.2.2.tt (.string mt) (.string mr) (.int .i64 (n + (s.size : Int))); have hS2 := (TA.store hS.2.2.2.2.2.2.2.2.2 (.string mt) (.string mr) (.int .i64 (n + (s.size : Int)))).nine) | (go_at_call 51; refine (K4.out _ _ (by assumption)).mono ?_; rintro e x1 ⟨rfl, hS⟩; obtain ⟨⟨p0, g0⟩, ⟨p1, g1⟩, ⟨p2, g2⟩, f0, f1, f2, hE, hT⟩ := TT.store hS.2.2.2.2.2.2.2.2.2.tt (.string mt) (.string mr) (.int .i64 (n + (s.size : Int))); have hS2 := (TA.store hS.2.2.2.2.2.2.2.2.2 (.string mt) (.string mr) (.int .i64 (n + (s.size : Int)))).nine))
    all_goals
      go_wp2_with fail
      have d0 := hE.c0
      have d1 := hE.c1
      have d2 := hE.c2
      refine bodyPost_ret (v := .agg #[.string mt, .string mr, .int .i64 (n + (s.size : Int))]) (by simp [results, Tryd.results27, go_sem, d0, d1, d2]) rfl ⟨rfl, ?_⟩
      exact hT.below
  · have HTA := Lib.hid (TA.mk hT5 hA5 rfl)
    clear hT5 hA5 hS5 hA2 g0 g1 g2 g3 g4 g5 g6 g7 f0 f1 f2 f3 f4 f5 f6 f7
    clear K1 K2
    go_wp2_with fail
    go_region_held3 (fun X => X.cell? ⟨w1.heap.size, 0, none⟩ = some (.int .u32 u0) ∧ X.cell? ⟨w1.heap.size, 1, none⟩ = some (.int .u32 u1) ∧ X.cell? ⟨w1.heap.size, 2, none⟩ = some (.int .u32 u2) ∧ X.cell? ⟨w1.heap.size, 3, none⟩ = some (.int .u32 u3) ∧ X.cell? ⟨w1.heap.size, 4, none⟩ = some (.int .u32 u4) ∧ X.cell? ⟨w1.heap.size, 5, none⟩ = some (.int .u32 u5) ∧ X.cell? ⟨w1.heap.size, 6, none⟩ = some (.int .u32 u6) ∧ X.cell? ⟨w1.heap.size, 7, none⟩ = some (.int .u32 u7) ∧ X.cell? ⟨w.heap.size, 2, none⟩ = some (.int .i64 n) ∧ TA w 42 (.string st) (.string rest) (.int .i64 n) w1.heap.size 70 [u0, u1, u2, u3, u4, u5, u6, u7] X) (first | (with_reducible assumption) | (with_reducible exact (TA.drew HTA.out).nine)) (first | (go_at_call 57; refine (K3.out _ _ (by assumption)).mono ?_; rintro e x1 ⟨rfl, hS⟩; obtain ⟨⟨p0, g0⟩, ⟨p1, g1⟩, ⟨p2, g2⟩, f0, f1, f2, hE, hT⟩ := TT.store hS.2.2.2.2.2.2.2.2.2.tt (.string mt) (.string mr) (.int .i64 (n + (s.size : Int))); have hS2 := (TA.store hS.2.2.2.2.2.2.2.2.2 (.string mt) (.string mr) (.int .i64 (n + (s.size : Int)))).nine) | (go_at_call 51; refine (K4.out _ _ (by assumption)).mono ?_; rintro e x1 ⟨rfl, hS⟩; obtain ⟨⟨p0, g0⟩, ⟨p1, g1⟩, ⟨p2, g2⟩, f0, f1, f2, hE, hT⟩ := TT.store hS.2.2.2.2.2.2.2.2.2.tt (.string mt) (.string mr) (.int .i64 (n + (s.size : Int))); have hS2 := (TA.store hS.2.2.2.2.2.2.2.2.2 (.string mt) (.string mr) (.int .i64 (n + (s.size : Int)))).nine))
    all_goals
      go_wp2_with fail
      have d0 := hE.c0
      have d1 := hE.c1
      have d2 := hE.c2
      refine bodyPost_ret (v := .agg #[.string mt, .string mr, .int .i64 (n + (s.size : Int))]) (by simp [results, Tryd.results27, go_sem, d0, d1, d2]) rfl ⟨rfl, ?_⟩
      exact hT.below

end Go.Proofs.YtogmmilfdolpnaaDoor
