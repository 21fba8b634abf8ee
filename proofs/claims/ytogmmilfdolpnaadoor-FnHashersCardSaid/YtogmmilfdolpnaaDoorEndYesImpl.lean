/-
  The program's HashEnd.
-/
import Derived.Test.YtogmmilfdolpnaaDoorMoreImpl
namespace Go.Proofs.YtogmmilfdolpnaaDoor
open Go.RowKit

set_option maxRecDepth 100000 in
set_option maxHeartbeats 400000 in
theorem implHashEnd_no (st rest : ByteArray) (n : Int) (h : ¬ HOk st rest n) (w : World) :
    Calls Tryd.prog 30 #[.agg #[.string st, .string rest, .int .i64 n]] w fun e w' => e = .returned (.string ⟨#[]⟩) ∧ Below w.heap.size w w' := by
  have H0 := Lib.hid (implHasherOk_no st rest n h)
  have B0 := Lib.hid ((Below.refl w.heap.size w).alloc (Nat.le_refl _) (.cells #[.string st, .string rest, .int .i64 n] 42))
  clear h
  go_enter Tryd.func30, Tryd.ntmps30
  go_wp2_with fail
  refine (H0.out _).mono ?_
  rintro e w1 ⟨rfl, hb1⟩
  have HB1 := Lib.hid (B0.out.trans (hb1.mono B0.out.size))
  clear hb1
  go_wp2_with fail
  go_ret
  exact ⟨rfl, HB1.out⟩

/-- The parameter's variable. -/
structure OV (w : World) (t : TypeId) (a b c : Value) (X : World) : Prop where
  v : VarT w.heap.size t a b c X
  below : Below w.heap.size w X
theorem OV.next {w : World} {t : TypeId} {a b c : Value} {X Y : World} (h : OV w t a b c X) (hb : Below X.heap.size X Y) : OV w t a b c Y := ⟨h.v.next hb, h.below.trans (hb.mono h.below.size)⟩
theorem OV.drew {w : World} {t : TypeId} {a b c : Value} {X : World} (h : OV w t a b c X) : OV w t a b c X.drew := ⟨h.v.drew, h.below.drew⟩
theorem OV.alloc {w : World} {t : TypeId} {a b c : Value} {X : World} (h : OV w t a b c X) (o : Obj) : OV w t a b c (X.alloc o) := h.next ((Below.refl _ _).alloc (Nat.le_refl _) o)
theorem OV.new (w : World) (t : TypeId) (a b c : Value) : OV w t a b c (w.alloc (.cells #[a, b, c] t)) := ⟨VarT.new w t a b c, (Below.refl _ _).alloc (Nat.le_refl _) _⟩
theorem OV.three {w : World} {t : TypeId} {a b c : Value} {X : World} (h : OV w t a b c X) : X.cell? ⟨w.heap.size, 0, none⟩ = some a ∧ X.cell? ⟨w.heap.size, 1, none⟩ = some b ∧ X.cell? ⟨w.heap.size, 2, none⟩ = some c ∧ OV w t a b c X := ⟨h.v.c0, h.v.c1, h.v.c2, h⟩
theorem keep_OV {P : Program} {f : FuncId} {args : Array Value} {r : Ending} {w : World} {t : TypeId} {a b c : Value} (hc : ∀ X, Calls P f args X fun e X' => e = r ∧ Below X.heap.size X X') (X : World) (h : X.cell? ⟨w.heap.size, 0, none⟩ = some a ∧ X.cell? ⟨w.heap.size, 1, none⟩ = some b ∧ X.cell? ⟨w.heap.size, 2, none⟩ = some c ∧ OV w t a b c X) :
    Calls P f args X fun e Y => e = r ∧ (Y.cell? ⟨w.heap.size, 0, none⟩ = some a ∧ Y.cell? ⟨w.heap.size, 1, none⟩ = some b ∧ Y.cell? ⟨w.heap.size, 2, none⟩ = some c ∧ OV w t a b c Y) ∧ Below X.heap.size X Y :=
  (hc X).mono fun _ _ ⟨he, hb⟩ => ⟨he, (h.2.2.2.next hb).three, hb⟩
/-- A new variable of eight words. -/
structure Fresh (w : World) (q : Nat) (t8 : TypeId) (X : World) : Prop where
  arr : ArrW q t8 zero8 X
  ge : w.heap.size ≤ q
theorem Fresh.next {w : World} {q : Nat} {t8 : TypeId} {X Y : World} (h : Fresh w q t8 X) (hb : Below X.heap.size X Y) : Fresh w q t8 Y := ⟨h.arr.next hb, h.ge⟩
theorem newB {w : World} {t : TypeId} {a b c : Value} {V Y : World} {cs : Array Value} {t8 : TypeId} (hT : OV w t a b c V) (hb : Below (V.alloc (.cells cs t8)).heap.size (V.alloc (.cells cs t8)) Y) : Y.heap[V.heap.size]? = some (.cells cs t8 (0, 0)) ∧ w.heap.size ≤ V.heap.size := by
  refine ⟨?_, hT.below.size⟩
  rw [hb.block V.heap.size (by simp)]
  exact heap_alloc_new V _
theorem newA {w : World} {t : TypeId} {a b c : Value} {V Y : World} {cs : Array Value} {t8 : TypeId} (hT : OV w t a b c V) (hb : Below (V.alloc (.cells cs t8)).drew.heap.size (V.alloc (.cells cs t8)).drew Y) : Y.heap[V.heap.size]? = some (.cells cs t8 (0, 0)) ∧ w.heap.size ≤ V.heap.size := newB hT ⟨hb.os, hb.tape, hb.output, hb.size, hb.block⟩
theorem newC {w : World} {t : TypeId} {a b c : Value} {V Y : World} {cs : Array Value} {t8 : TypeId} (hT : OV w t a b c V) (hb : Below (V.drew.alloc (.cells cs t8)).heap.size (V.drew.alloc (.cells cs t8)) Y) : Y.heap[V.heap.size]? = some (.cells cs t8 (0, 0)) ∧ w.heap.size ≤ V.heap.size := newB (V := V.drew) hT.drew hb
theorem OV.eight {w : World} {t t8 : TypeId} {a b c : Value} {q : Nat} {X : World} (h : OV w t a b c X) (hF : Fresh w q t8 X) (u0 u1 u2 u3 u4 u5 u6 u7 : Nat) :
    OV w t a b c ((((((((X.setCell ⟨q, 0, none⟩ (.int .u32 (u0 : Int))).setCell ⟨q, 1, none⟩ (.int .u32 (u1 : Int))).setCell ⟨q, 2, none⟩ (.int .u32 (u2 : Int))).setCell ⟨q, 3, none⟩ (.int .u32 (u3 : Int))).setCell ⟨q, 4, none⟩ (.int .u32 (u4 : Int))).setCell ⟨q, 5, none⟩ (.int .u32 (u5 : Int))).setCell ⟨q, 6, none⟩ (.int .u32 (u6 : Int))).setCell ⟨q, 7, none⟩ (.int .u32 (u7 : Int))) ∧ ArrW q t8 [u0, u1, u2, u3, u4, u5, u6, u7] ((((((((X.setCell ⟨q, 0, none⟩ (.int .u32 (u0 : Int))).setCell ⟨q, 1, none⟩ (.int .u32 (u1 : Int))).setCell ⟨q, 2, none⟩ (.int .u32 (u2 : Int))).setCell ⟨q, 3, none⟩ (.int .u32 (u3 : Int))).setCell ⟨q, 4, none⟩ (.int .u32 (u4 : Int))).setCell ⟨q, 5, none⟩ (.int .u32 (u5 : Int))).setCell ⟨q, 6, none⟩ (.int .u32 (u6 : Int))).setCell ⟨q, 7, none⟩ (.int .u32 (u7 : Int))) := by
  have ho := Only.set8 X q (.int .u32 (u0 : Int)) (.int .u32 (u1 : Int)) (.int .u32 (u2 : Int)) (.int .u32 (u3 : Int)) (.int .u32 (u4 : Int)) (.int .u32 (u5 : Int)) (.int .u32 (u6 : Int)) (.int .u32 (u7 : Int))
  exact ⟨⟨h.v.only ho (h.v.other hF.arr rfl), h.below.trans (ho.below hF.ge h.below.size)⟩, hF.arr.set8 rfl u0 u1 u2 u3 u4 u5 u6 u7⟩

theorem end_state (st rest : ByteArray) (N : Nat) (hr : rest.size = N % 64) : eatUp (wordsOf st.data.toList) (rest ++ ⟨(endL N).toArray⟩).data.toList ((rest ++ ⟨(endL N).toArray⟩).size / 64) = endState st rest N := by
  have e1 : (rest ++ ⟨(endL N).toArray⟩ : ByteArray).data.toList = tailOf rest.data.toList N := by
    rw [tailOf_end rest.data.toList N (by simpa using hr)]
    simp
  have e2 : (rest ++ ⟨(endL N).toArray⟩ : ByteArray).size = (tailOf rest.data.toList N).length := by
    rw [← e1]
    simp
    rfl
  unfold endState
  rw [e2, e1]
theorem endL_length (N : Nat) : (endL N).length ≤ 128 := by
  unfold endL zerosFor
  simp only [List.length_append, List.length_replicate, beUp_length, List.length_cons, List.length_nil]
  omega

set_option maxRecDepth 100000 in
set_option maxHeartbeats 4000000 in
theorem implHashEnd_yes (st rest : ByteArray) (N : Nat) (h : HOk st rest N) (w : World) (hK : LaidK w) :
    Calls Tryd.prog 30 #[.agg #[.string st, .string rest, .int .i64 N]] w fun e w' => e = .returned (.string ⟨(endOf st rest N).toArray⟩) ∧ Below w.heap.size w w' := by
  have H0 := Lib.hid (implHasherOk_yes st rest N h)
  obtain ⟨h1, h2, h3, h4, h5⟩ := h
  have HK := Lib.hid hK
  clear hK
  have T0 := Lib.hid (OV.new w 42 (.string st) (.string rest) (.int .i64 N))
  have hws := wordsOf_words st.data.toList
  have hwl : (wordsOf st.data.toList).length = 8 := by rw [wordsOf_length]; simp; omega
  have hml : (endState st rest N).length = 8 := eatUp_length _ _ hwl _
  have hmw : Words (endState st rest N) := eatUp_words _ _ hws _
  have K1 := Lib.hid (keep_OV (w := w) (t := 42) (a := .string st) (b := .string rest) (c := .int .i64 N) (readState_any st h1))
  have k0 := endingOf_any N (by omega)
  have k2 := fun X hX => afterBlocks_any (wordsOf st.data.toList) hws hwl (rest ++ ⟨(endL N).toArray⟩) X hX
  rw [end_state st rest N (by omega)] at k2
  have hel : (⟨(endL N).toArray⟩ : ByteArray).size ≤ 128 := by show (endL N).toArray.size ≤ 128; rw [List.size_toArray]; exact endL_length N
  obtain ⟨el, EL⟩ : ∃ b : ByteArray, Hid (b = ⟨(endL N).toArray⟩) := ⟨_, rfl⟩
  rw [← EL.out] at k0 k2 hel
  have K0 := Lib.hid (keep_OV (w := w) (t := 42) (a := .string st) (b := .string rest) (c := .int .i64 N) k0)
  have m2 : ∀ X, (Op.stringOp .add rest el).run Tryd.prog X = .ok (.string (rest ++ el)) X := fun X => run_string_add_sum X rest el (by omega)
  obtain ⟨ms, MS⟩ : ∃ ms, Hid (ms = endState st rest N) := ⟨_, rfl⟩
  obtain ⟨mr, MR⟩ : ∃ mr : ByteArray, Hid (mr = (rest ++ el).extract (64 * ((rest ++ el).size / 64)) (rest ++ el).size) := ⟨_, rfl⟩
  obtain ⟨W0, WW⟩ : ∃ W0, Hid (W0 = wordsOf st.data.toList) := ⟨_, rfl⟩
  rw [← MS.out, ← MR.out, ← WW.out] at k2
  rw [← MS.out] at hml hmw
  unfold endOf
  rw [← MS.out]
  rw [← WW.out] at K1
  have k3 := stateText_any ms hmw hml
  obtain ⟨mt, MT⟩ : ∃ mt : ByteArray, Hid (mt = ⟨(bytesOf ms).toArray⟩) := ⟨_, rfl⟩
  rw [← MT.out] at k3
  rw [← MT.out]
  obtain ⟨u0, u1, u2, u3, u4, u5, u6, u7, rfl⟩ := eight_of ms hml
  have k2' : ∀ X, LaidK X → Calls Tryd.prog 59 #[stV W0, .string (rest ++ el)] X fun e X' => e = .returned (.tuple #[.agg #[.int .u32 u0, .int .u32 u1, .int .u32 u2, .int .u32 u3, .int .u32 u4, .int .u32 u5, .int .u32 u6, .int .u32 u7], .string mr]) ∧ Below X.heap.size X X' := k2
  have K2 : Hid (∀ X, (X.cell? ⟨w.heap.size, 0, none⟩ = some (.string st) ∧ X.cell? ⟨w.heap.size, 1, none⟩ = some (.string rest) ∧ X.cell? ⟨w.heap.size, 2, none⟩ = some (.int .i64 N) ∧ OV w 42 (.string st) (.string rest) (.int .i64 N) X) → Calls Tryd.prog 59 #[stV W0, .string (rest ++ el)] X fun e Y => e = .returned (.tuple #[.agg #[.int .u32 u0, .int .u32 u1, .int .u32 u2, .int .u32 u3, .int .u32 u4, .int .u32 u5, .int .u32 u6, .int .u32 u7], .string mr]) ∧ (Y.cell? ⟨w.heap.size, 0, none⟩ = some (.string st) ∧ Y.cell? ⟨w.heap.size, 1, none⟩ = some (.string rest) ∧ Y.cell? ⟨w.heap.size, 2, none⟩ = some (.int .i64 N) ∧ OV w 42 (.string st) (.string rest) (.int .i64 N) Y) ∧ Below X.heap.size X Y) := fun X hX => by
    refine (k2' X (HK.out.stays hX.2.2.2.below (Nat.le_refl _))).mono ?_
    rintro e Y ⟨rfl, hb⟩
    exact ⟨rfl, (hX.2.2.2.next hb).three, hb⟩
  have K3 : Hid (∀ X, Calls Tryd.prog 57 #[.agg #[.int .u32 u0, .int .u32 u1, .int .u32 u2, .int .u32 u3, .int .u32 u4, .int .u32 u5, .int .u32 u6, .int .u32 u7]] X fun e Y => e = .returned (.string mt) ∧ Below X.heap.size X Y) := k3
  clear k3 k2 k2' WW hwl hws hml hmw MR k0 hel h5
  go_enter Tryd.func30, Tryd.ntmps30
  go_wp2_with fail
  refine (H0.out _).mono ?_
  rintro e w1 ⟨rfl, hb1⟩
  have T1 := Lib.hid (T0.out.next hb1)
  clear hb1 T0 H0
  go_wp2_with fail
  go_region_held3 (fun X => X.cell? ⟨w.heap.size, 0, none⟩ = some (.string st) ∧ X.cell? ⟨w.heap.size, 1, none⟩ = some (.string rest) ∧ X.cell? ⟨w.heap.size, 2, none⟩ = some (.int .i64 N) ∧ OV w 42 (.string st) (.string rest) (.int .i64 N) X) (first | (with_reducible assumption) | (with_reducible exact (OV.drew T1.out).three) | (with_reducible exact (OV.alloc (by assumption) _).three) | (with_reducible exact (OV.alloc (OV.drew T1.out) _).three) | (with_reducible exact (OV.drew (OV.alloc T1.out _)).three)) (first | (go_at_call 58; refine (K1.out _ (by assumption)).mono ?_; rintro e v1 ⟨rfl, hS, hb⟩; (first | (have hF := Fresh.next hF hb) | ((with_reducible have hR := newB (by assumption) hb); have hF : Fresh w _ 70 _ := ⟨⟨hR.1⟩, hR.2⟩) | ((with_reducible have hR := newA T1.out hb); have hF : Fresh w _ 70 _ := ⟨⟨hR.1⟩, hR.2⟩) | ((with_reducible have hR := newC T1.out hb); have hF : Fresh w _ 70 _ := ⟨⟨hR.1⟩, hR.2⟩) | skip); have hT := hS.2.2.2) | (go_at_call 60; refine (K0.out _ (by assumption)).mono ?_; rintro e v1 ⟨rfl, hS, hb⟩; (first | (have hF := Fresh.next hF hb) | ((with_reducible have hR := newB (by assumption) hb); have hF : Fresh w _ 70 _ := ⟨⟨hR.1⟩, hR.2⟩) | ((with_reducible have hR := newA T1.out hb); have hF : Fresh w _ 70 _ := ⟨⟨hR.1⟩, hR.2⟩) | ((with_reducible have hR := newC T1.out hb); have hF : Fresh w _ 70 _ := ⟨⟨hR.1⟩, hR.2⟩) | skip); have hT := hS.2.2.2) | (go_at_call 59; refine (K2.out _ (by assumption)).mono ?_; rintro e v3 ⟨rfl, hS, hb⟩; (first | (have hF := Fresh.next hF hb) | ((with_reducible have hR := newB (by assumption) hb); have hF : Fresh w _ 70 _ := ⟨⟨hR.1⟩, hR.2⟩) | ((with_reducible have hR := newA T1.out hb); have hF : Fresh w _ 70 _ := ⟨⟨hR.1⟩, hR.2⟩) | ((with_reducible have hR := newC T1.out hb); have hF : Fresh w _ 70 _ := ⟨⟨hR.1⟩, hR.2⟩) | skip); have hT := hS.2.2.2; first | (have g0 := hF.arr.cell 0 (by decide); have g1 := hF.arr.cell 1 (by decide); have g2 := hF.arr.cell 2 (by decide); have g3 := hF.arr.cell 3 (by decide); have g4 := hF.arr.cell 4 (by decide); have g5 := hF.arr.cell 5 (by decide); have g6 := hF.arr.cell 6 (by decide); have g7 := hF.arr.cell 7 (by decide); have f0 := hF.arr.free 0; have f1 := hF.arr.free 1; have f2 := hF.arr.free 2; have f3 := hF.arr.free 3; have f4 := hF.arr.free 4; have f5 := hF.arr.free 5; have f6 := hF.arr.free 6; have f7 := hF.arr.free 7; obtain ⟨hT5, hA5⟩ := OV.eight hT hF u0 u1 u2 u3 u4 u5 u6 u7; have hS5 := hT5.three) | skip))
  all_goals
    first | (have e0 := hA5.cell 0 (by show 0 < 8; decide); have e1 := hA5.cell 1 (by show 1 < 8; decide); have e2 := hA5.cell 2 (by show 2 < 8; decide); have e3 := hA5.cell 3 (by show 3 < 8; decide); have e4 := hA5.cell 4 (by show 4 < 8; decide); have e5 := hA5.cell 5 (by show 5 < 8; decide); have e6 := hA5.cell 6 (by show 6 < 8; decide); have e7 := hA5.cell 7 (by show 7 < 8; decide)) | skip
    go_wp2_with fail
    refine (K3.out _).mono ?_
    rintro e w5 ⟨rfl, hb5⟩
    have HB5 : Hid (Below w.heap.size w w5) := by first | exact hT5.below.trans (hb5.mono hT5.below.size) | exact (OV.alloc hT _).below.trans (hb5.mono (OV.alloc hT _).below.size)
    clear hb5
    go_wp2_with fail
    go_ret
    exact ⟨rfl, HB5.out⟩

end Go.Proofs.YtogmmilfdolpnaaDoor
