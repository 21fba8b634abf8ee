/-
  The law on digests of drawn texts that come in two parts: its walk.
-/
import Derived.Test.YtogmmilfdolpnaaDoorMoreYesImpl
import Derived.Test.YtogmmilfdolpnaaDoorDigestImpl
import Derived.Test.YtogmmilfdolpnaaDoorHashEndSpec
import Derived.Test.YtogmmilfdolpnaaDoorPlainTwo
import Derived.Test.YtogmmilfdolpnaaDoorDrawHash
namespace Go.Proofs.YtogmmilfdolpnaaDoor
open Go.RowKit

theorem digest_size (s : ByteArray) : (digestOf s).size = 32 := by
  have hl : (endState (hState s) (hRest s) s.size).length = 8 := eatUp_length _ _ (by rw [wordsOf_length]; have := hState_size s; simp; omega) _
  show (bytesOf (endState (hState s) (hRest s) s.size)).toArray.size = 32
  rw [List.size_toArray, bytesOf_length, hl]
theorem implMore_two (a b : ByteArray) (h : a.size + b.size ≤ 1000) (X : World) (hK : LaidK X) :
    Calls Tryd.prog 27 #[.agg #[.string (hState a), .string (hRest a), .int .i64 (a.size : Nat)], .string b] X fun e X' => e = .returned (.agg #[.string (hState (a ++ b)), .string (hRest (a ++ b)), .int .i64 ((a ++ b).size : Nat)]) ∧ Below X.heap.size X X' := by
  have H := implHashMore_yes (hState a) (hRest a) (a.size : Nat) b (hOk a (by omega)) (by omega) (by omega) X hK
  rw [more_two a b, rest_two a b] at H
  have e : (((a ++ b).size : Nat) : Int) = (a.size : Int) + (b.size : Int) := by rw [ByteArray.size_append]; omega
  rw [e]
  exact H
theorem implEnd_two (a : ByteArray) (h : a.size ≤ 1000) (X : World) (hK : LaidK X) :
    Calls Tryd.prog 30 #[.agg #[.string (hState a), .string (hRest a), .int .i64 (a.size : Nat)]] X fun e X' => e = .returned (.string (digestOf a)) ∧ Below X.heap.size X X' :=
  implHashEnd_yes (hState a) (hRest a) a.size (hOk a (by omega)) X hK
theorem OV.store {w : World} {t : TypeId} {a b c : Value} {X : World} (h : OV w t a b c X) (x y z : Value) : OV w t x y z (((X.setCell ⟨w.heap.size, 0, none⟩ x).setCell ⟨w.heap.size, 1, none⟩ y).setCell ⟨w.heap.size, 2, none⟩ z) :=
  ⟨h.v.set3 x y z, h.below.trans ((Only.set3 X w.heap.size x y z).below (Nat.le_refl _) h.below.size)⟩
theorem OV.all {w w0 : World} {t : TypeId} {a b c : Value} {X : World} (h : OV w t a b c X) (hb : Below w0.heap.size w0 w) : Below w0.heap.size w0 X := hb.trans (h.below.mono hb.size)

/-- Two variables of three cells: the first, and another. -/
structure TwoV (w : World) (t : TypeId) (a b c : Value) (q : Nat) (x y z : Value) (X : World) : Prop where
  one : OV w t a b c X
  two : VarT q t x y z X
theorem TwoV.next {w : World} {t : TypeId} {a b c : Value} {q : Nat} {x y z : Value} {X Y : World} (h : TwoV w t a b c q x y z X) (hb : Below X.heap.size X Y) : TwoV w t a b c q x y z Y := ⟨h.one.next hb, h.two.next hb⟩
theorem newVar {w : World} {t : TypeId} {a b c : Value} {V Y : World} {cs : Array Value} {t8 : TypeId} (hT : OV w t a b c V) (hb : Below (V.alloc (.cells cs t8)).heap.size (V.alloc (.cells cs t8)) Y) : Y.heap[V.heap.size]? = some (.cells cs t8 (0, 0)) ∧ w.heap.size < V.heap.size :=
  ⟨(newB hT hb).1, lt_of_block hT.v.row⟩
theorem newVarA {w : World} {t : TypeId} {a b c : Value} {V Y : World} {cs : Array Value} {t8 : TypeId} (hT : OV w t a b c V) (hb : Below (V.alloc (.cells cs t8)).drew.heap.size (V.alloc (.cells cs t8)).drew Y) : Y.heap[V.heap.size]? = some (.cells cs t8 (0, 0)) ∧ w.heap.size < V.heap.size :=
  ⟨(newA hT hb).1, lt_of_block hT.v.row⟩
theorem newVarC {w : World} {t : TypeId} {a b c : Value} {V Y : World} {cs : Array Value} {t8 : TypeId} (hT : OV w t a b c V) (hb : Below (V.drew.alloc (.cells cs t8)).heap.size (V.drew.alloc (.cells cs t8)) Y) : Y.heap[V.heap.size]? = some (.cells cs t8 (0, 0)) ∧ w.heap.size < V.heap.size :=
  ⟨(newC hT hb).1, lt_of_block hT.v.row⟩
theorem TwoV.store {w : World} {t : TypeId} {a b c : Value} {q : Nat} {x y z : Value} {X : World} (h : OV w t a b c X) (h2 : VarT q t x y z X) (hq : w.heap.size < q) (x' y' z' : Value) :
    TwoV w t a b c q x' y' z' (((X.setCell ⟨q, 0, none⟩ x').setCell ⟨q, 1, none⟩ y').setCell ⟨q, 2, none⟩ z') :=
  ⟨⟨h.v.only (Only.set3 X q x' y' z') (by omega), h.below.trans ((Only.set3 X q x' y' z').below (by omega) h.below.size)⟩, h2.set3 x' y' z'⟩

set_option maxHeartbeats 400000 in
theorem bigD_any (a : Option Addr) (len cap : Nat) (w : World) :
    Calls Tryd.prog 8 #[.slice a len cap] w fun e w' => e = .returned (.bool (decide (1048576 < (len : Int)))) ∧ w' = w := by
  go_enter Tryd.func8, Tryd.ntmps8
  go_wp2
  go_ret
  exact ⟨rfl, rfl⟩

set_option maxRecDepth 100000 in
set_option maxHeartbeats 400000 in
theorem lawDigests_big (a : Option Addr) (len cap : Nat) (h : 1048576 < len) (w : World) :
    Calls Tryd.prog 5 #[.slice a len cap] w fun e w' => e = .returned (.bool true) ∧ Below w.heap.size w w' := by
  have hd : decide (1048576 < (len : Int)) = true := decide_eq_true (by omega)
  have HB := Lib.hid (fun w => bigD_any a len cap w)
  rw [hd] at HB
  go_enter Tryd.func5, Tryd.ntmps5
  go_wp2_with fail
  refine (HB.out _).mono ?_
  rintro e w1 ⟨rfl, rfl⟩
  go_wp2
  go_ret
  exact ⟨rfl, Below.refl _ _⟩

set_option maxRecDepth 100000 in
set_option maxHeartbeats 4000000 in
theorem lawDigests (a : Option Addr) (len cap : Nat) (w : World) (H : Src a len w) (ht : LaidK w) :
    Calls Tryd.prog 5 #[.slice a len cap] w fun e w' => e = .returned (.bool true) ∧ Below w.heap.size w w' := by
  have hd : decide (1048576 < (len : Int)) = false := decide_eq_false (by have := H.few; omega)
  have HB := Lib.hid (fun w => bigD_any a len cap w)
  rw [hd] at HB
  have HS := Lib.hid H
  have HT := Lib.hid ht
  clear H ht hd
  go_enter Tryd.func5, Tryd.ntmps5
  go_wp2_with fail
  refine (HB.out _).mono ?_
  rintro e w1 ⟨rfl, rfl⟩
  go_wp2_with fail
  refine (drawDigestOf_any a len cap _ HS.out).mono ?_
  rintro e w2 ⟨s, hsl, rfl, hb2⟩
  have HB2 := Lib.hid hb2
  have HS2 := Lib.hid (HS.out.below hb2)
  clear hb2 HB
  go_wp2_with fail
  refine (drawPlaces_any a len cap _ HS2.out).mono ?_
  rintro e w3 ⟨g, cp, zs, hz, hzs, rfl, hg, hcell, hb3⟩
  have HB3 := Lib.hid (HB2.out.trans (hb3.mono HB2.out.size))
  obtain ⟨z0, hz0, c0⟩ : ∃ z0 : Int, (0 ≤ z0 ∧ z0 ≤ 9999) ∧ w3.cell? ⟨g, 0, none⟩ = some (.int .i64 z0) := ⟨_, hzs _ (by rw [List.getD_eq_getElem?_getD, List.getElem?_eq_getElem (by omega)]; exact List.getElem_mem _), hcell 0 (by omega)⟩
  clear hb3 hcell hzs hz HB2 HS2 HS
  obtain ⟨k, k1, k2⟩ : ∃ k : Nat, z0 % ((s.size : Int) + 1) = (k : Int) ∧ k ≤ s.size := by
    have h0 := Int.emod_nonneg z0 (show (s.size : Int) + 1 ≠ 0 by omega)
    have h1 := Int.emod_lt_of_pos z0 (show (0 : Int) < (s.size : Int) + 1 by omega)
    exact ⟨(z0 % ((s.size : Int) + 1)).toNat, by omega, by omega⟩
  have k3 : z0.tmod ((s.size : Int) + 1) = (k : Int) := by rw [Int.tmod_eq_emod_of_nonneg hz0.1]; exact k1
  have k4 : ¬ ((s.size : Int) + 1 = 0) := by omega
  have k5 : (k : Int) ≤ (s.size : Int) := by omega
  obtain ⟨a1, A1⟩ : ∃ x, Hid (x = s.extract 0 k) := ⟨_, rfl⟩
  obtain ⟨a2, A2⟩ : ∃ x, Hid (x = s.extract k s.size) := ⟨_, rfl⟩
  have e12 : Hid (a1 ++ a2 = s) := by show _ = _; rw [A1.out, A2.out]; exact two_join s k
  have z1 : a1.size = k := by rw [A1.out, ByteArray.size_extract]; omega
  have z2 : a1.size + a2.size = s.size := by rw [← ByteArray.size_append, e12.out]
  have kn := implHasherNew_any
  have km1 := implMore_two ⟨#[]⟩ a1 (by show 0 + a1.size ≤ 1000; omega)
  have km2 := implMore_two a1 a2 (by omega)
  have km3 := implMore_two s ⟨#[]⟩ (by show s.size + 0 ≤ 1000; omega)
  have ee : ∀ x : ByteArray, (⟨#[]⟩ : ByteArray) ++ x = x := fun x => by apply ByteArray.ext; simp
  have ef : ∀ x : ByteArray, x ++ (⟨#[]⟩ : ByteArray) = x := fun x => by apply ByteArray.ext; simp
  rw [ee a1, z1, hState_empty, hRest_empty] at km1
  rw [e12.out, z1] at km2
  rw [ef s] at km3
  have kd := implDigestOf_any s (by omega)
  have ke := implEnd_two s (by omega)
  have ko1 := implHasherOk_yes (hState a1) (hRest a1) (a1.size : Nat) (hOk a1 (by omega))
  have ko2 := implHasherOk_yes (hState s) (hRest s) (s.size : Nat) (hOk s (by omega))
  rw [z1] at ko1
  have ks : ∀ X, Calls Tryd.prog 31 #[.string s] X fun e X' => e = .returned (.string (digestOf s)) ∧ Below X.heap.size X X' := specDigestOf_any s (by omega)
  have hd32 := digest_size s
  obtain ⟨F0, FF⟩ : ∃ x : ByteArray, Hid (x = ⟨(bytesOf firstState).toArray⟩) := ⟨_, rfl⟩
  rw [← FF.out] at kn km1
  generalize hState a1 = S1 at *
  generalize hRest a1 = R1 at *
  generalize hState s = S2 at *
  generalize hRest s = R2 at *
  generalize digestOf s = d at *
  have KN := Lib.hid kn
  have KM1 : Hid (∀ X, LaidK X → Calls Tryd.prog 27 #[.agg #[.string F0, .string ⟨#[]⟩, .int .i64 0], .string a1] X fun e X' => e = .returned (.agg #[.string S1, .string R1, .int .i64 (k : Nat)]) ∧ Below X.heap.size X X') := km1
  have KM2 := Lib.hid km2
  have KM3 := Lib.hid km3
  have KD := Lib.hid kd
  have KE := Lib.hid ke
  have KO1 := Lib.hid ko1
  have KO2 := Lib.hid ko2
  have KS := Lib.hid ks
  have hx1 : s.extract 0 k = a1 := A1.out.symm
  have hx2 : s.extract k s.size = a2 := A2.out.symm
  clear kn km1 km2 km3 kd ke ko1 ko2 ks z1 z2
  go_wp2_with fail
  refine (KN.out _).mono ?_
  rintro e w4 ⟨rfl, hb4⟩
  have B4 := Lib.hid (HB3.out.trans (hb4.mono HB3.out.size))
  have O0 := Lib.hid (OV.new w4 42 (.string F0) (.string ⟨#[]⟩) (.int .i64 0))
  have L0 := Lib.hid (HT.out.stays (O0.out.drew.all B4.out) (Nat.le_refl _))
  clear hb4 c0
  go_wp2_with fail
  go_region_with (first | (go_at_call 27; refine (KM1.out _ L0.out).mono ?_; rintro e x1 ⟨rfl, hb⟩; have hO1 := O0.out.drew.next hb; have g0 := hO1.v.c0; have g1 := hO1.v.c1; have g2 := hO1.v.c2; have f0 := hO1.v.free 0; have f1 := hO1.v.free 1; have f2 := hO1.v.free 2; have hO2 := Lib.hid (hO1.store (.string S1) (.string R1) (.int .i64 (k : Nat)))))
  have hO3 := hO2.out
  clear hO2
  generalize ((x1.setCell ⟨w4.heap.size, 0, none⟩ (.string S1)).setCell ⟨w4.heap.size, 1, none⟩ (.string R1)).setCell ⟨w4.heap.size, 2, none⟩ (.int .i64 (k : Nat)) = w5 at *
  have HO2 := Lib.hid hO3
  clear hO3 hO1 g0 g1 g2 f0 f1 f2 hb KM1 KN O0 L0
  have K7 : Hid (∀ X, (X.cell? ⟨w4.heap.size, 0, none⟩ = some (.string S1) ∧ X.cell? ⟨w4.heap.size, 1, none⟩ = some (.string R1) ∧ X.cell? ⟨w4.heap.size, 2, none⟩ = some (.int .i64 (k : Nat)) ∧ OV w4 42 (.string S1) (.string R1) (.int .i64 (k : Nat)) X) → Calls Tryd.prog 27 #[.agg #[.string S1, .string R1, .int .i64 (k : Nat)], .string a2] X fun e Y => e = .returned (.agg #[.string S2, .string R2, .int .i64 (s.size : Nat)]) ∧ (Y.cell? ⟨w4.heap.size, 0, none⟩ = some (.string S1) ∧ Y.cell? ⟨w4.heap.size, 1, none⟩ = some (.string R1) ∧ Y.cell? ⟨w4.heap.size, 2, none⟩ = some (.int .i64 (k : Nat)) ∧ OV w4 42 (.string S1) (.string R1) (.int .i64 (k : Nat)) Y) ∧ Below X.heap.size X Y) := fun X hX => by
    refine (KM2.out X (HT.out.stays (hX.2.2.2.all B4.out) (Nat.le_refl _))).mono ?_
    rintro e Y ⟨rfl, hb⟩
    exact ⟨rfl, (hX.2.2.2.next hb).three, hb⟩
  go_wp2_with fail
  go_region_held3 (fun X => X.cell? ⟨w4.heap.size, 0, none⟩ = some (.string S1) ∧ X.cell? ⟨w4.heap.size, 1, none⟩ = some (.string R1) ∧ X.cell? ⟨w4.heap.size, 2, none⟩ = some (.int .i64 (k : Nat)) ∧ OV w4 42 (.string S1) (.string R1) (.int .i64 (k : Nat)) X) (first | (with_reducible assumption) | (with_reducible exact (OV.drew HO2.out).three) | (with_reducible exact (OV.alloc (by assumption) _).three) | (with_reducible exact (OV.alloc (OV.drew HO2.out) _).three) | (with_reducible exact (OV.drew (OV.alloc HO2.out _)).three)) (first | (go_at_call 27; refine (K7.out _ (by assumption)).mono ?_; rintro e x3 ⟨rfl, hS, hb⟩; have hT := hS.2.2.2; first | ((with_reducible have hR := newVarA HO2.out hb); have hV : VarT _ 42 (.string ⟨#[]⟩) (.string ⟨#[]⟩) (.int .i64 0) _ := ⟨hR.1⟩; have g0 := hV.c0; have g1 := hV.c1; have g2 := hV.c2; have f0 := hV.free 0; have f1 := hV.free 1; have f2 := hV.free 2; have hW := TwoV.store hT hV hR.2 (.string S2) (.string R2) (.int .i64 (s.size : Nat)); have hS5 := hW.one.three) | ((with_reducible have hR := newVarC HO2.out hb); have hV : VarT _ 42 (.string ⟨#[]⟩) (.string ⟨#[]⟩) (.int .i64 0) _ := ⟨hR.1⟩; have g0 := hV.c0; have g1 := hV.c1; have g2 := hV.c2; have f0 := hV.free 0; have f1 := hV.free 1; have f2 := hV.free 2; have hW := TwoV.store hT hV hR.2 (.string S2) (.string R2) (.int .i64 (s.size : Nat)); have hS5 := hW.one.three) | skip))
  · have T5 : Hid (TwoV w4 42 (.string S1) (.string R1) (.int .i64 (k : Nat)) x3.heap.size (.string S2) (.string R2) (.int .i64 (s.size : Nat)) (x3.alloc (.cells #[.string S2, .string R2, .int .i64 (s.size : Nat)] 42))) := ⟨OV.alloc hT _, VarT.new x3 42 (.string S2) (.string R2) (.int .i64 (s.size : Nat))⟩
    clear hT hS hb K7
    go_wp2_with fail
    refine (KD.out _ (HT.out.stays (T5.out.one.all B4.out) (Nat.le_refl _))).mono ?_
    rintro e y6 ⟨rfl, hb6⟩
    have T6 := Lib.hid (T5.out.next hb6)
    have p60 := T6.out.one.v.c0
    have p61 := T6.out.one.v.c1
    have p62 := T6.out.one.v.c2
    have r60 := T6.out.two.c0
    have r61 := T6.out.two.c1
    have r62 := T6.out.two.c2
    clear hb6
    go_wp2_with fail
    refine (KO1.out _).mono ?_
    rintro e y7 ⟨rfl, hb7⟩
    have T7 := Lib.hid (T6.out.next hb7)
    have p70 := T7.out.one.v.c0
    have p71 := T7.out.one.v.c1
    have p72 := T7.out.one.v.c2
    have r70 := T7.out.two.c0
    have r71 := T7.out.two.c1
    have r72 := T7.out.two.c2
    clear hb7
    go_wp2_with fail
    refine (KO2.out _).mono ?_
    rintro e y8 ⟨rfl, hb8⟩
    have T8 := Lib.hid (T7.out.next hb8)
    have p80 := T8.out.one.v.c0
    have p81 := T8.out.one.v.c1
    have p82 := T8.out.one.v.c2
    have r80 := T8.out.two.c0
    have r81 := T8.out.two.c1
    have r82 := T8.out.two.c2
    clear hb8
    go_wp2_with fail
    refine (KE.out _ (HT.out.stays (T8.out.one.all B4.out) (Nat.le_refl _))).mono ?_
    rintro e y9 ⟨rfl, hb9⟩
    have T9 := Lib.hid (T8.out.next hb9)
    have p90 := T9.out.one.v.c0
    have p91 := T9.out.one.v.c1
    have p92 := T9.out.one.v.c2
    have r90 := T9.out.two.c0
    have r91 := T9.out.two.c1
    have r92 := T9.out.two.c2
    clear hb9
    go_wp2_with fail
    refine (KS.out _).mono ?_
    rintro e y10 ⟨rfl, hb10⟩
    have T10 := Lib.hid (T9.out.next hb10)
    have p100 := T10.out.one.v.c0
    have p101 := T10.out.one.v.c1
    have p102 := T10.out.one.v.c2
    have r100 := T10.out.two.c0
    have r101 := T10.out.two.c1
    have r102 := T10.out.two.c2
    clear hb10
    go_wp2_with fail
    refine (KM3.out _ (HT.out.stays (T10.out.one.all B4.out) (Nat.le_refl _))).mono ?_
    rintro e y11 ⟨rfl, hb11⟩
    have T11 := Lib.hid (T10.out.next hb11)
    have p110 := T11.out.one.v.c0
    have p111 := T11.out.one.v.c1
    have p112 := T11.out.one.v.c2
    have r110 := T11.out.two.c0
    have r111 := T11.out.two.c1
    have r112 := T11.out.two.c2
    clear hb11
    go_wp2_with fail
    refine (KE.out _ (HT.out.stays (T11.out.one.all B4.out) (Nat.le_refl _))).mono ?_
    rintro e y12 ⟨rfl, hb12⟩
    have T12 := Lib.hid (T11.out.next hb12)
    have p120 := T12.out.one.v.c0
    have p121 := T12.out.one.v.c1
    have p122 := T12.out.one.v.c2
    have r120 := T12.out.two.c0
    have r121 := T12.out.two.c1
    have r122 := T12.out.two.c2
    clear hb12
    go_wp2_with fail
    go_ret
    exact ⟨rfl, T12.out.one.all B4.out⟩
  · have T5 := Lib.hid hW
    clear hW hS5 hV hR g0 g1 g2 f0 f1 f2 hT hS hb K7
    go_wp2_with fail
    refine (KD.out _ (HT.out.stays (T5.out.one.all B4.out) (Nat.le_refl _))).mono ?_
    rintro e y6 ⟨rfl, hb6⟩
    have T6 := Lib.hid (T5.out.next hb6)
    have p60 := T6.out.one.v.c0
    have p61 := T6.out.one.v.c1
    have p62 := T6.out.one.v.c2
    have r60 := T6.out.two.c0
    have r61 := T6.out.two.c1
    have r62 := T6.out.two.c2
    clear hb6
    go_wp2_with fail
    refine (KO1.out _).mono ?_
    rintro e y7 ⟨rfl, hb7⟩
    have T7 := Lib.hid (T6.out.next hb7)
    have p70 := T7.out.one.v.c0
    have p71 := T7.out.one.v.c1
    have p72 := T7.out.one.v.c2
    have r70 := T7.out.two.c0
    have r71 := T7.out.two.c1
    have r72 := T7.out.two.c2
    clear hb7
    go_wp2_with fail
    refine (KO2.out _).mono ?_
    rintro e y8 ⟨rfl, hb8⟩
    have T8 := Lib.hid (T7.out.next hb8)
    have p80 := T8.out.one.v.c0
    have p81 := T8.out.one.v.c1
    have p82 := T8.out.one.v.c2
    have r80 := T8.out.two.c0
    have r81 := T8.out.two.c1
    have r82 := T8.out.two.c2
    clear hb8
    go_wp2_with fail
    refine (KE.out _ (HT.out.stays (T8.out.one.all B4.out) (Nat.le_refl _))).mono ?_
    rintro e y9 ⟨rfl, hb9⟩
    have T9 := Lib.hid (T8.out.next hb9)
    have p90 := T9.out.one.v.c0
    have p91 := T9.out.one.v.c1
    have p92 := T9.out.one.v.c2
    have r90 := T9.out.two.c0
    have r91 := T9.out.two.c1
    have r92 := T9.out.two.c2
    clear hb9
    go_wp2_with fail
    refine (KS.out _).mono ?_
    rintro e y10 ⟨rfl, hb10⟩
    have T10 := Lib.hid (T9.out.next hb10)
    have p100 := T10.out.one.v.c0
    have p101 := T10.out.one.v.c1
    have p102 := T10.out.one.v.c2
    have r100 := T10.out.two.c0
    have r101 := T10.out.two.c1
    have r102 := T10.out.two.c2
    clear hb10
    go_wp2_with fail
    refine (KM3.out _ (HT.out.stays (T10.out.one.all B4.out) (Nat.le_refl _))).mono ?_
    rintro e y11 ⟨rfl, hb11⟩
    have T11 := Lib.hid (T10.out.next hb11)
    have p110 := T11.out.one.v.c0
    have p111 := T11.out.one.v.c1
    have p112 := T11.out.one.v.c2
    have r110 := T11.out.two.c0
    have r111 := T11.out.two.c1
    have r112 := T11.out.two.c2
    clear hb11
    go_wp2_with fail
    refine (KE.out _ (HT.out.stays (T11.out.one.all B4.out) (Nat.le_refl _))).mono ?_
    rintro e y12 ⟨rfl, hb12⟩
    have T12 := Lib.hid (T11.out.next hb12)
    have p120 := T12.out.one.v.c0
    have p121 := T12.out.one.v.c1
    have p122 := T12.out.one.v.c2
    have r120 := T12.out.two.c0
    have r121 := T12.out.two.c1
    have r122 := T12.out.two.c2
    clear hb12
    go_wp2_with fail
    go_ret
    exact ⟨rfl, T12.out.one.all B4.out⟩

end Go.Proofs.YtogmmilfdolpnaaDoor
