/-
  The law on drawn hashers: its walk.
-/
import Derived.Test.YtogmmilfdolpnaaDoorLawDigestsWalk
import Derived.Test.YtogmmilfdolpnaaDoorDrawMore
import Derived.Test.YtogmmilfdolpnaaDoorEqStruct
namespace Go.Proofs.YtogmmilfdolpnaaDoor
open Go.RowKit

/-- Three variables of hashers. -/
structure ThreeV (w : World) (t : TypeId) (a b c : Value) (q5 q6 : Nat) (x y z : Value) (X : World) : Prop where
  one : OV w t a b c X
  two : VarT q5 t x y z X
  three : VarT q6 t x y z X
theorem ThreeV.next {w : World} {t : TypeId} {a b c : Value} {q5 q6 : Nat} {x y z : Value} {X Y : World} (h : ThreeV w t a b c q5 q6 x y z X) (hb : Below X.heap.size X Y) : ThreeV w t a b c q5 q6 x y z Y := ⟨h.one.next hb, h.two.next hb, h.three.next hb⟩
theorem ThreeV.drew {w : World} {t : TypeId} {a b c : Value} {q5 q6 : Nat} {x y z : Value} {X : World} (h : ThreeV w t a b c q5 q6 x y z X) : ThreeV w t a b c q5 q6 x y z X.drew := ⟨h.one.drew, h.two.drew, h.three.drew⟩
theorem ThreeV.nine {w : World} {t : TypeId} {a b c : Value} {q5 q6 : Nat} {x y z : Value} {X : World} (h : ThreeV w t a b c q5 q6 x y z X) :
    X.cell? ⟨w.heap.size, 0, none⟩ = some a ∧ X.cell? ⟨w.heap.size, 1, none⟩ = some b ∧ X.cell? ⟨w.heap.size, 2, none⟩ = some c ∧ X.cell? ⟨q5, 0, none⟩ = some x ∧ X.cell? ⟨q5, 1, none⟩ = some y ∧ X.cell? ⟨q5, 2, none⟩ = some z ∧ X.cell? ⟨q6, 0, none⟩ = some x ∧ X.cell? ⟨q6, 1, none⟩ = some y ∧ X.cell? ⟨q6, 2, none⟩ = some z ∧ ThreeV w t a b c q5 q6 x y z X := ⟨h.one.v.c0, h.one.v.c1, h.one.v.c2, h.two.c0, h.two.c1, h.two.c2, h.three.c0, h.three.c1, h.three.c2, h⟩
theorem keep_3V {P : Program} {f : FuncId} {args : Array Value} {r : Ending} {w : World} {t : TypeId} {a b c : Value} {q5 q6 : Nat} {x y z : Value} (hc : ∀ X, Calls P f args X fun e X' => e = r ∧ Below X.heap.size X X') (X : World)
    (h : X.cell? ⟨w.heap.size, 0, none⟩ = some a ∧ X.cell? ⟨w.heap.size, 1, none⟩ = some b ∧ X.cell? ⟨w.heap.size, 2, none⟩ = some c ∧ X.cell? ⟨q5, 0, none⟩ = some x ∧ X.cell? ⟨q5, 1, none⟩ = some y ∧ X.cell? ⟨q5, 2, none⟩ = some z ∧ X.cell? ⟨q6, 0, none⟩ = some x ∧ X.cell? ⟨q6, 1, none⟩ = some y ∧ X.cell? ⟨q6, 2, none⟩ = some z ∧ ThreeV w t a b c q5 q6 x y z X) :
    Calls P f args X fun e Y => e = r ∧ Y.cell? ⟨w.heap.size, 0, none⟩ = some a ∧ Y.cell? ⟨w.heap.size, 1, none⟩ = some b ∧ Y.cell? ⟨w.heap.size, 2, none⟩ = some c ∧ Y.cell? ⟨q5, 0, none⟩ = some x ∧ Y.cell? ⟨q5, 1, none⟩ = some y ∧ Y.cell? ⟨q5, 2, none⟩ = some z ∧ Y.cell? ⟨q6, 0, none⟩ = some x ∧ Y.cell? ⟨q6, 1, none⟩ = some y ∧ Y.cell? ⟨q6, 2, none⟩ = some z ∧ ThreeV w t a b c q5 q6 x y z Y :=
  (hc X).mono fun _ _ ⟨he, hb⟩ => ⟨he, (h.2.2.2.2.2.2.2.2.2.next hb).nine⟩
theorem end_size (st rest : ByteArray) (N : Nat) (h : st.size = 32) : (⟨(endOf st rest N).toArray⟩ : ByteArray).size = 32 := by
  have hl : (endState st rest N).length = 8 := eatUp_length _ _ (by rw [wordsOf_length]; simp; omega) _
  show (bytesOf (endState st rest N)).toArray.size = 32
  rw [List.size_toArray, bytesOf_length, hl]

set_option maxRecDepth 100000 in
set_option maxHeartbeats 400000 in
theorem lawHashers_big (a : Option Addr) (len cap : Nat) (h : 1048576 < len) (w : World) :
    Calls Tryd.prog 6 #[.slice a len cap] w fun e w' => e = .returned (.bool true) ∧ Below w.heap.size w w' := by
  have hd : decide (1048576 < (len : Int)) = true := decide_eq_true (by omega)
  have HB := Lib.hid (fun w => bigD_any a len cap w)
  rw [hd] at HB
  go_enter Tryd.func6, Tryd.ntmps6
  go_wp2_with fail
  refine (HB.out _).mono ?_
  rintro e w1 ⟨rfl, rfl⟩
  go_wp2
  go_ret
  exact ⟨rfl, Below.refl _ _⟩

set_option maxRecDepth 100000 in
set_option maxHeartbeats 4000000 in
theorem lawHashers (a : Option Addr) (len cap : Nat) (w : World) (H : Src a len w) (ht : LaidK w) :
    Calls Tryd.prog 6 #[.slice a len cap] w fun e w' => e = .returned (.bool true) ∧ Below w.heap.size w w' := by
  have hd : decide (1048576 < (len : Int)) = false := decide_eq_false (by have := H.few; omega)
  have HB := Lib.hid (fun w => bigD_any a len cap w)
  rw [hd] at HB
  have HS := Lib.hid H
  have HT := Lib.hid ht
  clear H ht hd
  go_enter Tryd.func6, Tryd.ntmps6
  go_wp2_with fail
  refine (HB.out _).mono ?_
  rintro e w1 ⟨rfl, rfl⟩
  go_wp2_with fail
  refine (drawHashMore_any a len cap _ HS.out).mono ?_
  rintro e w2 ⟨st, rest, n, s, hs1, hs2, hs3, hs4, rfl, hb2⟩
  have B2 := Lib.hid hb2
  obtain ⟨d1, d2, m, p, hm1, hm2, ho1, ho2, hlast⟩ : ∃ (d1 d2 : ByteArray) (m : Int) (p : Bool), (∀ X, LaidK X → Calls Tryd.prog 27 #[.agg #[.string st, .string rest, .int .i64 n], .string s] X fun e X' => e = .returned (.agg #[.string d1, .string d2, .int .i64 m]) ∧ Below X.heap.size X X') ∧ (∀ X, Calls Tryd.prog 33 #[.agg #[.string st, .string rest, .int .i64 n], .string s] X fun e X' => e = .returned (.agg #[.string d1, .string d2, .int .i64 m]) ∧ Below X.heap.size X X') ∧
      (∀ X, Calls Tryd.prog 29 #[.agg #[.string st, .string rest, .int .i64 n]] X fun e X' => e = .returned (.bool p) ∧ Below X.heap.size X X') ∧ (∀ X, Calls Tryd.prog 34 #[.agg #[.string st, .string rest, .int .i64 n]] X fun e X' => e = .returned (.bool p) ∧ Below X.heap.size X X') ∧
      ((p = false ∧ d1 = st ∧ d2 = rest ∧ m = n ∧ ∀ X, Calls Tryd.prog 30 #[.agg #[.string st, .string rest, .int .i64 n]] X fun e X' => e = .returned (.string ⟨#[]⟩) ∧ Below X.heap.size X X') ∨
       (p = true ∧ ((d1 = st ∧ d2 = rest ∧ m = n) ∨ (m = n + (s.size : Int) ∧ IntKind.i64.wrap (n + (s.size : Int)) = n + (s.size : Int))) ∧ (∀ X, Calls Tryd.prog 29 #[.agg #[.string d1, .string d2, .int .i64 m]] X fun e X' => e = .returned (.bool true) ∧ Below X.heap.size X X') ∧ ∃ d : ByteArray, d.size = 32 ∧ ∀ X, LaidK X → Calls Tryd.prog 30 #[.agg #[.string d1, .string d2, .int .i64 m]] X fun e X' => e = .returned (.string d) ∧ Below X.heap.size X X')) := by
    by_cases hk : HOk st rest n
    · by_cases hn : n + (s.size : Int) ≤ 1000000000
      · have hk2 := more_ok st rest n s hk hn
        have h0 := hk.2.2.1
        obtain ⟨N, hN⟩ : ∃ N : Nat, n + (s.size : Int) = (N : Int) := ⟨(n + (s.size : Int)).toNat, by omega⟩
        refine ⟨_, _, _, true, implHashMore_yes st rest n s hk hn (by omega), specHashMore_yes st rest n s hk hn (by omega), implHasherOk_yes st rest n hk, specHasherOk_yes st rest n hk, .inr ⟨rfl, .inr ⟨rfl, by rw [IntKind.wrap_i64]; omega⟩, implHasherOk_yes _ _ _ hk2, ?_⟩⟩
        rw [hN] at hk2 ⊢
        exact ⟨_, end_size _ _ N hk2.1, implHashEnd_yes _ _ N hk2⟩
      · have hk2 : ¬ HOk st rest n ∨ 1000000000 < n + (s.size : Int) := .inr (by omega)
        have h0 := hk.2.2.1
        obtain ⟨N, hN⟩ : ∃ N : Nat, n = (N : Int) := ⟨n.toNat, by omega⟩
        refine ⟨st, rest, n, true, fun X _ => implHashMore_no st rest n s hk2 (by omega) (by omega) (by omega) X, specHashMore_no st rest n s hk2 (by omega), implHasherOk_yes st rest n hk, specHasherOk_yes st rest n hk, .inr ⟨rfl, .inl ⟨rfl, rfl, rfl⟩, implHasherOk_yes _ _ _ hk, ?_⟩⟩
        rw [hN] at hk ⊢
        exact ⟨_, end_size _ _ N hk.1, implHashEnd_yes _ _ N hk⟩
    · exact ⟨st, rest, n, false, fun X _ => implHashMore_no st rest n s (.inl hk) (by omega) (by omega) (by omega) X, specHashMore_no st rest n s (.inl hk) (by omega), implHasherOk_no st rest n hk, specHasherOk_no st rest n hk, .inl ⟨rfl, rfl, rfl, rfl, implHashEnd_no st rest n hk⟩⟩
  have HM1 := Lib.hid hm1
  have HM2 := Lib.hid hm2
  have HO1 := Lib.hid ho1
  have HO2 := Lib.hid ho2
  have HLAST := Lib.hid hlast
  have O2 := Lib.hid (OV.new w2 42 (.string st) (.string rest) (.int .i64 n))
  have hsame := hasher_same d1 d2 m
  have hguard := hasherGuard
  clear hm1 hm2 ho1 ho2 hlast hb2 hs1 hs2 hs3 hs4 HB HS
  go_wp2_with fail
  refine (HM1.out _ (HT.out.stays (O2.out.all B2.out) (Nat.le_refl _))).mono ?_
  rintro e w3 ⟨rfl, hb3⟩
  have O3 := Lib.hid (O2.out.next hb3)
  have p0 := O3.out.v.c0
  have p1 := O3.out.v.c1
  have p2 := O3.out.v.c2
  have hl3 : w2.heap.size < w3.heap.size := lt_of_block O3.out.v.row
  have T3 : Hid (TwoV w2 42 (.string st) (.string rest) (.int .i64 n) w3.heap.size (.string d1) (.string d2) (.int .i64 m) (w3.alloc (.cells #[.string d1, .string d2, .int .i64 m] 42))) := ⟨OV.alloc O3.out _, VarT.new w3 _ _ _ _⟩
  clear hb3
  go_wp2_with fail
  refine (HM2.out _).mono ?_
  rintro e w4 ⟨rfl, hb4⟩
  have T4 := Lib.hid (T3.out.next hb4)
  have T5 : Hid (ThreeV w2 42 (.string st) (.string rest) (.int .i64 n) w3.heap.size w4.heap.size (.string d1) (.string d2) (.int .i64 m) (w4.alloc (.cells #[.string d1, .string d2, .int .i64 m] 42))) := ⟨OV.alloc T4.out.one _, T4.out.two.next ((Below.refl _ _).alloc (Nat.le_refl _) _), VarT.new w4 _ _ _ _⟩
  obtain ⟨q5, Q5⟩ : ∃ q, Hid (q = w3.heap.size) := ⟨_, rfl⟩
  obtain ⟨q6, Q6⟩ : ∃ q, Hid (q = w4.heap.size) := ⟨_, rfl⟩
  have q5e : w3.heap.size = q5 := Q5.out.symm
  have q6e : w4.heap.size = q6 := Q6.out.symm
  rw [q5e, q6e] at T5
  have KO1 := Lib.hid (keep_3V (w := w2) (t := 42) (a := .string st) (b := .string rest) (c := .int .i64 n) (q5 := q5) (q6 := q6) (x := .string d1) (y := .string d2) (z := .int .i64 m) HO1.out)
  have KO2 := Lib.hid (keep_3V (w := w2) (t := 42) (a := .string st) (b := .string rest) (c := .int .i64 n) (q5 := q5) (q6 := q6) (x := .string d1) (y := .string d2) (z := .int .i64 m) HO2.out)
  clear hb4 O2 O3 T3 T4 p0 p1 p2 hl3 HM1 HM2
  go_wp2_with fail
  go_region_held3 (fun X => X.cell? ⟨w2.heap.size, 0, none⟩ = some (.string st) ∧ X.cell? ⟨w2.heap.size, 1, none⟩ = some (.string rest) ∧ X.cell? ⟨w2.heap.size, 2, none⟩ = some (.int .i64 n) ∧ X.cell? ⟨q5, 0, none⟩ = some (.string d1) ∧ X.cell? ⟨q5, 1, none⟩ = some (.string d2) ∧ X.cell? ⟨q5, 2, none⟩ = some (.int .i64 m) ∧ X.cell? ⟨q6, 0, none⟩ = some (.string d1) ∧ X.cell? ⟨q6, 1, none⟩ = some (.string d2) ∧ X.cell? ⟨q6, 2, none⟩ = some (.int .i64 m) ∧ ThreeV w2 42 (.string st) (.string rest) (.int .i64 n) q5 q6 (.string d1) (.string d2) (.int .i64 m) X) (first | (with_reducible assumption) | (with_reducible exact (ThreeV.drew T5.out).nine)) (first | (go_at_call 29; refine (KO1.out _ (by assumption)).mono ?_; rintro e x1 ⟨rfl, hS⟩) | (go_at_call 34; refine (KO2.out _ (by assumption)).mono ?_; rintro e x1 ⟨rfl, hS⟩))
  have T6 := Lib.hid hS.2.2.2.2.2.2.2.2.2
  have p60 := T6.out.one.v.c0
  have p61 := T6.out.one.v.c1
  have p62 := T6.out.one.v.c2
  have r60 := T6.out.two.c0
  have r61 := T6.out.two.c1
  have r62 := T6.out.two.c2
  clear hS KO1 KO2 HO1 T5
  rcases HLAST.out with ⟨rfl, rfl, rfl, rfl, he⟩ | ⟨rfl, hm, hok, d, hd, he⟩
  · have HE := Lib.hid he
    clear he HLAST
    go_wp2_with fail
    refine (HO2.out _).mono ?_
    rintro e y7 ⟨rfl, hb7⟩
    have T7 := Lib.hid (T6.out.next hb7)
    have p70 := T7.out.one.v.c0
    have p71 := T7.out.one.v.c1
    have p72 := T7.out.one.v.c2
    have r70 := T7.out.two.c0
    have r71 := T7.out.two.c1
    have r72 := T7.out.two.c2
    clear hb7
    go_wp2_with fail
    refine (HE.out _).mono ?_
    rintro e y8 ⟨rfl, hb8⟩
    have T8 := Lib.hid (T7.out.next hb8)
    have p80 := T8.out.one.v.c0
    have p81 := T8.out.one.v.c1
    have p82 := T8.out.one.v.c2
    have r80 := T8.out.two.c0
    have r81 := T8.out.two.c1
    have r82 := T8.out.two.c2
    clear hb8
    go_wp2_with fail
    go_ret
    exact ⟨rfl, T8.out.one.all B2.out⟩
  · have HE := Lib.hid he
    have HOK := Lib.hid hok
    clear he hok HLAST
    rcases hm with ⟨rfl, rfl, rfl⟩ | ⟨rfl, hwr⟩
    · go_wp2_with fail
      refine (HO2.out _).mono ?_
      rintro e y7 ⟨rfl, hb7⟩
      have T7 := Lib.hid (T6.out.next hb7)
      have p70 := T7.out.one.v.c0
      have p71 := T7.out.one.v.c1
      have p72 := T7.out.one.v.c2
      have r70 := T7.out.two.c0
      have r71 := T7.out.two.c1
      have r72 := T7.out.two.c2
      clear hb7
      go_wp2_with fail
      refine (HOK.out _).mono ?_
      rintro e y8 ⟨rfl, hb8⟩
      have T8 := Lib.hid (T7.out.next hb8)
      have p80 := T8.out.one.v.c0
      have p81 := T8.out.one.v.c1
      have p82 := T8.out.one.v.c2
      have r80 := T8.out.two.c0
      have r81 := T8.out.two.c1
      have r82 := T8.out.two.c2
      clear hb8
      go_wp2_with fail
      refine (HE.out _ (HT.out.stays (T8.out.one.all B2.out) (Nat.le_refl _))).mono ?_
      rintro e y9 ⟨rfl, hb9⟩
      have T9 := Lib.hid (T8.out.next hb9)
      have p90 := T9.out.one.v.c0
      have p91 := T9.out.one.v.c1
      have p92 := T9.out.one.v.c2
      have r90 := T9.out.two.c0
      have r91 := T9.out.two.c1
      have r92 := T9.out.two.c2
      clear hb9
      go_wp2_with fail
      go_ret
      exact ⟨rfl, T9.out.one.all B2.out⟩
    · have heq := hasher_eq d1 d2 (n + (s.size : Int)) st rest n
      generalize (d1.toList == st.toList && d2.toList == rest.toList && n + (s.size : Int) == n) = b at heq
      cases b with
      | true =>
        go_wp2_with fail
        refine (HO2.out _).mono ?_
        rintro e y7 ⟨rfl, hb7⟩
        have T7 := Lib.hid (T6.out.next hb7)
        have p70 := T7.out.one.v.c0
        have p71 := T7.out.one.v.c1
        have p72 := T7.out.one.v.c2
        have r70 := T7.out.two.c0
        have r71 := T7.out.two.c1
        have r72 := T7.out.two.c2
        clear hb7
        go_wp2_with fail
        refine (HOK.out _).mono ?_
        rintro e y8 ⟨rfl, hb8⟩
        have T8 := Lib.hid (T7.out.next hb8)
        have p80 := T8.out.one.v.c0
        have p81 := T8.out.one.v.c1
        have p82 := T8.out.one.v.c2
        have r80 := T8.out.two.c0
        have r81 := T8.out.two.c1
        have r82 := T8.out.two.c2
        clear hb8
        go_wp2_with fail
        refine (HE.out _ (HT.out.stays (T8.out.one.all B2.out) (Nat.le_refl _))).mono ?_
        rintro e y9 ⟨rfl, hb9⟩
        have T9 := Lib.hid (T8.out.next hb9)
        have p90 := T9.out.one.v.c0
        have p91 := T9.out.one.v.c1
        have p92 := T9.out.one.v.c2
        have r90 := T9.out.two.c0
        have r91 := T9.out.two.c1
        have r92 := T9.out.two.c2
        clear hb9
        go_wp2_with fail
        go_ret
        exact ⟨rfl, T9.out.one.all B2.out⟩
      | false =>
        go_wp2_with fail
        refine (HO2.out _).mono ?_
        rintro e y7 ⟨rfl, hb7⟩
        have T7 := Lib.hid (T6.out.next hb7)
        have p70 := T7.out.one.v.c0
        have p71 := T7.out.one.v.c1
        have p72 := T7.out.one.v.c2
        have r70 := T7.out.two.c0
        have r71 := T7.out.two.c1
        have r72 := T7.out.two.c2
        clear hb7
        go_wp2_with fail
        refine (HOK.out _).mono ?_
        rintro e y8 ⟨rfl, hb8⟩
        have T8 := Lib.hid (T7.out.next hb8)
        have p80 := T8.out.one.v.c0
        have p81 := T8.out.one.v.c1
        have p82 := T8.out.one.v.c2
        have r80 := T8.out.two.c0
        have r81 := T8.out.two.c1
        have r82 := T8.out.two.c2
        clear hb8
        go_wp2_with fail
        refine (HE.out _ (HT.out.stays (T8.out.one.all B2.out) (Nat.le_refl _))).mono ?_
        rintro e y9 ⟨rfl, hb9⟩
        have T9 := Lib.hid (T8.out.next hb9)
        have p90 := T9.out.one.v.c0
        have p91 := T9.out.one.v.c1
        have p92 := T9.out.one.v.c2
        have r90 := T9.out.two.c0
        have r91 := T9.out.two.c1
        have r92 := T9.out.two.c2
        clear hb9
        go_wp2_with fail
        go_ret
        exact ⟨rfl, T9.out.one.all B2.out⟩

end Go.Proofs.YtogmmilfdolpnaaDoor
