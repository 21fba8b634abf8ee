/-
  Hashers that are drawn.
-/
import Derived.Test.YtogmmilfdolpnaaDoorDrawHash
import Derived.Test.YtogmmilfdolpnaaDoorHasherImpl
import Derived.Test.YtogmmilfdolpnaaDoorHashMoreSpec
import Derived.Test.YtogmmilfdolpnaaDoorPlainTwo
namespace Go.Proofs.YtogmmilfdolpnaaDoor
open Go.RowKit

/-- More text leaves a right hasher right. -/
theorem more_ok (st rest : ByteArray) (n : Int) (s : ByteArray) (h : HOk st rest n) (hn : n + (s.size : Int) ≤ 1000000000) :
    HOk ⟨(bytesOf (moreState st rest s)).toArray⟩ ⟨(moreRest rest s).toArray⟩ (n + (s.size : Int)) := by
  obtain ⟨h1, h2, h3, h4, h5⟩ := h
  have hwl : (wordsOf st.data.toList).length = 8 := by rw [wordsOf_length]; simp; omega
  have e1 : (⟨(moreRest rest s).toArray⟩ : ByteArray).size = (rest.size + s.size) % 64 := by
    show (moreRest rest s).toArray.size = _
    unfold moreRest
    rw [List.size_toArray, List.length_drop, List.length_append]
    simp
    omega
  refine ⟨?_, by rw [e1]; omega, by omega, by omega, by rw [e1]; omega⟩
  show (bytesOf _).toArray.size = 32
  unfold moreState
  rw [List.size_toArray, bytesOf_length, eatUp_length _ _ hwl]

/-- The result's variable, a hasher's, the cursor; of what was there the cursor's block alone is written. -/
structure HX (w : World) (c : Nat) (a : Option Addr) (len cap q : Nat) (t : TypeId) (x y z : Value) (X : World) : Prop where
  res : VarT w.heap.size t (.string ⟨#[]⟩) (.string ⟨#[]⟩) (.int .i64 0) X
  h : VarT q t x y z X
  cur : Cur c a len cap X
  only : Only c w X
  cw : c < w.heap.size
  qw : w.heap.size < q
theorem HX.next {w : World} {c : Nat} {a : Option Addr} {len cap q : Nat} {t : TypeId} {x y z : Value} {X Y : World} (h : HX w c a len cap q t x y z X) (hb : Below X.heap.size X Y) : HX w c a len cap q t x y z Y :=
  ⟨h.res.next hb, h.h.next hb, h.cur.below hb, h.only.behind (hb.mono h.only.size), h.cw, h.qw⟩
theorem HX.drew {w : World} {c : Nat} {a : Option Addr} {len cap q : Nat} {t : TypeId} {x y z : Value} {X : World} (h : HX w c a len cap q t x y z X) : HX w c a len cap q t x y z X.drew := h.next ((Below.refl _ _).drew)
theorem HX.draw {w : World} {c : Nat} {a : Option Addr} {len cap q : Nat} {t : TypeId} {x y z : Value} {X Y : World} (h : HX w c a len cap q t x y z X) (hc : Cur c a len cap Y) (ho : Only c X Y) : HX w c a len cap q t x y z Y := by
  have h1 := h.cw
  have h2 := h.qw
  exact ⟨h.res.only ho (by omega), h.h.only ho (by omega), hc, h.only.trans ho, h1, h2⟩
theorem HX.put {w : World} {c : Nat} {a : Option Addr} {len cap q : Nat} {t : TypeId} {x y z x' y' z' : Value} {X Y : World} (h : HX w c a len cap q t x y z X) (hv : VarT q t x' y' z' Y) (ho : Only q X Y) : HX w c a len cap q t x' y' z' Y := by
  have h1 := h.cw
  have h2 := h.qw
  have hb : Below w.heap.size X Y := ho.below (by omega) h.only.size
  exact ⟨h.res.only ho (by omega), hv, h.cur.kept hb h1, h.only.behind hb, h1, h2⟩
theorem VarT.set0 {r : Nat} {t : TypeId} {a b c : Value} {X : World} (h : VarT r t a b c X) (a' : Value) : VarT r t a' b c (X.setCell ⟨r, 0, none⟩ a') := ⟨by have h1 := h.row; simp [World.setCell, Array.getElem?_modify, h1]⟩
theorem VarT.set1 {r : Nat} {t : TypeId} {a b c : Value} {X : World} (h : VarT r t a b c X) (b' : Value) : VarT r t a b' c (X.setCell ⟨r, 1, none⟩ b') := ⟨by have h1 := h.row; simp [World.setCell, Array.getElem?_modify, h1]⟩
theorem VarT.set2 {r : Nat} {t : TypeId} {a b c : Value} {X : World} (h : VarT r t a b c X) (c' : Value) : VarT r t a b c' (X.setCell ⟨r, 2, none⟩ c') := ⟨by have h1 := h.row; simp [World.setCell, Array.getElem?_modify, h1]⟩
/-- How a draw of a hasher ends. -/
def DrewHasher (c : Nat) (a : Option Addr) (len cap : Nat) (w : World) (e : Ending) (w' : World) : Prop :=
  ∃ (st rest : ByteArray) (n : Int), st.size ≤ 1000 ∧ rest.size ≤ 1000 ∧ (-2000000000 ≤ n ∧ n ≤ 2000000000) ∧ e = .returned (.agg #[.string st, .string rest, .int .i64 n]) ∧ Cur c a len cap w' ∧ Only c w w'

def countSteps : List Int := [64, -64, 1, 1000000000]
theorem countSteps_few (x : Int) (h : x ∈ countSteps) : -64 ≤ x ∧ x ≤ 1000000000 := by
  unfold countSteps at h
  simp at h
  omega
theorem HX.end {w : World} {c : Nat} {a : Option Addr} {len cap q : Nat} {t : TypeId} {x y z : Value} {X : World} (h : HX w c a len cap q t x y z X) (x' y' z' : Value) :
    Cur c a len cap (((X.setCell ⟨w.heap.size, 0, none⟩ x').setCell ⟨w.heap.size, 1, none⟩ y').setCell ⟨w.heap.size, 2, none⟩ z') ∧ Only c w (((X.setCell ⟨w.heap.size, 0, none⟩ x').setCell ⟨w.heap.size, 1, none⟩ y').setCell ⟨w.heap.size, 2, none⟩ z') := by
  have hb : Below w.heap.size X _ := (Only.set3 X w.heap.size x' y' z').below (Nat.le_refl _) h.only.size
  exact ⟨h.cur.kept hb h.cw, h.only.behind hb⟩

set_option maxRecDepth 100000 in
set_option maxHeartbeats 4000000 in
theorem hasher_any {c : Nat} {a : Option Addr} {len cap : Nat} (w : World) (H : Cur c a len cap w) :
    Calls Tryd.prog 63 #[.pointer (some ⟨c, 0, none⟩)] w (DrewHasher c a len cap w) := by
  have hcs : c < w.heap.size := cell_size (p := ⟨c, 0, none⟩) H.c0
  have HC := Lib.hid H
  have HN := Lib.hid specHasherNew_any
  obtain ⟨F0, FF⟩ : ∃ x : ByteArray, Hid (x = ⟨(bytesOf firstState).toArray⟩) := ⟨_, rfl⟩
  rw [← FF.out] at HN
  have hk0 : Hid (HOk F0 ⟨#[]⟩ 0) := by rw [FF.out]; exact ⟨by decide, by decide, by decide, by decide, by decide⟩
  have V0 := Lib.hid (VarT.new w 42 (.string ⟨#[]⟩) (.string ⟨#[]⟩) (.int .i64 0))
  clear H
  go_enter Tryd.func63, Tryd.ntmps63
  go_wp2_with fail
  refine (HN.out _).mono ?_
  rintro e w1 ⟨rfl, hb1⟩
  have hb1' : Below w.heap.size w w1 := ((Below.refl w.heap.size w).alloc (Nat.le_refl _) _).trans (hb1.mono (by simp))
  have V1 := V0.out.next hb1
  have hlt1 : w.heap.size < w1.heap.size := lt_of_block V1.row
  have X0 : Hid (HX w c a len cap w1.heap.size 42 (.string F0) (.string ⟨#[]⟩) (.int .i64 0) (w1.alloc (.cells #[.string F0, .string ⟨#[]⟩, .int .i64 0] 42))) :=
    ⟨V1.next ((Below.refl _ _).alloc (Nat.le_refl _) _), VarT.new w1 _ _ _ _, (HC.out.below hb1').below ((Below.refl _ _).alloc (Nat.le_refl _) _), Only.of_below (hb1'.alloc hb1'.size _), hcs, hlt1⟩
  obtain ⟨q, HQ⟩ : ∃ q, Hid (q = w1.heap.size) := ⟨_, rfl⟩
  rw [← HQ.out] at X0
  have hq : w1.heap.size = q := HQ.out.symm
  clear hb1 hb1' V1 HC V0 HN hlt1
  go_wp2_with fail
  go_loopw [4] (fun i wr => ∃ (k : Nat) (st rest : ByteArray) (n : Int), k ≤ 3 ∧ i = .int .i64 (k : Int) ∧ HOk st rest n ∧ n ≤ 200 * (k : Int) ∧ HX w c a len cap q 42 (.string st) (.string rest) (.int .i64 n) wr) (fun i _ => 3 - (intOf i).toNat)
  case atStart =>
    exact ⟨0, F0, ⟨#[]⟩, 0, by omega, rfl, hk0.out, by omega, X0.out⟩
  case round =>
    obtain ⟨k, st, rest, n, hk3, rfl, hok, hn, hx⟩ := hrel
    have HX0 := Lib.hid hx
    have HOK := Lib.hid hok
    clear hx X0 hk0 hok
    go_wp2_with fail
    refine (below_any 3 (by omega) (by omega) _ HX0.out.cur).mono ?_
    rintro e w2 ⟨x, x0, x1, rfl, hc2, ho2⟩
    have HX2 := Lib.hid (HX0.out.draw hc2 ho2)
    clear hc2 ho2 HX0
    by_cases hlt : (k : Int) < x
    · have c0 := HX2.out.h.c0
      have c1 := HX2.out.h.c1
      have c2 := HX2.out.h.c2
      have H4 := Lib.hid (hashText_any _ HX2.out.drew.cur)
      go_wp2_with fail
      go_region_with (first | (go_at_call 55; refine (H4.out).mono ?_; rintro e x1 ⟨t, ht, rfl, hcT, hoT⟩; have hX3 := HX2.out.drew.draw hcT hoT; have d0 := hX3.h.c0; have d1 := hX3.h.c1; have d2 := hX3.h.c2) | (go_at_call 33; refine (specHashMore_yes st rest n t HOK.out (by omega) (by omega) _).mono ?_; rintro e x2 ⟨rfl, hb⟩; have hX4 := hX3.next hb; have e0 := hX4.h.c0; have e1 := hX4.h.c1; have e2 := hX4.h.c2; have f0 := hX4.h.free 0; have f1 := hX4.h.free 1; have f2 := hX4.h.free 2; have hX5 := Lib.hid (hX4.put (hX4.h.set3 (.string ⟨(bytesOf (moreState st rest t)).toArray⟩) (.string ⟨(moreRest rest t).toArray⟩) (.int .i64 (n + (t.size : Int)))) (Only.set3 x2 q _ _ _))))
      all_goals
        go_wp2_with fail
        go_roundw
        case rel => exact ⟨k + 1, _, _, _, by omega, by go_num, more_ok st rest n t HOK.out (by omega), by omega, hX5.out⟩
        case measure => simp [intOf]; omega
    · have s32 : st.size = 32 := HOK.out.1
      have r64 : rest.size < 64 := HOK.out.2.1
      have n0 : 0 ≤ n := HOK.out.2.2.1
      have S32 := Lib.hid (And.intro s32 (And.intro r64 n0))
      clear s32 r64 n0 HOK
      go_wp2_with fail
      refine (below_any 16 (by omega) (by omega) _ HX2.out.cur).mono ?_
      rintro e w3 ⟨y, y0, y1, rfl, hc3, ho3⟩
      have HX3 := Lib.hid (HX2.out.draw hc3 ho3)
      clear hc3 ho3 HX2
      have h5 : y = 0 ∨ y = 1 ∨ y = 2 ∨ y = 3 ∨ 4 ≤ y := by omega
      rcases h5 with rfl | rfl | rfl | rfl | y4
      · go_wp2_with fail
        refine (below_any 40 (by omega) (by omega) _ HX3.out.cur).mono ?_
        rintro e w4 ⟨v, v0, v1, rfl, hc4, ho4⟩
        have HX4 := Lib.hid (HX3.out.draw hc4 ho4)
        obtain ⟨m, rfl⟩ := Int.eq_ofNat_of_zero_le v0
        clear hc4 ho4 HX3
        go_wp2_with fail
        refine (text_any m (by omega) _ HX4.out.cur).mono ?_
        rintro e w5 ⟨l, hl, rfl, hc5, ho5⟩
        have hX5 := HX4.out.draw hc5 ho5
        obtain ⟨A, hA, AA⟩ : ∃ A : ByteArray, A.size = m ∧ Hid (A = ⟨l.toArray⟩) := ⟨_, by show l.toArray.size = m; simpa using hl, rfl⟩
        rw [← AA.out]
        have g0 := hX5.h.c0
        have f0 := hX5.h.free 0
        have HX6 := Lib.hid (hX5.put (hX5.h.set0 (.string A)) (Only.setCell 0 _))
        have HM : Hid (A.size ≤ 1000) := by show _ ≤ _; omega
        clear hc5 ho5 HX4 hX5 hl v0 v1 hA
        have z0 := HX6.out.h.c0
        have z1 := HX6.out.h.c1
        have z2 := HX6.out.h.c2
        have v0 := HX6.out.res.c0
        have v1 := HX6.out.res.c1
        have v2 := HX6.out.res.c2
        have b0 := HX6.out.res.free 0
        have b1 := HX6.out.res.free 1
        have b2 := HX6.out.res.free 2
        have V9 := Lib.hid (HX6.out.res.set3 (.string A) (.string rest) (.int .i64 n))
        have E9 := Lib.hid (HX6.out.end (.string A) (.string rest) (.int .i64 n))
        go_wp2_with fail
        have d0 := V9.out.c0
        have d1 := V9.out.c1
        have d2 := V9.out.c2
        exact bodyPost_ret (v := .agg #[(.string A), (.string rest), (.int .i64 n)]) (by simp [results, Tryd.results63, go_sem, d0, d1, d2]) rfl ⟨_, _, _, HM.out, (by have := S32.out.2.1; omega), (by have := S32.out.2.2; omega), rfl, E9.out.1, E9.out.2⟩
      · have g1 := HX3.out.h.c1
        have f1 := HX3.out.h.free 1
        have hss : ¬ (9223372036854775807 < rest.size + (⟨#[120]⟩ : ByteArray).size) := by have := S32.out.2.1; show ¬ (9223372036854775807 < rest.size + 1); omega
        have m2 : ∀ X, (Op.stringOp .add rest ⟨#[120]⟩).run Tryd.prog X = .ok (.string (rest ++ ⟨#[120]⟩)) X := fun X => run_string_add_sum X rest ⟨#[120]⟩ (by show rest.size + 1 ≤ _; have := S32.out.2.1; omega)
        have hr1 : Hid ((rest ++ ⟨#[120]⟩).size ≤ 1000) := by show _ ≤ _; rw [ByteArray.size_append]; show rest.size + 1 ≤ 1000; have := S32.out.2.1; omega
        have HX6 := Lib.hid (HX3.out.put (HX3.out.h.set1 (.string (rest ++ ⟨#[120]⟩))) (Only.setCell 1 _))
        clear HX3
        have z0 := HX6.out.h.c0
        have z1 := HX6.out.h.c1
        have z2 := HX6.out.h.c2
        have v0 := HX6.out.res.c0
        have v1 := HX6.out.res.c1
        have v2 := HX6.out.res.c2
        have b0 := HX6.out.res.free 0
        have b1 := HX6.out.res.free 1
        have b2 := HX6.out.res.free 2
        have V9 := Lib.hid (HX6.out.res.set3 (.string st) (.string (rest ++ ⟨#[120]⟩)) (.int .i64 n))
        have E9 := Lib.hid (HX6.out.end (.string st) (.string (rest ++ ⟨#[120]⟩)) (.int .i64 n))
        go_wp2_with fail
        have d0 := V9.out.c0
        have d1 := V9.out.c1
        have d2 := V9.out.c2
        exact bodyPost_ret (v := .agg #[(.string st), (.string (rest ++ ⟨#[120]⟩)), (.int .i64 n)]) (by simp [results, Tryd.results63, go_sem, d0, d1, d2]) rfl ⟨_, _, _, (by have := S32.out.1; omega), hr1.out, (by have := S32.out.2.2; omega), rfl, E9.out.1, E9.out.2⟩
      · have g2 := HX3.out.h.c2
        have hql : q < w3.heap.size := lt_of_block HX3.out.h.row
        have K6 : Hid (∀ X, HX w c a len cap q 42 (.string st) (.string rest) (.int .i64 n) X → (∀ j, j < 4 → X.cell? ⟨w3.heap.size, j, none⟩ = some (.int .i64 (countSteps.getD j 0))) → Calls Tryd.prog 76 #[.pointer (some ⟨c, 0, none⟩), .slice (some ⟨w3.heap.size, 0, none⟩) 4 4] X fun e Y => ∃ v : Int, (-64 ≤ v ∧ v ≤ 1000000000) ∧ e = .returned (.int .i64 v) ∧ HX w c a len cap q 42 (.string st) (.string rest) (.int .i64 n) Y) := fun X hX hcl => by
          refine (pickInt_any w3.heap.size 4 countSteps rfl (by omega) (by omega) (by have := hX.cw; have := hX.qw; omega) X hX.cur hcl).mono ?_
          rintro e Y ⟨v, hv, rfl, hc, ho⟩
          exact ⟨v, countSteps_few v hv, rfl, hX.draw hc ho⟩
        have YA : Hid (HX w c a len cap q 42 (.string st) (.string rest) (.int .i64 n) (w3.alloc (.cells #[.int .i64 64, .int .i64 (-64), .int .i64 1, .int .i64 1000000000] 3)).drew) := (HX3.out.next ((Below.refl _ _).alloc (Nat.le_refl _) _)).drew
        have CL : Hid (∀ j, j < 4 → (w3.alloc (.cells #[.int .i64 64, .int .i64 (-64), .int .i64 1, .int .i64 1000000000] 3)).drew.cell? ⟨w3.heap.size, j, none⟩ = some (.int .i64 (countSteps.getD j 0))) := by
          intro j hj
          have h4 : j = 0 ∨ j = 1 ∨ j = 2 ∨ j = 3 := by omega
          rcases h4 with rfl | rfl | rfl | rfl <;> simp [countSteps]
        have nB := S32.out.2.2
        go_wp2_with fail
        go_region_with (first | (go_at_call 76; refine (K6.out _ YA.out CL.out).mono ?_; rintro e x6 ⟨v, ⟨va, vb⟩, rfl, hX6⟩; have d2 := hX6.h.c2; have f2 := hX6.h.free 2; have qa : IntKind.i64.wrap (n + v) = n + v := (by rw [IntKind.wrap_i64]; omega); have HX7 := Lib.hid (hX6.put (hX6.h.set2 (.int .i64 (n + v))) (Only.setCell 2 _))))
        all_goals
          have z0 := HX7.out.h.c0
          have z1 := HX7.out.h.c1
          have z2 := HX7.out.h.c2
          have v0 := HX7.out.res.c0
          have v1 := HX7.out.res.c1
          have v2 := HX7.out.res.c2
          have b0 := HX7.out.res.free 0
          have b1 := HX7.out.res.free 1
          have b2 := HX7.out.res.free 2
          have V9 := Lib.hid (HX7.out.res.set3 (.string st) (.string rest) (.int .i64 (n + v)))
          have E9 := Lib.hid (HX7.out.end (.string st) (.string rest) (.int .i64 (n + v)))
          go_wp2_with fail
          have d0 := V9.out.c0
          have d1 := V9.out.c1
          have d2 := V9.out.c2
          exact bodyPost_ret (v := .agg #[(.string st), (.string rest), (.int .i64 (n + v))]) (by simp [results, Tryd.results63, go_sem, d0, d1, d2]) rfl ⟨_, _, _, (by have := S32.out.1; omega), (by have := S32.out.2.1; omega), (by have := S32.out.2.2; omega), rfl, E9.out.1, E9.out.2⟩
      · have H5 := Lib.hid (long_any 64 (by omega) 65)
        go_wp2_with fail
        refine (H5.out _).mono ?_
        rintro e w5 ⟨l, hl, rfl, hb5⟩
        have hX5 := HX3.out.next hb5
        obtain ⟨A, hA, AA⟩ : ∃ A : ByteArray, A.size = 64 ∧ Hid (A = ⟨l.toArray⟩) := ⟨_, by show l.toArray.size = 64; simpa using hl, rfl⟩
        rw [← AA.out]
        have g1 := hX5.h.c1
        have f1 := hX5.h.free 1
        have hX6 := hX5.put (hX5.h.set1 (.string A)) (Only.setCell 1 _)
        have g2 := hX6.h.c2
        have f2 := hX6.h.free 2
        have HX7 := Lib.hid (hX6.put (hX6.h.set2 (.int .i64 64)) (Only.setCell 2 _))
        clear hX5 hX6 hb5 hl HX3
        have z0 := HX7.out.h.c0
        have z1 := HX7.out.h.c1
        have z2 := HX7.out.h.c2
        have v0 := HX7.out.res.c0
        have v1 := HX7.out.res.c1
        have v2 := HX7.out.res.c2
        have b0 := HX7.out.res.free 0
        have b1 := HX7.out.res.free 1
        have b2 := HX7.out.res.free 2
        have V9 := Lib.hid (HX7.out.res.set3 (.string st) (.string A) (.int .i64 64))
        have E9 := Lib.hid (HX7.out.end (.string st) (.string A) (.int .i64 64))
        go_wp2_with fail
        have d0 := V9.out.c0
        have d1 := V9.out.c1
        have d2 := V9.out.c2
        exact bodyPost_ret (v := .agg #[(.string st), (.string A), (.int .i64 64)]) (by simp [results, Tryd.results63, go_sem, d0, d1, d2]) rfl ⟨_, _, _, (by have := S32.out.1; omega), (by omega), (by omega), rfl, E9.out.1, E9.out.2⟩
      · have i0 : (y == 0) = false := beq_eq_false_iff_ne.2 (by omega)
        have i1 : (y == 1) = false := beq_eq_false_iff_ne.2 (by omega)
        have i2 : (y == 2) = false := beq_eq_false_iff_ne.2 (by omega)
        have i3 : (y == 3) = false := beq_eq_false_iff_ne.2 (by omega)
        have z0 := HX3.out.h.c0
        have z1 := HX3.out.h.c1
        have z2 := HX3.out.h.c2
        have v0 := HX3.out.res.c0
        have v1 := HX3.out.res.c1
        have v2 := HX3.out.res.c2
        have b0 := HX3.out.res.free 0
        have b1 := HX3.out.res.free 1
        have b2 := HX3.out.res.free 2
        have V9 := Lib.hid (HX3.out.res.set3 (.string st) (.string rest) (.int .i64 n))
        have E9 := Lib.hid (HX3.out.end (.string st) (.string rest) (.int .i64 n))
        go_wp2_with fail
        have d0 := V9.out.c0
        have d1 := V9.out.c1
        have d2 := V9.out.c2
        exact bodyPost_ret (v := .agg #[(.string st), (.string rest), (.int .i64 n)]) (by simp [results, Tryd.results63, go_sem, d0, d1, d2]) rfl ⟨_, _, _, (by have := S32.out.1; omega), (by have := S32.out.2.1; omega), (by have := S32.out.2.2; omega), rfl, E9.out.1, E9.out.2⟩

end Go.Proofs.YtogmmilfdolpnaaDoor
