/-
  The law on routes that are put among others and dropped again: its walk, out of the program's contracts.
-/
import Derived.Test.YtpcdmfimjnhejacRouteAll
import Derived.Test.YtpcdmfimjnhejacLookSpec
import Derived.Test.YtpcdmfimjnhejacDrawRoutes
import Derived.Test.YtpcdmfimjnhejacDrawWords
import Derived.Test.YtpcdmfimjnhejacLawLongestWalk
namespace Go.Proofs.Ytpcdmfimjnhejac
open Go.RowKit

/-- The program's functions of routes answer what the plain functions say. -/
structure RouteFns (L : World → Prop) : Prop where
  stays : ∀ X Y, L X → Below X.heap.size X Y → L Y
  ok : ∀ (v : Value) (xs : List Rt), xs.length ≤ 2000000 → ∀ X, L X → RowR rtRec X v xs → Calls Try.prog 11 #[v] X fun e X' => RoutesEnd xs e ∧ Below X.heap.size X X'
  put : ∀ (v : Value) (xs : List Rt) (ra rn rt : Int), xs.length ≤ 2000000 → (Lit.int .i64 ra).wf = true → (Lit.int .i64 rn).wf = true → ∀ X, L X → RowR rtRec X v xs → Calls Try.prog 8 #[v, .agg #[.int .i64 ra, .int .i64 rn, .int .i64 rt]] X fun e X' => PutEnd xs (ra, rn, rt) X e X' ∧ Below X.heap.size X X'
  drop : ∀ (v : Value) (xs : List Rt) (a n : Int), xs.length ≤ 2000000 → (Lit.int .i64 a).wf = true → (Lit.int .i64 n).wf = true → ∀ X, L X → RowR rtRec X v xs → Calls Try.prog 12 #[v, .agg #[.int .i64 a, .int .i64 n]] X fun e X' => DropEnd xs a n X e X' ∧ Below X.heap.size X X'
  dropTo : ∀ (v : Value) (xs : List Rt) (tt : Int), xs.length ≤ 2000000 → ∀ X, L X → RowR rtRec X v xs → Calls Try.prog 14 #[v, .int .i64 tt] X fun e X' => ∃ v', e = .returned v' ∧ OwnR rtRec X' X.heap.size RTI v' (xs.filter (fun r => r.2.2 != tt)) ∧ Below X.heap.size X X'

/-- What a region about one route holds: its cells, the prefix, both rows. -/
structure RI (w : World) (g j q : Nat) (xa xn pa pn : Int) (lv dv : Value) (xs ds : List Rt) (X : World) : Prop where
  c0 : X.cell? ⟨g, j * 3, none⟩ = some (.int .i64 xa)
  c1 : X.cell? ⟨g, j * 3 + 1, none⟩ = some (.int .i64 xn)
  p0 : X.cell? ⟨q, 0, none⟩ = some (.int .i64 pa)
  p1 : X.cell? ⟨q, 1, none⟩ = some (.int .i64 pn)
  l : RowR rtRec X lv xs
  d : RowR rtRec X dv ds
  below : Below w.heap.size w X
theorem RI.next {w : World} {g j q : Nat} {xa xn pa pn : Int} {lv dv : Value} {xs ds : List Rt} {X Y : World} (h : RI w g j q xa xn pa pn lv dv xs ds X) (hb : Below X.heap.size X Y) : RI w g j q xa xn pa pn lv dv xs ds Y := by
  have hg : g < X.heap.size := cell_size (p := ⟨g, j * 3, none⟩) h.c0
  have hq : q < X.heap.size := cell_size (p := ⟨q, 0, none⟩) h.p0
  refine ⟨?_, ?_, ?_, ?_, h.l.below hb, h.d.below hb, h.below.trans (hb.mono h.below.size)⟩
  · rw [hb.cell (p := ⟨g, j * 3, none⟩) hg]; exact h.c0
  · rw [hb.cell (p := ⟨g, j * 3 + 1, none⟩) hg]; exact h.c1
  · rw [hb.cell (p := ⟨q, 0, none⟩) hq]; exact h.p0
  · rw [hb.cell (p := ⟨q, 1, none⟩) hq]; exact h.p1
theorem RI.all {w : World} {g j q : Nat} {xa xn pa pn : Int} {lv dv : Value} {xs ds : List Rt} {X : World} (h : RI w g j q xa xn pa pn lv dv xs ds X) : X.cell? ⟨g, j * 3, none⟩ = some (.int .i64 xa) ∧ X.cell? ⟨g, j * 3 + 1, none⟩ = some (.int .i64 xn) ∧ X.cell? ⟨q, 0, none⟩ = some (.int .i64 pa) ∧ X.cell? ⟨q, 1, none⟩ = some (.int .i64 pn) ∧ RI w g j q xa xn pa pn lv dv xs ds X := ⟨h.c0, h.c1, h.p0, h.p1, h⟩
theorem dropTo_put (xs : List Rt) (pa pn : Int) (h : ∀ x ∈ xs, x.2.2 ≤ 4) : ((putP xs (pa, pn, 7)).filter (fun r => r.2.2 != 7)) = dropP (putP xs (pa, pn, 7)) pa pn := by
  have e := drop_put xs (pa, pn, 7)
  rw [e]
  unfold putP
  rw [List.filter_append, List.filter_append]
  have k : ∀ p : Rt → Bool, (xs.filter p).filter (fun r => r.2.2 != 7) = xs.filter p := fun p => List.filter_eq_self.2 fun x hx => by
    have := h x (List.mem_filter.1 hx).1
    simp
    omega
  rw [k, k]
  simp
theorem drop_again (ys : List Rt) (a n : Int) : dropP (dropP ys a n) a n = dropP ys a n := by
  unfold dropP
  exact List.filter_eq_self.2 fun x hx => (List.mem_filter.1 hx).2
theorem split_sorted (r : Rt) : ∀ xs : List Rt, xs.Pairwise AheadR → xs.filter (aheadOf r) ++ xs.filter (behind r) = xs.filter (other r.1 r.2.1)
  | [], _ => rfl
  | x :: xs, h => by
    have ih := split_sorted r xs (List.pairwise_cons.1 h).2
    have hx := (List.pairwise_cons.1 h).1
    by_cases h1 : AheadR x r
    · have e1 : aheadOf r x = true := (aheadOf_iff r x).2 h1
      have e2 : behind r x = false := Bool.eq_false_iff.2 fun e => ahead_not h1 ((behind_iff r x).1 e)
      have e3 : other r.1 r.2.1 x = true := (other_iff _ _ _).2 (by unfold AheadR Ahead at h1; omega)
      rw [List.filter_cons_of_pos e1, List.filter_cons_of_neg (by rw [e2]; decide), List.filter_cons_of_pos e3, List.cons_append, ih]
    · have e1 : aheadOf r x = false := Bool.eq_false_iff.2 fun e => h1 ((aheadOf_iff r x).1 e)
      by_cases h2 : AheadR r x
      · have e2 : behind r x = true := (behind_iff r x).2 h2
        have e3 : other r.1 r.2.1 x = true := (other_iff _ _ _).2 (by unfold AheadR Ahead at h2; omega)
        have e4 : xs.filter (aheadOf r) = [] := List.filter_eq_nil_iff.2 fun y hy e => ahead_not (ahead_trans h2 (hx y hy)) ((aheadOf_iff r y).1 e)
        rw [e4, List.nil_append] at ih
        rw [List.filter_cons_of_neg (by rw [e1]; decide), List.filter_cons_of_pos e2, List.filter_cons_of_pos e3, e4, ih]
        rfl
      · have e2 : behind r x = false := Bool.eq_false_iff.2 fun e => h2 ((behind_iff r x).1 e)
        have e3 : other r.1 r.2.1 x = false := Bool.eq_false_iff.2 fun e => by
          have := (other_iff _ _ _).1 e
          unfold AheadR Ahead at h1 h2
          omega
        rw [List.filter_cons_of_neg (by rw [e1]; decide), List.filter_cons_of_neg (by rw [e2]; decide), List.filter_cons_of_neg (by rw [e3]; decide), ih]
/-- As many are left as there were: then all are. -/
theorem drop_same (xs : List Rt) (h : RoutesP xs) (pa pn : Int) (hl : (dropP (putP xs (pa, pn, 7)) pa pn).length = xs.length) : dropP (putP xs (pa, pn, 7)) pa pn = xs := by
  rw [routesP_iff] at h
  have e := drop_put xs (pa, pn, 7)
  rw [e] at hl ⊢
  have e2 : xs.filter (aheadOf (pa, pn, 7)) ++ xs.filter (behind (pa, pn, 7)) = dropP xs pa pn := split_sorted (pa, pn, 7) xs h.2.1
  rw [e2] at hl ⊢
  exact List.filter_eq_self.2 (List.length_filter_eq_length_iff.1 hl)

set_option maxRecDepth 100000 in
set_option maxHeartbeats 400000 in
theorem lawRoutes_big (a : Option Addr) (len cap : Nat) (h : 1048576 < len) (w : World) :
    Calls Try.prog 3 #[.slice a len cap] w fun e w' => e = .returned (.bool true) ∧ Below w.heap.size w w' := by
  have hd : decide (1048576 < (len : Int)) = true := decide_eq_true (by omega)
  have HB := Lib.hid (fun w => bigL_any a len cap w)
  rw [hd] at HB
  clear hd
  go_enter Try.func3, Try.ntmps3
  go_wp2_with fail
  refine (HB.out _).mono ?_
  rintro e w1 ⟨rfl, rfl⟩
  go_wp2_with fail
  go_ret
  exact ⟨rfl, Below.refl _ _⟩

set_option maxRecDepth 100000 in
set_option maxHeartbeats 6400000 in
theorem lawRoutesF (L : World → Prop) (F : RouteFns L) (a : Option Addr) (len cap : Nat) (w : World) (H : Src a len w) (ht : L w) :
    Calls Try.prog 3 #[.slice a len cap] w fun e w' => e = .returned (.bool true) ∧ Below w.heap.size w w' := by
  have hd : decide (1048576 < (len : Int)) = false := decide_eq_false (by have := H.few; omega)
  have HB := Lib.hid (fun w => bigL_any a len cap w)
  rw [hd] at HB
  have HS := Lib.hid H
  have HT : Hid (∀ X, Below w.heap.size w X → L X) := fun X hX => F.stays w X ht hX
  have HF := Lib.hid F
  clear H ht hd F
  go_enter Try.func3, Try.ntmps3
  go_wp2_with fail
  refine (HB.out _).mono ?_
  rintro e w0 ⟨rfl, hw0⟩
  have hw1 := hw0.symm
  subst hw1
  clear hw0
  go_wp2_with fail
  refine (drawRoutes_any a len cap _ HS.out).mono ?_
  rintro e w1 ⟨xs, lv, x0, ⟨hP, hl8, hto⟩, _, rfl, hown, hb1⟩
  have HP := Lib.hid hP
  have HTO := Lib.hid hto
  have HB1 := Lib.hid hb1
  have HR1 := Lib.hid hown.row
  have HS1 := Lib.hid (HS.out.below hb1)
  clear hP hto hb1 hown HB HS
  go_wp2_with fail
  refine (drawAddrs_any a len cap _ HS1.out).mono ?_
  rintro e w2 ⟨g2, cap2, zs, pa, pn, _, _, hpok, rfl, _, _, hb2⟩
  have HPO := Lib.hid hpok
  have HB2 := Lib.hid (HB1.out.trans (hb2.mono HB1.out.size))
  have HR2 := Lib.hid (HR1.out.below hb2)
  have Q3 := Lib.hid (VarA.new w2 29 #[.int .i64 (pa : Int), .int .i64 (pn : Int)])
  have hal : Below w2.heap.size w2 (w2.alloc (.cells #[.int .i64 (pa : Int), .int .i64 (pn : Int)] 29)) := (Below.refl _ _).alloc (Nat.le_refl _) _
  have HB3 := Lib.hid (HB2.out.trans (hal.mono HB2.out.size))
  have HR3 := Lib.hid (HR2.out.below hal)
  have hok7 : RtOk ((pa : Int), (pn : Int), 7) := ⟨HPO.out, by show (1 : Int) ≤ 7; decide, by show (7 : Int) ≤ 99; decide⟩
  have HPP := Lib.hid (put_right xs ((pa : Int), (pn : Int), 7) HP.out hok7 (by omega))
  have hpl := put_length xs ((pa : Int), (pn : Int), 7)
  have HWa := Lib.hid (show (Lit.int .i64 (pa : Int)).wf = true from WalkArith.wf_i64 (by have := hpok.1.2; omega))
  have HWn := Lib.hid (show (Lit.int .i64 (pn : Int)).wf = true from WalkArith.wf_i64 (by have := hpok.2.1.2; omega))
  clear hpok hb2 hal HB1 HR1 HS1 HB2 HR2 hok7
  go_upto_region 5 with fail
  generalize w2.alloc (.cells #[.int .i64 (pa : Int), .int .i64 (pn : Int)] 29) = w3 at *
  generalize hq : w2.heap.size = q at *
  have e0 := Q3.out.cell 0
  have e1 := Q3.out.cell 1
  have KP := Lib.hid (HF.out.put lv xs (pa : Int) (pn : Int) 7 (by omega) HWa.out HWn.out w3 (HT.out _ HB3.out) HR3.out)
  go_wp2_with fail
  refine (KP.out).mono ?_
  rintro e w4 ⟨hend, hb4⟩
  have HB4 := Lib.hid (HB3.out.trans (hb4.mono HB3.out.size))
  have HR4 := Lib.hid (HR3.out.below hb4)
  have Q4 := Lib.hid (Q3.out.next hb4)
  clear hb4 KP HB3 HR3 Q3 e0 e1
  rcases hend with ⟨_, nv, rfl, hn⟩ | ⟨hno, _⟩
  rotate_left
  · exact absurd ⟨HP.out, HPP.out⟩ hno
  obtain ⟨ys, YS⟩ : ∃ ys, Hid (ys = putP xs ((pa : Int), (pn : Int), 7)) := ⟨_, rfl⟩
  have hdl := drop_put_length xs ((pa : Int), (pn : Int), 7)
  have HDS := Lib.hid (drop_same xs HP.out (pa : Int) (pn : Int))
  have HDT := Lib.hid (dropTo_put xs (pa : Int) (pn : Int) HTO.out)
  have hdr := drop_right (putP xs ((pa : Int), (pn : Int), 7)) (pa : Int) (pn : Int) HPP.out
  have hdd := drop_again (putP xs ((pa : Int), (pn : Int), 7)) (pa : Int) (pn : Int)
  simp only at hdl
  rw [← YS.out] at HPP HDS HDT hdl hdr hdd hn hpl
  obtain ⟨ds, DS⟩ : ∃ ds, Hid (ds = dropP ys (pa : Int) (pn : Int)) := ⟨_, rfl⟩
  rw [← DS.out] at HDS HDT hdl hdr hdd
  have HDR := Lib.hid hdr
  have HDD := Lib.hid hdd
  have HN4 := Lib.hid hn.row
  have e0 := Q4.out.cell 0
  have e1 := Q4.out.cell 1
  have KS := Lib.hid (specPutRoute_any lv xs (pa : Int) (pn : Int) 7 (by omega) w4 HR4.out)
  clear hn hdr hdd
  go_wp2_with fail
  refine (KS.out).mono ?_
  rintro e w5 ⟨hend, hb5⟩
  have HB5 := Lib.hid (HB4.out.trans (hb5.mono HB4.out.size))
  have HR5 := Lib.hid (HR4.out.below hb5)
  have HN5 := Lib.hid (HN4.out.below hb5)
  have Q5 := Lib.hid (Q4.out.next hb5)
  clear hb5 KS HB4 HR4 HN4 Q4 e0 e1
  rcases hend with ⟨_, sv, rfl, hsv⟩ | ⟨hno, _⟩
  rotate_left
  · exact absurd ⟨HP.out, by rw [← YS.out]; exact HPP.out⟩ hno
  rw [← YS.out] at hsv
  have KE := Lib.hid (sameRoutes_same nv sv ys (by omega) w5 HN5.out hsv.row)
  clear hsv
  go_wp2_with fail
  refine (KE.out).mono ?_
  rintro e w6 ⟨rfl, hb6⟩
  have HB6 := Lib.hid (HB5.out.trans (hb6.mono HB5.out.size))
  have HR6 := Lib.hid (HR5.out.below hb6)
  have HN6 := Lib.hid (HN5.out.below hb6)
  have Q6 := Lib.hid (Q5.out.next hb6)
  have KO := Lib.hid (HF.out.ok lv xs (by omega) w6 (HT.out _ HB6.out) HR6.out)
  clear hb6 KE HB5 HR5 HN5 Q5
  go_wp2_with fail
  refine (KO.out).mono ?_
  rintro e w7 ⟨hend, hb7⟩
  have HB7 := Lib.hid (HB6.out.trans (hb7.mono HB6.out.size))
  have HR7 := Lib.hid (HR6.out.below hb7)
  have HN7 := Lib.hid (HN6.out.below hb7)
  have Q7 := Lib.hid (Q6.out.next hb7)
  clear hb7 KO HB6 HR6 HN6 Q6
  rcases hend with ⟨_, rfl⟩ | ⟨hno, _⟩
  rotate_left
  · exact absurd HP.out hno
  have KO := Lib.hid (HF.out.ok nv ys (by omega) w7 (HT.out _ HB7.out) HN7.out)
  go_wp2_with fail
  refine (KO.out).mono ?_
  rintro e w8 ⟨hend, hb8⟩
  have HB8 := Lib.hid (HB7.out.trans (hb8.mono HB7.out.size))
  have HR8 := Lib.hid (HR7.out.below hb8)
  have HN8 := Lib.hid (HN7.out.below hb8)
  have Q8 := Lib.hid (Q7.out.next hb8)
  clear hb8 KO HB7 HR7 HN7 Q7
  rcases hend with ⟨_, rfl⟩ | ⟨hno, _⟩
  rotate_left
  · exact absurd HPP.out hno
  have e0 := Q8.out.cell 0
  have e1 := Q8.out.cell 1
  have KD := Lib.hid (HF.out.drop nv ys (pa : Int) (pn : Int) (by omega) HWa.out HWn.out w8 (HT.out _ HB8.out) HN8.out)
  go_wp2_with fail
  refine (KD.out).mono ?_
  rintro e w9 ⟨hend, hb9⟩
  have HB9 := Lib.hid (HB8.out.trans (hb9.mono HB8.out.size))
  have HR9 := Lib.hid (HR8.out.below hb9)
  have HN9 := Lib.hid (HN8.out.below hb9)
  have Q9 := Lib.hid (Q8.out.next hb9)
  clear hb9 KD HB8 HR8 HN8 Q8 e0 e1
  rcases hend with ⟨_, dv, rfl, hdv⟩ | ⟨hno, _⟩
  rotate_left
  · exact absurd ⟨HPP.out, by rw [← DS.out]; omega⟩ hno
  rw [← DS.out] at hdv
  have HD9 := Lib.hid hdv.row
  clear hdv
  have e0 := Q9.out.cell 0
  have e1 := Q9.out.cell 1
  have KD := Lib.hid (HF.out.drop dv ds (pa : Int) (pn : Int) (by omega) HWa.out HWn.out w9 (HT.out _ HB9.out) HD9.out)
  go_wp2_with fail
  refine (KD.out).mono ?_
  rintro e w10 ⟨hend, hb10⟩
  have HB10 := Lib.hid (HB9.out.trans (hb10.mono HB9.out.size))
  have HR10 := Lib.hid (HR9.out.below hb10)
  have HN10 := Lib.hid (HN9.out.below hb10)
  have HD10 := Lib.hid (HD9.out.below hb10)
  have Q10 := Lib.hid (Q9.out.next hb10)
  clear hb10 KD HB9 HR9 HN9 HD9 Q9 e0 e1
  rcases hend with ⟨⟨_, hno⟩, _⟩ | ⟨_, av, rfl, _⟩
  · rw [HDD.out] at hno
    exact absurd rfl hno
  obtain ⟨ao, cp, hlv, hf⟩ := HR10.out.form
  obtain ⟨bo, dp, hdv, _⟩ := HD10.out.form
  obtain ⟨no, np, hnv, _⟩ := HN10.out.form
  subst hlv hdv hnv
  go_wp2_with fail
  go_loopw [15] (fun c wr => ∃ j : Nat, j ≤ xs.length ∧ c = .int .i64 j ∧ Below w10.heap.size w10 wr) (fun c _ => xs.length - (intOf c).toNat)
  case atStart => exact ⟨0, Nat.zero_le _, rfl, Below.refl _ _⟩
  case round =>
    obtain ⟨j, hj, rfl, hb11⟩ := hrel
    have HX := Lib.hid hb11
    clear hb11
    by_cases hlt : j < xs.length
    · have hlt' : (j : Int) < (xs.length : Int) := by omega
      obtain ⟨g, rfl, hg, hcell⟩ := hf (by omega)
      obtain ⟨c0, c1, _⟩ := row_three hcell j xs[j] (List.getElem?_eq_getElem hlt)
      generalize xs[j] = x at c0 c1
      obtain ⟨xa, xn, xt⟩ := x
      obtain ⟨lv, hlv⟩ : ∃ lv, lv = Value.slice (some ⟨g, 0, none⟩) xs.length cp := ⟨_, rfl⟩
      obtain ⟨dv, hdv⟩ : ∃ dv, dv = Value.slice bo ds.length dp := ⟨_, rfl⟩
      have R0 : RI w10 g j q xa xn (pa : Int) (pn : Int) lv dv xs ds w10 := ⟨c0, c1, Q10.out.cell 0, Q10.out.cell 1, by rw [hlv]; exact HR10.out, by rw [hdv]; exact HD10.out, Below.refl _ _⟩
      have R1 := Lib.hid (R0.next HX.out)
      clear hcell hf c0 c1 R0
      by_cases hsame : xa = (pa : Int) ∧ xn = (pn : Int)
      · obtain ⟨rfl, rfl⟩ := hsame
        have hq2 := fun X => pref_same (pa : Int) (pn : Int) X
        have c0 := R1.out.c0
        have c1 := R1.out.c1
        have p0 := R1.out.p0
        have p1 := R1.out.p1
        clear hlv hdv
        go_wp2_with fail
        go_quiet (fail)
        go_wp2_with fail
        go_roundw
        case rel => exact ⟨j + 1, by omega, by go_num, below_drewN HX.out _⟩
        case measure => simp [intOf]; omega
      · have hne : (xa == (pa : Int) && xn == (pn : Int)) = false := by
          rw [Bool.and_eq_false_iff, beq_eq_false_iff_ne, beq_eq_false_iff_ne]
          by_cases h1 : xa = (pa : Int)
          · exact .inr fun h2 => hsame ⟨h1, h2⟩
          · exact .inl h1
        have hq2 : ∀ X, (Op.equalIn 10000 29 (.agg #[.int .i64 xa, .int .i64 xn]) (.agg #[.int .i64 (pa : Int), .int .i64 (pn : Int)])).run Try.prog X = .ok false X := fun X => by rw [pref_eq, hne]
        obtain ⟨l1, L1⟩ : ∃ l, Hid (l = (lookTo xa xs).2) := ⟨_, rfl⟩
        obtain ⟨l2, L2⟩ : ∃ l, Hid (l = (lookTo xa ds).2) := ⟨_, rfl⟩
        have K1 : Hid (∀ X, (X.cell? ⟨g, j * 3, none⟩ = some (.int .i64 xa) ∧ X.cell? ⟨g, j * 3 + 1, none⟩ = some (.int .i64 xn) ∧ X.cell? ⟨q, 0, none⟩ = some (.int .i64 (pa : Int)) ∧ X.cell? ⟨q, 1, none⟩ = some (.int .i64 (pn : Int)) ∧ RI w10 g j q xa xn (pa : Int) (pn : Int) lv dv xs ds X) → Calls Try.prog 13 #[lv, .int .i64 xa] X fun e Y => e = .returned (.int .i64 l1) ∧ (Y.cell? ⟨g, j * 3, none⟩ = some (.int .i64 xa) ∧ Y.cell? ⟨g, j * 3 + 1, none⟩ = some (.int .i64 xn) ∧ Y.cell? ⟨q, 0, none⟩ = some (.int .i64 (pa : Int)) ∧ Y.cell? ⟨q, 1, none⟩ = some (.int .i64 (pn : Int)) ∧ RI w10 g j q xa xn (pa : Int) (pn : Int) lv dv xs ds Y)) := fun X hX => by
          have h := specLookUp_right lv xs xa (by omega) X hX.2.2.2.2.l HP.out
          rw [← L1.out] at h
          refine h.mono ?_
          rintro e Y ⟨rfl, hb⟩
          exact ⟨rfl, (hX.2.2.2.2.next hb).all⟩
        have K2 : Hid (∀ X, (X.cell? ⟨g, j * 3, none⟩ = some (.int .i64 xa) ∧ X.cell? ⟨g, j * 3 + 1, none⟩ = some (.int .i64 xn) ∧ X.cell? ⟨q, 0, none⟩ = some (.int .i64 (pa : Int)) ∧ X.cell? ⟨q, 1, none⟩ = some (.int .i64 (pn : Int)) ∧ RI w10 g j q xa xn (pa : Int) (pn : Int) lv dv xs ds X) → Calls Try.prog 13 #[dv, .int .i64 xa] X fun e Y => e = .returned (.int .i64 l2) ∧ (Y.cell? ⟨g, j * 3, none⟩ = some (.int .i64 xa) ∧ Y.cell? ⟨g, j * 3 + 1, none⟩ = some (.int .i64 xn) ∧ Y.cell? ⟨q, 0, none⟩ = some (.int .i64 (pa : Int)) ∧ Y.cell? ⟨q, 1, none⟩ = some (.int .i64 (pn : Int)) ∧ RI w10 g j q xa xn (pa : Int) (pn : Int) lv dv xs ds Y)) := fun X hX => by
          have h := specLookUp_right dv ds xa (by omega) X hX.2.2.2.2.d HDR.out
          rw [← L2.out] at h
          refine h.mono ?_
          rintro e Y ⟨rfl, hb⟩
          exact ⟨rfl, (hX.2.2.2.2.next hb).all⟩
        have E0 := Lib.hid (R1.out.next ((Below.refl _ _).drew))
        subst hlv hdv
        by_cases hl : l1 = l2
        · have hl3 : (l1 != l2) = false := by rw [bne_eq_false_iff_eq]; exact hl
          clear hne hsame hl
          go_wp2_with fail
          refine wp_region_held_drew (S := fun X => X.cell? ⟨g, j * 3, none⟩ = some (.int .i64 xa) ∧ X.cell? ⟨g, j * 3 + 1, none⟩ = some (.int .i64 xn) ∧ X.cell? ⟨q, 0, none⟩ = some (.int .i64 (pa : Int)) ∧ X.cell? ⟨q, 1, none⟩ = some (.int .i64 (pn : Int)) ∧ RI w10 g j q xa xn (pa : Int) (pn : Int) (Value.slice (some ⟨g, 0, none⟩) xs.length cp) (Value.slice bo ds.length dp) xs ds X) (by kernel_rfl) E0.out.all (fun hHeld => ?_)
          refine wpAnyH_take (i := 0) (v := ?_) rfl (by kernel_rfl) (by kernel_rfl) (by kernel_rfl) (fun _ _ _ h => h) (Or.inl ⟨by kernel_rfl, ?_⟩) (by assumption) ?_
          rotate_left
          · intro X hX
            first | (go_simp; done) | (go_simp; with_reducible rfl)
          simp only [Act.put, List.getElem_toArray, List.getElem_cons_zero, List.setIfInBounds_toArray, List.set_cons_zero, List.set_cons_succ]
          refine wpAnyH_take (i := 1) (v := ?_) rfl (by kernel_rfl) (by kernel_rfl) (by kernel_rfl) (fun _ _ _ h => h) (Or.inl ⟨by kernel_rfl, ?_⟩) (by assumption) ?_
          rotate_left
          · intro X hX
            first | (go_simp; done) | (go_simp; with_reducible rfl)
          simp only [Act.put, List.getElem_toArray, List.getElem_cons_succ, List.getElem_cons_zero, List.setIfInBounds_toArray, List.set_cons_zero, List.set_cons_succ]
          refine wpAnyH_take (i := 2) (v := ?_) rfl (by kernel_rfl) (by kernel_rfl) (by kernel_rfl) (fun _ _ _ h => h) (Or.inl ⟨by kernel_rfl, ?_⟩) (by assumption) ?_
          rotate_left
          · intro X hX
            first | (go_simp; done) | (go_simp; with_reducible rfl)
          simp only [Act.put, List.getElem_toArray, List.getElem_cons_succ, List.getElem_cons_zero, List.setIfInBounds_toArray, List.set_cons_zero, List.set_cons_succ]
          refine wpAnyH_take (i := 3) (v := ?_) rfl (by kernel_rfl) (by kernel_rfl) (by kernel_rfl) (fun _ _ _ h => h) (Or.inl ⟨by kernel_rfl, ?_⟩) (by assumption) ?_
          rotate_left
          · intro X hX
            first | (go_simp; done) | (go_simp; with_reducible rfl)
          simp only [Act.put, List.getElem_toArray, List.getElem_cons_succ, List.getElem_cons_zero, List.setIfInBounds_toArray, List.set_cons_zero, List.set_cons_succ]
          refine wpAnyH_take (i := 4) (v := ?_) rfl (by kernel_rfl) (by kernel_rfl) (by kernel_rfl) (fun _ _ _ h => h) (Or.inl ⟨by kernel_rfl, ?_⟩) (by assumption) ?_
          rotate_left
          · intro X hX
            obtain ⟨hc0, hc1, hp0, hp1, hRI⟩ := hX
            first | (go_simp; done) | (go_simp; with_reducible rfl)
          simp only [Act.put, List.getElem_toArray, List.getElem_cons_succ, List.getElem_cons_zero, List.setIfInBounds_toArray, List.set_cons_zero, List.set_cons_succ]
          refine wpAnyH_take (i := 5) (v := ?_) rfl (by kernel_rfl) (by kernel_rfl) (by kernel_rfl) (fun _ _ _ h => h) (Or.inl ⟨by kernel_rfl, ?_⟩) (by assumption) ?_
          rotate_left
          · intro X hX
            obtain ⟨hc0, hc1, hp0, hp1, hRI⟩ := hX
            first | (go_simp; done) | (go_simp; with_reducible rfl)
          simp only [Act.put, List.getElem_toArray, List.getElem_cons_succ, List.getElem_cons_zero, List.setIfInBounds_toArray, List.set_cons_zero, List.set_cons_succ]
          refine wpAnyH_take (i := 6) (v := ?_) rfl (by kernel_rfl) (by kernel_rfl) (by kernel_rfl) (fun _ _ _ h => h) (Or.inl ⟨by kernel_rfl, ?_⟩) (by assumption) ?_
          rotate_left
          · intro X hX
            first | (go_simp; done) | (go_simp; with_reducible rfl)
          simp only [Act.put, List.getElem_toArray, List.getElem_cons_succ, List.getElem_cons_zero, List.setIfInBounds_toArray, List.set_cons_zero, List.set_cons_succ]
          refine wpAnyH_take (i := 7) (v := ?_) rfl (by kernel_rfl) (by kernel_rfl) (by kernel_rfl) (fun _ _ _ h => h) (Or.inl ⟨by kernel_rfl, ?_⟩) (by assumption) ?_
          rotate_left
          · intro X hX
            first | (go_simp; done) | (go_simp; with_reducible rfl)
          simp only [Act.put, List.getElem_toArray, List.getElem_cons_succ, List.getElem_cons_zero, List.setIfInBounds_toArray, List.set_cons_zero, List.set_cons_succ]
          refine wpAnyH_take (i := 8) (v := ?_) rfl (by kernel_rfl) (by kernel_rfl) (by kernel_rfl) (fun _ _ _ h => h) (Or.inl ⟨by kernel_rfl, ?_⟩) (by assumption) ?_
          rotate_left
          · intro X hX
            first | (go_simp; done) | (go_simp; with_reducible rfl)
          simp only [Act.put, List.getElem_toArray, List.getElem_cons_succ, List.getElem_cons_zero, List.setIfInBounds_toArray, List.set_cons_zero, List.set_cons_succ]
          refine wpAnyH_take (i := 9) (v := ?_) rfl (by kernel_rfl) (by kernel_rfl) (by kernel_rfl) (fun _ _ _ h => h) (Or.inl ⟨by kernel_rfl, ?_⟩) (by assumption) ?_
          rotate_left
          · intro X hX
            first | (go_simp; done) | (go_simp; with_reducible rfl)
          simp only [Act.put, List.getElem_toArray, List.getElem_cons_succ, List.getElem_cons_zero, List.setIfInBounds_toArray, List.set_cons_zero, List.set_cons_succ]
          refine wpAnyH_take (i := 10) (v := ?_) rfl (by kernel_rfl) (by kernel_rfl) (by kernel_rfl) (fun _ _ _ h => h) (Or.inl ⟨by kernel_rfl, ?_⟩) (by assumption) ?_
          rotate_left
          · intro X hX
            first | (go_simp; done) | (go_simp; with_reducible rfl)
          simp only [Act.put, List.getElem_toArray, List.getElem_cons_succ, List.getElem_cons_zero, List.setIfInBounds_toArray, List.set_cons_zero, List.set_cons_succ]
          refine wpAnyH_take (i := 11) (v := ?_) rfl (by kernel_rfl) (by kernel_rfl) (by kernel_rfl) (fun _ _ _ h => h) (Or.inl ⟨by kernel_rfl, ?_⟩) (by assumption) ?_
          rotate_left
          · intro X hX
            first | (go_simp; done) | (go_simp; with_reducible rfl)
          simp only [Act.put, List.getElem_toArray, List.getElem_cons_succ, List.getElem_cons_zero, List.setIfInBounds_toArray, List.set_cons_zero, List.set_cons_succ]
          refine wpAnyH_take (i := 12) (v := ?_) rfl (by kernel_rfl) (by kernel_rfl) (by kernel_rfl) (fun _ _ _ h => h) (Or.inl ⟨by kernel_rfl, ?_⟩) (by assumption) ?_
          rotate_left
          · intro X hX
            first | (go_simp; done) | (go_simp; with_reducible rfl)
          simp only [Act.put, List.getElem_toArray, List.getElem_cons_succ, List.getElem_cons_zero, List.setIfInBounds_toArray, List.set_cons_zero, List.set_cons_succ]
          refine wpAnyH_take (i := 13) (v := ?_) rfl (by kernel_rfl) (by kernel_rfl) (by kernel_rfl) (fun _ _ _ h => h) (Or.inl ⟨by kernel_rfl, ?_⟩) (by assumption) ?_
          rotate_left
          · intro X hX
            first | (go_simp; done) | (go_simp; with_reducible rfl)
          simp only [Act.put, List.getElem_toArray, List.getElem_cons_succ, List.getElem_cons_zero, List.setIfInBounds_toArray, List.set_cons_zero, List.set_cons_succ]
          refine wpAnyH_take (i := 14) (v := ?_) rfl (by kernel_rfl) (by kernel_rfl) (by kernel_rfl) (fun _ _ _ h => h) (Or.inl ⟨by kernel_rfl, ?_⟩) (by assumption) ?_
          rotate_left
          · intro X hX
            obtain ⟨hc0, hc1, hp0, hp1, hRI⟩ := hX
            first | (go_simp; done) | (go_simp; with_reducible rfl)
          simp only [Act.put, List.getElem_toArray, List.getElem_cons_succ, List.getElem_cons_zero, List.setIfInBounds_toArray, List.set_cons_zero, List.set_cons_succ]
          refine wpAnyH_take (i := 16) (v := ?_) rfl (by kernel_rfl) (by kernel_rfl) (by kernel_rfl) (fun _ _ _ h => h) (Or.inl ⟨by kernel_rfl, ?_⟩) (by assumption) ?_
          rotate_left
          · intro X hX
            first | (go_simp; done) | (go_simp; with_reducible rfl)
          simp only [Act.put, List.getElem_toArray, List.getElem_cons_succ, List.getElem_cons_zero, List.setIfInBounds_toArray, List.set_cons_zero, List.set_cons_succ]
          refine wpAnyH_take (i := 17) (v := ?_) rfl (by kernel_rfl) (by kernel_rfl) (by kernel_rfl) (fun _ _ _ h => h) (Or.inl ⟨by kernel_rfl, ?_⟩) (by assumption) ?_
          rotate_left
          · intro X hX
            first | (go_simp; done) | (go_simp; with_reducible rfl)
          simp only [Act.put, List.getElem_toArray, List.getElem_cons_succ, List.getElem_cons_zero, List.setIfInBounds_toArray, List.set_cons_zero, List.set_cons_succ]
          refine wpAnyH_take (i := 18) (v := ?_) rfl (by kernel_rfl) (by kernel_rfl) (by kernel_rfl) (fun _ _ _ h => h) (Or.inl ⟨by kernel_rfl, ?_⟩) (by assumption) ?_
          rotate_left
          · intro X hX
            first | (go_simp; done) | (go_simp; with_reducible rfl)
          simp only [Act.put, List.getElem_toArray, List.getElem_cons_succ, List.getElem_cons_zero, List.setIfInBounds_toArray, List.set_cons_zero, List.set_cons_succ]
          refine wpAnyH_take (i := 19) (v := ?_) rfl (by kernel_rfl) (by kernel_rfl) (by kernel_rfl) (fun _ _ _ h => h) (Or.inl ⟨by kernel_rfl, ?_⟩) (by assumption) ?_
          rotate_left
          · intro X hX
            first | (go_simp; done) | (go_simp; with_reducible rfl)
          simp only [Act.put, List.getElem_toArray, List.getElem_cons_succ, List.getElem_cons_zero, List.setIfInBounds_toArray, List.set_cons_zero, List.set_cons_succ]
          refine wpAnyH_take (i := 20) (v := ?_) rfl (by kernel_rfl) (by kernel_rfl) (by kernel_rfl) (fun _ _ _ h => h) (Or.inl ⟨by kernel_rfl, ?_⟩) (by assumption) ?_
          rotate_left
          · intro X hX
            first | (go_simp; done) | (go_simp; with_reducible rfl)
          simp only [Act.put, List.getElem_toArray, List.getElem_cons_succ, List.getElem_cons_zero, List.setIfInBounds_toArray, List.set_cons_zero, List.set_cons_succ]
          refine wpAnyH_take (i := 21) (v := ?_) rfl (by kernel_rfl) (by kernel_rfl) (by kernel_rfl) (fun _ _ _ h => h) (Or.inl ⟨by kernel_rfl, ?_⟩) (by assumption) ?_
          rotate_left
          · intro X hX
            first | (go_simp; done) | (go_simp; with_reducible rfl)
          simp only [Act.put, List.getElem_toArray, List.getElem_cons_succ, List.getElem_cons_zero, List.setIfInBounds_toArray, List.set_cons_zero, List.set_cons_succ]
          refine wpAnyH_take (i := 22) (v := ?_) rfl (by kernel_rfl) (by kernel_rfl) (by kernel_rfl) (fun _ _ _ h => h) (Or.inl ⟨by kernel_rfl, ?_⟩) (by assumption) ?_
          rotate_left
          · intro X hX
            obtain ⟨hc0, hc1, hp0, hp1, hRI⟩ := hX
            first | (go_simp; done) | (go_simp; with_reducible rfl)
          simp only [Act.put, List.getElem_toArray, List.getElem_cons_succ, List.getElem_cons_zero, List.setIfInBounds_toArray, List.set_cons_zero, List.set_cons_succ]
          refine wpAnyH_ready (rs := [15]) (by kernel_rfl) (by simp) ?_
          refine AllReadyH.cons rfl (fun K hK => ?_) AllReadyH.nil
          go_simp
          go_wp2_with ((go_at_call 13; refine (K1.out _ hHeld).mono ?_; rintro e v1 ⟨rfl, hS⟩))
          refine hK.out _ _ hS (fun hHeld => ?_)
          clear hK K
          clear hS
          refine wpAnyH_ready (rs := [23]) (by kernel_rfl) (by simp) ?_
          refine AllReadyH.cons rfl (fun K hK => ?_) AllReadyH.nil
          go_simp
          go_wp2_with ((go_at_call 13; refine (K2.out _ hHeld).mono ?_; rintro e v1 ⟨rfl, hS⟩))
          refine hK.out _ _ hS (fun hHeld => ?_)
          clear hK K
          refine wpAnyH_take (i := 24) (v := ?_) rfl (by kernel_rfl) (by kernel_rfl) (by kernel_rfl) (fun _ _ _ h => h) (Or.inl ⟨by kernel_rfl, ?_⟩) (by assumption) ?_
          rotate_left
          · intro X hX
            first | (go_simp; done) | (go_simp; with_reducible rfl)
          simp only [Act.put, List.getElem_toArray, List.getElem_cons_succ, List.getElem_cons_zero, List.setIfInBounds_toArray, List.set_cons_zero, List.set_cons_succ]
          refine wpAnyH_take (i := 25) (v := ?_) rfl (by kernel_rfl) (by kernel_rfl) (by kernel_rfl) (fun _ _ _ h => h) (Or.inl ⟨by kernel_rfl, ?_⟩) (by assumption) ?_
          rotate_left
          · intro X hX
            first | (go_simp; done) | (go_simp; with_reducible rfl)
          simp only [Act.put, List.getElem_toArray, List.getElem_cons_succ, List.getElem_cons_zero, List.setIfInBounds_toArray, List.set_cons_zero, List.set_cons_succ]
          refine wpAnyH_take (i := 26) (v := ?_) rfl (by kernel_rfl) (by kernel_rfl) (by kernel_rfl) (fun _ _ _ h => h) (Or.inl ⟨by kernel_rfl, ?_⟩) (by assumption) ?_
          rotate_left
          · intro X hX
            first | (go_simp; done) | (go_simp; with_reducible rfl)
          simp only [Act.put, List.getElem_toArray, List.getElem_cons_succ, List.getElem_cons_zero, List.setIfInBounds_toArray, List.set_cons_zero, List.set_cons_succ]
          refine wpAnyH_take (i := 27) (v := undef) rfl (by kernel_rfl) (by kernel_rfl) (by kernel_rfl) (fun _ _ _ h => h) (Or.inr ⟨by kernel_rfl, rfl⟩) (by assumption) ?_
          simp only [Act.put, List.getElem_toArray, List.getElem_cons_succ, List.getElem_cons_zero, List.setIfInBounds_toArray, List.set_cons_zero, List.set_cons_succ]
          refine wpAnyH_take (i := 28) (v := undef) rfl (by kernel_rfl) (by kernel_rfl) (by kernel_rfl) (fun _ _ _ h => h) (Or.inr ⟨by kernel_rfl, rfl⟩) (by assumption) ?_
          simp only [Act.put, List.getElem_toArray, List.getElem_cons_succ, List.getElem_cons_zero, List.setIfInBounds_toArray, List.set_cons_zero, List.set_cons_succ]
          refine wpAnyH_take (i := 29) (v := undef) rfl (by kernel_rfl) (by kernel_rfl) (by kernel_rfl) (fun _ _ _ h => h) (Or.inr ⟨by kernel_rfl, rfl⟩) (by assumption) ?_
          simp only [Act.put, List.getElem_toArray, List.getElem_cons_succ, List.getElem_cons_zero, List.setIfInBounds_toArray, List.set_cons_zero, List.set_cons_succ]
          refine wpAnyH_take (i := 30) (v := undef) rfl (by kernel_rfl) (by kernel_rfl) (by kernel_rfl) (fun _ _ _ h => h) (Or.inr ⟨by kernel_rfl, rfl⟩) (by assumption) ?_
          simp only [Act.put, List.getElem_toArray, List.getElem_cons_succ, List.getElem_cons_zero, List.setIfInBounds_toArray, List.set_cons_zero, List.set_cons_succ]
          refine wpAnyH_take (i := 31) (v := undef) rfl (by kernel_rfl) (by kernel_rfl) (by kernel_rfl) (fun _ _ _ h => h) (Or.inr ⟨by kernel_rfl, rfl⟩) (by assumption) ?_
          simp only [Act.put, List.getElem_toArray, List.getElem_cons_succ, List.getElem_cons_zero, List.setIfInBounds_toArray, List.set_cons_zero, List.set_cons_succ]
          refine wpAnyH_take (i := 32) (v := ?_) rfl (by kernel_rfl) (by kernel_rfl) (by kernel_rfl) (fun _ _ _ h => h) (Or.inl ⟨by kernel_rfl, ?_⟩) (by assumption) ?_
          rotate_left
          · intro X hX
            first | (go_simp; done) | (go_simp; with_reducible rfl)
          simp only [Act.put, List.getElem_toArray, List.getElem_cons_succ, List.getElem_cons_zero, List.setIfInBounds_toArray, List.set_cons_zero, List.set_cons_succ]
          refine wpAnyH_done (by kernel_rfl) ?_ _
          have HZ := Lib.hid hS.2.2.2.2.below
          clear hS
          go_wp2_with fail
          go_roundw
          case rel => exact ⟨j + 1, by omega, by go_num, HZ.out⟩
          case measure => simp [intOf]; omega
        · have hl3 : (l1 != l2) = true := by rw [bne_iff_ne]; exact hl
          have hlen : ((ds.length : Int) == (xs.length : Int)) = false := by
            rw [beq_eq_false_iff_ne]
            intro h
            exact hl (by rw [L1.out, L2.out, HDS.out (by omega)])
          clear hl hne hsame
          go_wp2_with fail
          go_region_held3 (fun X => X.cell? ⟨g, j * 3, none⟩ = some (.int .i64 xa) ∧ X.cell? ⟨g, j * 3 + 1, none⟩ = some (.int .i64 xn) ∧ X.cell? ⟨q, 0, none⟩ = some (.int .i64 (pa : Int)) ∧ X.cell? ⟨q, 1, none⟩ = some (.int .i64 (pn : Int)) ∧ RI w10 g j q xa xn (pa : Int) (pn : Int) (Value.slice (some ⟨g, 0, none⟩) xs.length cp) (Value.slice bo ds.length dp) xs ds X) (first | (with_reducible assumption) | (with_reducible exact E0.out.all)) (first | (go_at_call_of 13 (Value.slice (some ⟨g, 0, none⟩) xs.length cp); refine (K1.out _ (by assumption)).mono ?_; rintro e v1 ⟨rfl, hS1⟩) | (go_at_call_of 13 (Value.slice bo ds.length dp); refine (K2.out _ (by assumption)).mono ?_; rintro e v1 ⟨rfl, hS1⟩))
          all_goals
            have HZ := Lib.hid hS1.2.2.2.2.below
            clear hS1
            go_wp2_with fail
            go_roundw
            case rel => exact ⟨j + 1, by omega, by go_num, HZ.out⟩
            case measure => simp [intOf]; omega
    · have hlt' : ¬ ((j : Int) < (xs.length : Int)) := by omega
      have HB11 := Lib.hid (HB10.out.trans (HX.out.mono HB10.out.size))
      have HN11 := Lib.hid (HN10.out.below HX.out)
      have HD11 := Lib.hid (HD10.out.below HX.out)
      have KT := Lib.hid (HF.out.dropTo _ ys 7 (by omega) wr (HT.out _ HB11.out) HN11.out)
      clear hf HX
      go_wp2_with fail
      refine (KT.out).mono ?_
      rintro e w12 ⟨tv, rfl, htv, hb12⟩
      have HB12 := Lib.hid (HB11.out.trans (hb12.mono HB11.out.size))
      have HD12 := Lib.hid (HD11.out.below hb12)
      have hts : ∀ x ∈ ys.filter (fun r => r.2.2 != 7), (x.2.2 == 7) = false := fun x hx => by
        have := (List.mem_filter.1 hx).2
        rw [bne_iff_ne] at this
        rw [beq_eq_false_iff_ne]
        exact this
      rw [HDT.out] at htv hts
      obtain ⟨to1, tp, htf, hft⟩ := htv.row.form
      subst htf
      have HTS := Lib.hid hts
      clear htv hb12 KT HB11 HN11 HD11 hts
      go_wp2_with fail
      go_loopw [17] (fun c wr2 => ∃ j : Nat, j ≤ ds.length ∧ c = .int .i64 j ∧ wr2 = w12) (fun c _ => ds.length - (intOf c).toNat)
      case atStart => exact ⟨0, Nat.zero_le _, rfl, by first | trivial | rfl⟩
      case round =>
        obtain ⟨i, hi, rfl, rfl⟩ := hrel
        by_cases hli : i < ds.length
        · have hli' : (i : Int) < (ds.length : Int) := by omega
          obtain ⟨g, rfl, hg, hcell⟩ := hft (by omega)
          obtain ⟨_, _, c2⟩ := row_three hcell i ds[i] (List.getElem?_eq_getElem hli)
          have h7 := HTS.out ds[i] (List.getElem_mem _)
          generalize ds[i] = x at c2 h7
          obtain ⟨xa, xn, xt⟩ := x
          simp only at c2 h7
          clear hcell hft
          go_wp2_with fail
          go_roundw
          case rel => exact ⟨i + 1, by omega, by go_num, by first | trivial | rfl⟩
          case measure => simp [intOf]; omega
        · have hli' : ¬ ((i : Int) < (ds.length : Int)) := by omega
          have KO := Lib.hid (HF.out.ok _ ds (by omega) _ (HT.out _ HB12.out) HD12.out)
          have hl9 : ((ds.length : Int) + 1 == (ys.length : Int)) = true := by rw [beq_iff_eq]; omega
          have hl8 : IntKind.i64.wrap ((ds.length : Int) + 1) = (ds.length : Int) + 1 := by rw [IntKind.wrap_i64]; omega
          clear hft
          go_wp2_with fail
          refine (KO.out).mono ?_
          rintro e w13 ⟨hend, hb13⟩
          have HB13 := Lib.hid (HB12.out.trans (hb13.mono HB12.out.size))
          clear hb13 KO
          rcases hend with ⟨_, rfl⟩ | ⟨hno, _⟩
          rotate_left
          · exact absurd HDR.out hno
          go_wp2_with fail
          go_ret
          exact ⟨rfl, HB13.out⟩

end Go.Proofs.Ytpcdmfimjnhejac
