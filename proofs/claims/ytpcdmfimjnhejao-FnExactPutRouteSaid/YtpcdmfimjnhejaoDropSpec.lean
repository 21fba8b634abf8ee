/-
  The given DropRoute.
-/
import Derived.Test.YtpcdmfimjnhejaoPutSpec
import Derived.Test.YtpcdmfimjnhejaoPrefEq
namespace Go.Proofs.Ytpcdmfimjnhejao
open Go.RowKit

/-- Whether a route has another prefix. -/
def other (a n : Int) (x : Rt) : Bool := !(x.1 == a && x.2.1 == n)
def dropP (xs : List Rt) (a n : Int) : List Rt := xs.filter (other a n)
/-- A boxed prefix in block w.heap.size, a row of routes of the call's own, what lies below as it was. -/
structure DH (w : World) (a n : Int) (v : Value) (os : List Rt) (X : World) : Prop where
  p : VarP w.heap.size PT (.int .i64 a) (.int .i64 n) X
  own : OwnR rtRec X (w.heap.size + 1) RT3 v os
  below : Below w.heap.size w X
theorem DH.next {w : World} {a n : Int} {v : Value} {os : List Rt} {X Y : World} (h : DH w a n v os X) (hb : Below X.heap.size X Y) : DH w a n v os Y := ⟨h.p.next hb, h.own.below hb, h.below.trans (hb.mono h.below.size)⟩
theorem DH.size {w : World} {a n : Int} {v : Value} {os : List Rt} {X : World} (h : DH w a n v os X) : w.heap.size + 1 ≤ X.heap.size := lt_of_block h.p.row
theorem DH.drewN {w : World} {a n : Int} {v : Value} {os : List Rt} {X : World} (h : DH w a n v os X) (m : Nat) : DH w a n v os (X.drewN m) := h.next (below_drewN (Below.refl _ X) m)
theorem DH.grow {w : World} {a n : Int} {v v' : Value} {os os' : List Rt} {X Y : World} (h : DH w a n v os X) (ho : OwnR rtRec Y (w.heap.size + 1) RT3 v' os') (hb : Below (w.heap.size + 1) X Y) : DH w a n v' os' Y :=
  ⟨⟨by rw [hb.block _ (by omega)]; exact h.p.row⟩, ho, h.below.trans (hb.mono (by omega))⟩
/-- How DropRoute ends. -/
def DropEnd (xs : List Rt) (a n : Int) (w : World) (e : Ending) (w' : World) : Prop :=
  ((RoutesP xs ∧ (dropP xs a n).length ≠ xs.length) ∧ ∃ v', e = .returned (.tuple #[v', .bool true]) ∧ OwnR rtRec w' w.heap.size RT3 v' (dropP xs a n)) ∨ (¬ (RoutesP xs ∧ (dropP xs a n).length ≠ xs.length) ∧ ∃ v', e = .returned (.tuple #[v', .bool false]) ∧ OwnR rtRec w' w.heap.size RT3 v' xs)

set_option maxRecDepth 100000 in
set_option maxHeartbeats 3200000 in
theorem specDropRoute_any (v : Value) (xs : List Rt) (a n : Int) (hl : xs.length ≤ 2000000) (w : World) (hr : RowR rtRec w v xs) :
    Calls Try.prog 18 #[v, .agg #[.int .i64 a, .int .i64 n]] w fun e w' => DropEnd xs a n w e w' ∧ Below w.heap.size w w' := by
  have HR := Lib.hid hr
  obtain ⟨ao, cp, rfl, hf⟩ := hr.form
  clear hr
  obtain ⟨i0, z0, hi, hz0, hzs, hsz0, hby0⟩ := info_rec infoRoute
  go_enter Try.func18, Try.ntmps18
  go_wp2_with fail
  go_loopw [6, 7] (fun o c wr => ∃ (k : Nat) (v0 : Value), k ≤ xs.length ∧ v0 = o ∧ c = .int .i64 k ∧ DH w a n v0 ((xs.take k).filter (other a n)) wr) (fun _ c _ => xs.length - (intOf c).toNat)
  case atStart =>
    have e1 : (w.alloc (.cells #[.int .i64 a, .int .i64 n] PT)).heap.size = w.heap.size + 1 := by simp
    have h1 := OwnR.lit (R := rtRec) (w.alloc (.cells #[.int .i64 a, .int .i64 n] PT)) (w.heap.size + 1) RT3 (by rw [e1]; exact Nat.le_refl _)
    rw [e1] at h1
    have hb : Below (w.alloc (.cells #[.int .i64 a, .int .i64 n] PT)).heap.size (w.alloc (.cells #[.int .i64 a, .int .i64 n] PT)) ((w.alloc (.cells #[.int .i64 a, .int .i64 n] PT)).alloc (.cells #[] RT3)) := (Below.refl _ _).alloc (Nat.le_refl _) _
    exact ⟨0, _, Nat.zero_le _, rfl, rfl, (VarP.new w PT _ _).next hb, h1, ((Below.refl w.heap.size w).alloc (Nat.le_refl _) _).alloc (by simp) _⟩
  case round =>
    obtain ⟨k, v0, hk, rfl, rfl, hph⟩ := hrel
    have HP := Lib.hid hph
    clear hph
    by_cases hlt : k < xs.length
    · have hlt' : (k : Int) < (xs.length : Int) := by omega
      obtain ⟨g, rfl, hg, hcell⟩ := hf (by omega)
      have hxk : xs[k]? = some xs[k] := List.getElem?_eq_getElem hlt
      obtain ⟨c0, c1, c2⟩ := row_three hcell k xs[k] hxk
      have hbd := HP.out.below
      rw [← hbd.cell (p := ⟨g, k * 3, none⟩) hg] at c0
      rw [← hbd.cell (p := ⟨g, k * 3 + 1, none⟩) hg] at c1
      rw [← hbd.cell (p := ⟨g, k * 3 + 2, none⟩) hg] at c2
      have hft := filter_take (other a n) xs k hlt
      generalize xs[k] = x at hxk c0 c1 c2 hft
      obtain ⟨xa, xn, xt⟩ := x
      have hlen : ((xs.take k).filter (other a n)).length ≤ 6000000 := by
        have h1 := List.length_filter_le (other a n) (xs.take k)
        rw [List.length_take] at h1
        omega
      obtain ⟨b, hbe⟩ : ∃ b, (xa == a && xn == n) = b := ⟨_, rfl⟩
      have ho : other a n (xa, xn, xt) = !b := by rw [← hbe]; rfl
      rw [ho] at hft
      have heq : ∀ W, (Op.equalIn 10000 35 (.agg #[.int .i64 xa, .int .i64 xn]) (.agg #[.int .i64 a, .int .i64 n])).run Try.prog W = .ok b W := fun W => by rw [pref_eq, hbe]
      obtain ⟨os, OS⟩ : ∃ os, Hid (os = (xs.take k).filter (other a n)) := ⟨_, rfl⟩
      rw [← OS.out] at HP hlen
      have HFT := Lib.hid hft
      have p0 := HP.out.p.c0
      have p1 := HP.out.p.c1
      clear hft hbe hxk hcell hbd ho
      cases b
      · go_wp2_with fail
        go_quiet (fail)
        have HP1 := Lib.hid (HP.out.drewN nq)
        have hsz := HP1.out.size
        have hown := HP1.out.own
        go_wp2_with (at_builtin; refine wpList_pushR _ rfl _ _ 25 rfl (w.heap.size + 1) 37 i0 z0 24 Try.underlying25 hi hz0 hsz0 hby0 hzs (by decide) _ _ rfl hown (xa, xn, xt) _ rfl rfl (by omega) hsz ?_)
        intro v' w1 hown1 hnx1
        have HP2 := Lib.hid (HP1.out.grow hown1 hnx1)
        clear hown1 hnx1 hown
        go_wp2_with fail
        go_roundw
        case rel => exact ⟨k + 1, v', by omega, rfl, by go_num, by rw [HFT.out]; simp only [Bool.not_false, if_true]; rw [← OS.out]; exact HP2.out⟩
        case measure => simp [intOf]; omega
      · go_wp2_with fail
        go_quiet (fail)
        have HP1 := Lib.hid (HP.out.drewN nq)
        go_wp2_with fail
        go_roundw
        case rel => exact ⟨k + 1, v0, by omega, rfl, by go_num, by rw [HFT.out]; simp only [Bool.not_true, Bool.false_eq_true, if_false, List.append_nil]; rw [← OS.out]; exact HP1.out⟩
        case measure => simp [intOf]; omega
    · have hlt' : ¬ ((k : Int) < (xs.length : Int)) := by omega
      have hke : k = xs.length := by omega
      rw [hke, List.take_length] at HP
      have hd : xs.filter (other a n) = dropP xs a n := rfl
      rw [hd] at HP
      have hl2 : (dropP xs a n).length ≤ xs.length := List.length_filter_le _ _
      obtain ⟨ys, YS⟩ : ∃ ys, Hid (ys = dropP xs a n) := ⟨_, rfl⟩
      rw [← YS.out] at HP hl2
      obtain ⟨ao2, cp2, hv2, _⟩ := HP.out.own.form
      subst hv2
      clear hd hke
      go_wp2_with fail
      refine (specRoutesOk_any _ xs (by omega) _ (HR.out.below HP.out.below)).mono ?_
      rintro e w3 ⟨hend, hb3⟩
      have HP3 := Lib.hid (HP.out.next hb3)
      clear hb3 HP
      rcases hend with ⟨h1, rfl⟩ | ⟨h1, rfl⟩
      · by_cases hle : ys.length = xs.length
        · have g1 : ((ys.length : Int) == (xs.length : Int)) = true := by rw [beq_iff_eq]; omega
          have hcw : w.heap.size ≤ w3.heap.size := HP3.out.below.size
          have hlit := OwnR.lit (R := rtRec) w3 w.heap.size RT3 hcw
          have hbl : Below w3.heap.size w3 (w3.alloc (.cells #[] RT3)) := (Below.refl _ _).alloc (Nat.le_refl _) _
          have HBL := Lib.hid (HP3.out.below.trans (hbl.mono HP3.out.below.size))
          have hneg := Lib.hid (show ¬ (RoutesP xs ∧ (dropP xs a n).length ≠ xs.length) from fun h => h.2 (by rw [← YS.out]; exact hle))
          rcases HR.out with ⟨hv, hx0⟩ | ⟨g, cap', hv, hg, hcell⟩
          · subst hx0
            obtain ⟨rfl, rfl⟩ : ao = none ∧ cp = 0 := by simpa using hv
            clear hf
            go_wp2_with fail
            go_ret2
            exact ⟨.inr ⟨hneg.out, _, rfl, hlit⟩, HBL.out⟩
          · obtain ⟨rfl, rfl⟩ : ao = some ⟨g, 0, none⟩ ∧ cp = cap' := by simpa using hv
            have hys : ∀ j t x, xs[j]? = some x → t < rtRec.k → (w3.alloc (.cells #[] RT3)).cell? ⟨g, rtRec.k * j + t, none⟩ = (rtRec.enc x)[t]? := fun j t x hx ht => by rw [HBL.out.cell (p := ⟨g, rtRec.k * j + t, none⟩) hg]; exact hcell j t x hx ht
            clear hf hcell hv
            go_wp2_with (at_builtin; refine wpList_copyR _ rfl _ _ 25 rfl w.heap.size 37 i0 z0 24 Try.underlying25 hi hz0 hsz0 hby0 hzs (by decide) _ [] rfl hlit g cp xs rfl hys (by simp; omega) (by simp; omega) ?_)
            intro v9 w9 hown9 hnx9
            go_wp2_with fail
            go_ret2
            exact ⟨.inr ⟨hneg.out, v9, rfl, hown9⟩, HBL.out.trans hnx9⟩
        · have g1 : ((ys.length : Int) == (xs.length : Int)) = false := by rw [beq_eq_false_iff_ne]; omega
          have H1 : Hid (RoutesP xs ∧ (dropP xs a n).length ≠ xs.length) := ⟨h1, by rw [← YS.out]; exact hle⟩
          have hown4 : OwnR rtRec w3 w.heap.size RT3 (.slice ao2 ys.length cp2) (dropP xs a n) := by
            have h := HP3.out.own.lower (show w.heap.size ≤ w.heap.size + 1 by omega)
            rw [YS.out] at h ⊢
            exact h
          have HO4 := Lib.hid hown4
          clear hown4 h1
          go_wp2_with fail
          go_ret2
          exact ⟨.inl ⟨H1.out, _, rfl, HO4.out⟩, HP3.out.below⟩
      · have hcw : w.heap.size ≤ w3.heap.size := HP3.out.below.size
        have hlit := OwnR.lit (R := rtRec) w3 w.heap.size RT3 hcw
        have hbl : Below w3.heap.size w3 (w3.alloc (.cells #[] RT3)) := (Below.refl _ _).alloc (Nat.le_refl _) _
        have HBL := Lib.hid (HP3.out.below.trans (hbl.mono HP3.out.below.size))
        have hneg := Lib.hid (show ¬ (RoutesP xs ∧ (dropP xs a n).length ≠ xs.length) from fun h => h1 h.1)
        rcases HR.out with ⟨hv, hx0⟩ | ⟨g, cap', hv, hg, hcell⟩
        · subst hx0
          obtain ⟨rfl, rfl⟩ : ao = none ∧ cp = 0 := by simpa using hv
          clear hf
          go_wp2_with fail
          go_ret2
          exact ⟨.inr ⟨hneg.out, _, rfl, hlit⟩, HBL.out⟩
        · obtain ⟨rfl, rfl⟩ : ao = some ⟨g, 0, none⟩ ∧ cp = cap' := by simpa using hv
          have hys : ∀ j t x, xs[j]? = some x → t < rtRec.k → (w3.alloc (.cells #[] RT3)).cell? ⟨g, rtRec.k * j + t, none⟩ = (rtRec.enc x)[t]? := fun j t x hx ht => by rw [HBL.out.cell (p := ⟨g, rtRec.k * j + t, none⟩) hg]; exact hcell j t x hx ht
          clear hf hcell hv
          go_wp2_with (at_builtin; refine wpList_copyR _ rfl _ _ 25 rfl w.heap.size 37 i0 z0 24 Try.underlying25 hi hz0 hsz0 hby0 hzs (by decide) _ [] rfl hlit g cp xs rfl hys (by simp; omega) (by simp; omega) ?_)
          intro v9 w9 hown9 hnx9
          go_wp2_with fail
          go_ret2
          exact ⟨.inr ⟨hneg.out, v9, rfl, hown9⟩, HBL.out.trans hnx9⟩

end Go.Proofs.Ytpcdmfimjnhejao
