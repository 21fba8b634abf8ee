/-
  Right routes that are drawn.
-/
import Derived.Test.YtkfcoldjgijpcacPlainRoutes
import Derived.Test.YtkfcoldjgijpcacDrawAddr
namespace Go.Proofs.Ytkfcoldjgijpcac
open Go.RowKit

theorem put_to (xs : List Rt) (r : Rt) (h : ∀ x ∈ xs, x.2.2 ≤ 4) (hr : r.2.2 ≤ 4) : ∀ x ∈ putP xs r, x.2.2 ≤ 4 := fun x hx => by
  unfold putP at hx
  rcases List.mem_append.1 hx with hx | hx
  · rcases List.mem_append.1 hx with hx | hx
    · exact h x (List.mem_filter.1 hx).1
    · rw [List.mem_singleton.1 hx]
      exact hr
  · exact h x (List.mem_filter.1 hx).1

set_option maxRecDepth 100000 in
set_option maxHeartbeats 1600000 in
theorem routes_any {c : Nat} {a : Option Addr} {len cap : Nat} (w : World) (H : Cur c a len cap w) :
    Calls Try.prog 26 #[.pointer (some ⟨c, 0, none⟩)] w fun e w' => ∃ (xs : List Rt) (v : Value), (RoutesP xs ∧ xs.length ≤ 8 ∧ ∀ x ∈ xs, x.2.2 ≤ 4) ∧ e = .returned v ∧ OwnR rtRec w' w.heap.size RT3 v xs ∧ Cur c a len cap w' ∧ Only c w w' := by
  have hcs : c < w.heap.size := cell_size (p := ⟨c, 0, none⟩) H.c0
  have HC := Lib.hid H
  clear H
  go_enter Try.func26, Try.ntmps26
  go_wp2_with fail
  go_loopw [3, 4] (fun o i wr => ∃ (k : Nat) (xs : List Rt) (v0 : Value), k ≤ 8 ∧ xs.length ≤ k ∧ v0 = o ∧ i = .int .i64 k ∧ RoutesP xs ∧ (∀ x ∈ xs, x.2.2 ≤ 4) ∧ OwnR rtRec wr w.heap.size RT3 v0 xs ∧ Cur c a len cap wr ∧ Only c w wr) (fun _ i _ => 9 - (intOf i).toNat)
  case atStart =>
    have hb := (Below.refl w.heap.size w).alloc (Nat.le_refl _) (.cells #[] RT3)
    exact ⟨0, [], _, by omega, by simp, rfl, rfl, ⟨fun j hj => absurd hj (by simp), by simp⟩, by simp, OwnR.lit _ _ _ (Nat.le_refl _), HC.out.below hb, .of_below hb⟩
  case round =>
    obtain ⟨k, xs, v0, hk, hl, rfl, rfl, hP, hto, hown, hc, ho⟩ := hrel
    have HP := Lib.hid hP
    have HTO := Lib.hid hto
    have HW := Lib.hid hown
    have HC1 := Lib.hid hc
    have HO1 := Lib.hid ho
    clear hP hto hown hc ho
    go_wp2_with fail
    refine (below_any 9 (by omega) (by omega) _ HC1.out).mono ?_
    rintro e w1 ⟨y, y0, y1, rfl, hc1, ho1⟩
    have HC2 := Lib.hid hc1
    have HO2 := Lib.hid (HO1.out.trans ho1)
    have HW2 := Lib.hid (HW.out.only ho1 hcs)
    clear hc1 ho1 HC1 HO1 HW
    by_cases hlt : (k : Int) < y
    · go_wp2_with fail
      refine (prefix_any _ HC2.out).mono ?_
      rintro e w2 ⟨pa, pn, hok, rfl, hc2, ho2⟩
      have HC3 := Lib.hid hc2
      have HO3 := Lib.hid (HO2.out.trans ho2)
      have HW3 := Lib.hid (HW2.out.only ho2 hcs)
      have HOK := Lib.hid hok
      clear hc2 ho2 HC2 HO2 HW2 hok
      go_wp2_with fail
      refine (below_any 4 (by omega) (by omega) _ HC3.out).mono ?_
      rintro e w3 ⟨z, z0, z1, rfl, hc3, ho3⟩
      have HC4 := Lib.hid hc3
      have HO4 := Lib.hid (HO3.out.trans ho3)
      have HW4 := Lib.hid (HW3.out.only ho3 hcs)
      clear hc3 ho3 HC3 HO3 HW3
      have HPut := Lib.hid (specPutRoute_any v0 xs (pa : Int) (pn : Int) (1 + z) (by omega) w3 HW4.out.row)
      have hRt : RtOk ((pa : Int), (pn : Int), 1 + z) := ⟨HOK.out, by show 1 ≤ 1 + z; omega, by show 1 + z ≤ 99; omega⟩
      have hput := Lib.hid (put_right xs ((pa : Int), (pn : Int), 1 + z) HP.out hRt (by omega))
      have hpto := Lib.hid (put_to xs ((pa : Int), (pn : Int), 1 + z) HTO.out (by show 1 + z ≤ 4; omega))
      have hpl := put_length xs ((pa : Int), (pn : Int), 1 + z)
      have hw4 := HO4.out.size
      go_wp2_with fail
      refine (HPut.out).mono ?_
      rintro e w4 ⟨hend, hb4⟩
      have HC5 := Lib.hid (HC4.out.below hb4)
      have HO5 := Lib.hid (HO4.out.trans (.of_below hb4))
      clear hb4
      rcases hend with ⟨_, v', rfl, hown'⟩ | ⟨hno, _, _, _⟩
      · have HW5 := Lib.hid (hown'.lower hw4)
        clear hown'
        go_wp2_with fail
        go_roundw
        case rel => exact ⟨k + 1, _, v', by omega, by omega, rfl, by go_num, hput.out, hpto.out, HW5.out, HC5.out, HO5.out⟩
        case measure => simp [intOf]; omega
      · exact absurd ⟨HP.out, hput.out⟩ hno
    · obtain ⟨ao, cp, rfl, _⟩ := HW2.out.form
      go_wp2_with fail
      go_ret
      exact ⟨xs, _, ⟨HP.out, by omega, HTO.out⟩, rfl, HW2.out, HC2.out, HO2.out⟩

set_option maxRecDepth 100000 in
set_option maxHeartbeats 400000 in
theorem drawRoutes_any (a : Option Addr) (len cap : Nat) (w : World) (H : Src a len w) :
    Calls Try.prog 8 #[.slice a len cap] w fun e w' => ∃ (xs : List Rt) (v : Value) (x : Int), (RoutesP xs ∧ xs.length ≤ 8 ∧ ∀ r ∈ xs, r.2.2 ≤ 4) ∧ (167772160 ≤ x ∧ x ≤ 167773259) ∧ e = .returned (.tuple #[v, .int .i64 x]) ∧ OwnR rtRec w' w.heap.size RT3 v xs ∧ Below w.heap.size w w' := by
  have HS := Lib.hid H
  clear H
  go_enter Try.func8, Try.ntmps8
  go_wp2_with fail
  refine (new_any a len cap _ HS.out).mono ?_
  rintro e w1 ⟨c, rfl, hc, hcur, hb⟩
  have HC1 := Lib.hid hcur
  have HB1 := Lib.hid hb
  have hcs : c < w1.heap.size := cell_size (p := ⟨c, 0, none⟩) hcur.c0
  clear hcur hb
  go_wp2_with fail
  refine (routes_any _ HC1.out).mono ?_
  rintro e w2 ⟨xs, v, hx, rfl, hown, hcur, ho⟩
  have HC2 := Lib.hid hcur
  have HB2 := Lib.hid (HB1.out.trans (ho.below hc HB1.out.size))
  have HX := Lib.hid hx
  have HW := Lib.hid hown
  clear hcur ho hx hown
  go_wp2_with fail
  refine (below_any 1100 (by omega) (by omega) _ HC2.out).mono ?_
  rintro e w3 ⟨y, y0, y1, rfl, hcur, ho⟩
  have HB3 := Lib.hid (HB2.out.trans (ho.below hc HB2.out.size))
  have HW3 := Lib.hid ((HW.out.only ho hcs).lower HB1.out.size)
  clear hcur ho
  go_wp2_with fail
  go_ret2
  exact ⟨xs, v, _, HX.out, ⟨by omega, by omega⟩, rfl, HW3.out, HB3.out⟩

end Go.Proofs.Ytkfcoldjgijpcac
