/-
  The law on the longest route that has an address: its walk, out of the program's LookUp.
-/
import Derived.Test.YtkfcoldjgijpcacLookSpec
import Derived.Test.YtkfcoldjgijpcacDrawRoutes
namespace Go.Proofs.Ytkfcoldjgijpcac
open Go.RowKit

set_option maxRecDepth 100000 in
theorem bigL_any (a : Option Addr) (len cap : Nat) (w : World) :
    Calls Try.prog 7 #[.slice a len cap] w fun e w' => e = .returned (.bool (decide (1048576 < (len : Int)))) ∧ w' = w := by
  go_enter Try.func7, Try.ntmps7
  go_wp2
  go_ret
  exact ⟨rfl, rfl⟩
set_option maxRecDepth 100000 in
set_option maxHeartbeats 400000 in
theorem lawLongest_big (a : Option Addr) (len cap : Nat) (h : 1048576 < len) (w : World) :
    Calls Try.prog 4 #[.slice a len cap] w fun e w' => e = .returned (.bool true) ∧ Below w.heap.size w w' := by
  have hd : decide (1048576 < (len : Int)) = true := decide_eq_true (by omega)
  have HB := Lib.hid (fun w => bigL_any a len cap w)
  rw [hd] at HB
  clear hd
  go_enter Try.func4, Try.ntmps4
  go_wp2_with fail
  refine (HB.out _).mono ?_
  rintro e w1 ⟨rfl, rfl⟩
  go_wp2_with fail
  go_ret
  exact ⟨rfl, Below.refl _ _⟩

theorem routes_nil : RoutesP [] := ⟨fun j hj => absurd hj (by simp), by simp⟩

set_option maxRecDepth 100000 in
set_option maxHeartbeats 1600000 in
theorem lawLongestF (L : World → Prop) (stays : ∀ X Y, L X → Below X.heap.size X Y → L Y) (look : ∀ (v : Value) (xs : List Rt) (x : Int), RoutesP xs → (Lit.int .i64 x).wf = true → ∀ X, L X → RowR rtRec X v xs → Calls Try.prog 17 #[v, .int .i64 x] X fun e X' => e = .returned (.int .i64 (lookTo x xs).2) ∧ Below X.heap.size X X')
    (a : Option Addr) (len cap : Nat) (w : World) (H : Src a len w) (ht : L w) :
    Calls Try.prog 4 #[.slice a len cap] w fun e w' => e = .returned (.bool true) ∧ Below w.heap.size w w' := by
  have hd : decide (1048576 < (len : Int)) = false := decide_eq_false (by have := H.few; omega)
  have HB := Lib.hid (fun w => bigL_any a len cap w)
  rw [hd] at HB
  have HS := Lib.hid H
  have HT : Hid (∀ X, Below w.heap.size w X → L X) := fun X hX => stays w X ht hX
  have HK := Lib.hid look
  clear H ht hd stays look
  go_enter Try.func4, Try.ntmps4
  go_wp2_with fail
  refine (HB.out _).mono ?_
  rintro e w0 ⟨rfl, rfl⟩
  go_wp2_with fail
  refine (drawRoutes_any a len cap _ HS.out).mono ?_
  rintro e w1 ⟨xs, v, x, ⟨hP, hl8, _⟩, hxx, rfl, hown, hb1⟩
  have HP := Lib.hid hP
  have HB1 := Lib.hid hb1
  have HR1 := Lib.hid hown.row
  have HWX : Hid ((Lit.int .i64 x).wf = true) := by
    obtain ⟨m, rfl⟩ : ∃ m : Nat, x = m := ⟨x.toNat, by omega⟩
    exact WalkArith.wf_i64 (by omega)
  have H2 := Lib.hid (HK.out v xs x hP HWX.out w1 (HT.out _ hb1) hown.row)
  obtain ⟨lk, LK⟩ : ∃ k, Hid (k = (lookTo x xs).2) := ⟨_, rfl⟩
  rw [← LK.out] at H2
  obtain ⟨ao, cp, hv, hf⟩ := hown.row.form
  subst hv
  clear hP hb1 hown hxx
  go_wp2_with fail
  refine (H2.out).mono ?_
  rintro e w2 ⟨rfl, hb2⟩
  have HB2 := Lib.hid (HB1.out.trans (hb2.mono HB1.out.size))
  have HX2 := Lib.hid hb2
  clear hb2
  go_wp2_with fail
  go_loopw [6, 7, 8] (fun b t c wr => ∃ k : Nat, k ≤ xs.length ∧ c = .int .i64 k ∧ b = .int .i64 (lookTo x (xs.take k)).1 ∧ t = .int .i64 (lookTo x (xs.take k)).2 ∧ Below w1.heap.size w1 wr) (fun _ _ c _ => xs.length - (intOf c).toNat)
  case atStart => exact ⟨0, Nat.zero_le _, rfl, rfl, rfl, HX2.out⟩
  case round =>
    obtain ⟨k, hk, rfl, rfl, rfl, hnx⟩ := hrel
    by_cases hlt : k < xs.length
    · have hlt' : (k : Int) < (xs.length : Int) := by omega
      obtain ⟨g, rfl, hg, hcell⟩ := hf (by omega)
      have hxk : xs[k]? = some xs[k] := List.getElem?_eq_getElem hlt
      obtain ⟨c0, c1, c2⟩ := row_three hcell k xs[k] hxk
      rw [← hnx.cell (p := ⟨g, k * 3, none⟩) hg] at c0
      rw [← hnx.cell (p := ⟨g, k * 3 + 1, none⟩) hg] at c1
      rw [← hnx.cell (p := ⟨g, k * 3 + 2, none⟩) hg] at c2
      have hst := lookTo_take x xs k hlt
      generalize xs[k] = r at hxk c0 c1 c2 hst
      obtain ⟨ra, rn, rt⟩ := r
      obtain ⟨⟨s1, s2⟩, hs⟩ : ∃ s, lookTo x (xs.take k) = s := ⟨_, rfl⟩
      rw [hs] at hst ⊢
      have hin := specInPrefix_any ra rn x
      obtain ⟨b, hbe⟩ : ∃ b, inB ra rn x = b := ⟨_, rfl⟩
      unfold lookStep at hst
      simp only [hbe] at hst
      rw [hbe] at hin
      have HI := Lib.hid hin
      have HST := Lib.hid hst
      have HN2 := Lib.hid hnx
      have hgw : g < wr.heap.size := Nat.lt_of_lt_of_le hg hnx.size
      clear hin hst hbe hs hcell hxk hnx
      cases b
      · go_wp2_with fail
        refine (HI.out _).mono ?_
        rintro e w3 ⟨rfl, hb3⟩
        have HB3 := Lib.hid (HN2.out.trans (hb3.mono HN2.out.size))
        clear hb3
        go_wp2_with fail
        go_roundw
        case rel => exact ⟨k + 1, by omega, by go_num, by rw [HST.out]; rfl, by rw [HST.out]; rfl, HB3.out⟩
        case measure => simp [intOf]; omega
      · go_wp2_with fail
        refine (HI.out _).mono ?_
        rintro e w3 ⟨rfl, hb3⟩
        rw [← hb3.cell (p := ⟨g, k * 3 + 1, none⟩) hgw] at c1
        rw [← hb3.cell (p := ⟨g, k * 3 + 2, none⟩) hgw] at c2
        have HB3 := Lib.hid (HN2.out.trans (hb3.mono HN2.out.size))
        clear hb3
        by_cases hd : s1 < rn
        · have hd1 : decide (s1 < rn) = true := decide_eq_true hd
          have HF : Hid (lookTo x (xs.take (k + 1)) = (rn, rt)) := by show _ = _; rw [HST.out, hd1]; rfl
          clear HST
          go_wp2_with fail
          go_roundw
          case rel => exact ⟨k + 1, by omega, by go_num, by rw [HF.out], by rw [HF.out], HB3.out⟩
          case measure => simp [intOf]; omega
        · have hd1 : decide (s1 < rn) = false := decide_eq_false hd
          have HF : Hid (lookTo x (xs.take (k + 1)) = (s1, s2)) := by show _ = _; rw [HST.out, hd1]; rfl
          clear HST
          go_wp2_with fail
          go_roundw
          case rel => exact ⟨k + 1, by omega, by go_num, by rw [HF.out], by rw [HF.out], HB3.out⟩
          case measure => simp [intOf]; omega
    · have hlt' : ¬ ((k : Int) < (xs.length : Int)) := by omega
      have hke : k = xs.length := by omega
      rw [hke, List.take_length, ← LK.out]
      have HN3 := Lib.hid (HB1.out.trans (hnx.mono HB1.out.size))
      have hbl : Below wr.heap.size wr (wr.alloc (.cells #[] RT3)) := (Below.refl _ _).alloc (Nat.le_refl _) _
      have HN4 := Lib.hid (HN3.out.trans (hbl.mono HN3.out.size))
      have hlit := OwnR.lit (R := rtRec) wr wr.heap.size RT3 (Nat.le_refl _)
      have H5 := Lib.hid (HK.out _ [] x routes_nil HWX.out _ (HT.out _ HN4.out) hlit.row)
      have HR4 := Lib.hid ((HR1.out.below hnx).below hbl)
      clear hnx hbl hlit
      go_wp2_with fail
      refine (H5.out).mono ?_
      rintro e w5 ⟨rfl, hb5⟩
      have HN5 := Lib.hid (HN4.out.trans (hb5.mono HN4.out.size))
      have h6 := specLookUp_right _ xs x (by omega) w5 (HR4.out.below hb5) HP.out
      rw [← LK.out] at h6
      have H6 := Lib.hid h6
      clear hb5 h6
      go_wp2_with fail
      refine (H6.out).mono ?_
      rintro e w6 ⟨rfl, hb6⟩
      have HN6 := Lib.hid (HN5.out.trans (hb6.mono HN5.out.size))
      clear hb6
      go_wp2_with fail
      go_ret
      exact ⟨rfl, HN6.out⟩

end Go.Proofs.Ytkfcoldjgijpcac
