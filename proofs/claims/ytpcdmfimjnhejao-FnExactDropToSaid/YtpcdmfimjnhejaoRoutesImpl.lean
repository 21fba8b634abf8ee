/-
  The program's routes: PutRoute, DropRoute, LookUp, DropTo.
-/
import Derived.Test.YtpcdmfimjnhejaoRoutesOkImpl
import Derived.Test.YtpcdmfimjnhejaoStandAll
import Derived.Test.YtpcdmfimjnhejaoDropSpec
import Derived.Test.YtpcdmfimjnhejaoLookImpl
namespace Go.Proofs.Ytpcdmfimjnhejao
open Go.RowKit

theorem copyOfRoutes_any (v : Value) (xs : List Rt) (hl : xs.length ≤ 2000000) (w : World) (hr : RowR rtRec w v xs) :
    Calls Try.prog 31 #[v] w fun e w' => ∃ v', e = .returned v' ∧ OwnR rtRec w' w.heap.size RT3 v' xs ∧ Below w.heap.size w w' := by
  obtain ⟨i0, z0, hi, hz0, hzs, hsz0, hby0⟩ := info_rec infoRoute
  have hlit := OwnR.lit (R := rtRec) w w.heap.size RT3 (Nat.le_refl _)
  have hbl : Below w.heap.size w (w.alloc (.cells #[] RT3)) := (Below.refl _ _).alloc (Nat.le_refl _) _
  rcases hr with ⟨rfl, rfl⟩ | ⟨g, cap, rfl, hg, hcell⟩
  · go_enter Try.func31, Try.ntmps31
    go_wp2_with fail
    go_ret
    exact ⟨_, rfl, hlit, hbl⟩
  · have hys : ∀ j t x, xs[j]? = some x → t < rtRec.k → (w.alloc (.cells #[] RT3)).cell? ⟨g, rtRec.k * j + t, none⟩ = (rtRec.enc x)[t]? := fun j t x hx ht => by rw [hbl.cell (p := ⟨g, rtRec.k * j + t, none⟩) hg]; exact hcell j t x hx ht
    clear hcell
    go_enter Try.func31, Try.ntmps31
    go_wp2_with (at_builtin; refine wpList_copyR _ rfl _ _ 25 rfl w.heap.size RT3 i0 z0 24 Try.underlying25 hi hz0 hsz0 hby0 hzs (by decide) _ [] rfl hlit g cap xs rfl hys (by simp; omega) (by simp) ?_)
    intro v9 w9 hown9 hnx9
    go_wp2_with fail
    go_ret
    exact ⟨v9, rfl, hown9, hbl.trans hnx9⟩

set_option maxRecDepth 100000 in
set_option maxHeartbeats 1600000 in
theorem implPutRoute_any (v : Value) (xs : List Rt) (ra rn rt : Int) (hl : xs.length ≤ 2000000) (hwa : (Lit.int .i64 ra).wf = true) (hwn : (Lit.int .i64 rn).wf = true) (w : World) (hr : RowR rtRec w v xs) :
    Calls Try.prog 15 #[v, .agg #[.int .i64 ra, .int .i64 rn, .int .i64 rt]] w fun e w' => PutEnd xs (ra, rn, rt) w e w' ∧ Below w.heap.size w w' := by
  have hB0 : Below w.heap.size w (w.alloc (.cells #[.int .i64 ra, .int .i64 rn, .int .i64 rt] RT3)) := (Below.refl _ _).alloc (Nat.le_refl _) _
  have H1 := Lib.hid (implRoutesOk_any v xs (by omega) _ (hr.below hB0))
  have HR := Lib.hid hr
  have hrow : (w.alloc (.cells #[.int .i64 ra, .int .i64 rn, .int .i64 rt] RT3)).heap[w.heap.size]? = some (.cells #[.int .i64 ra, .int .i64 rn, .int .i64 rt] RT3 (0, 0)) := heap_alloc_new w _
  have hs0 : (w.alloc (.cells #[.int .i64 ra, .int .i64 rn, .int .i64 rt] RT3)).heap.size = w.heap.size + 1 := by simp
  clear hr
  go_enter Try.func15, Try.ntmps15
  go_wp2_with fail
  refine (H1.out).mono ?_
  rintro e w1 ⟨⟨h1, rfl⟩ | ⟨h1, rfl⟩, hb1⟩
  · have hB1 : Below w.heap.size w w1 := hB0.trans (hb1.mono (by omega))
    have hrow1 : w1.heap[w.heap.size]? = some (.cells #[.int .i64 ra, .int .i64 rn, .int .i64 rt] RT3 (0, 0)) := (hb1.block _ (by omega)).trans hrow
    have hz1 : w.heap.size + 1 ≤ w1.heap.size := lt_of_block hrow1
    have H2 := Lib.hid (standOf_any v xs (by have := h1.2; omega) w1 (HR.out.below hB1) (route_keys h1))
    have HP1 := Lib.hid h1
    have hB1H := Lib.hid hB1
    clear h1 hb1 hrow hB0 hB1 H1 hs0
    go_wp2_with fail
    refine (H2.out).mono ?_
    rintro e w2 ⟨rfl, g, s, sz, hT, hs, hsz, hb2⟩
    have hrow2 : w2.heap[w.heap.size]? = some (.cells #[.int .i64 ra, .int .i64 rn, .int .i64 rt] RT3 (0, 0)) := (hb2.block _ (by omega)).trans hrow1
    have c0 : w2.cell? ⟨w.heap.size, 0, none⟩ = some (.int .i64 ra) := cell_of_row _ _ 0 _ _ (0, 0) hrow2
    have c1 : w2.cell? ⟨w.heap.size, 1, none⟩ = some (.int .i64 rn) := cell_of_row _ _ 1 _ _ (0, 0) hrow2
    have c2 : w2.cell? ⟨w.heap.size, 2, none⟩ = some (.int .i64 rt) := cell_of_row _ _ 2 _ _ (0, 0) hrow2
    have hx12 := HP1.out.2
    have H3 := Lib.hid (put_any w2 w1.heap.size w1.heap.size g s _ sz hT ra rn rt hwa hwn (by omega) (fun x => Nat.le_trans (hsz x) (by omega)))
    have HSZ := Lib.hid hsz
    have HB2 : Hid (Below w.heap.size w w2) := hB1H.out.trans (hb2.mono hB1H.out.size)
    clear hT hsz hb2 H2 hrow1 hrow2
    go_wp2_with fail
    refine (H3.out).mono ?_
    rintro e w3 ⟨rfl, g3, s3, sz3, hT3, hs3, hsz3, hb3⟩
    have H4 := Lib.hid (told_any w3 w1.heap.size w1.heap.size g3 s3 _ sz3 hT3 (by omega) (fun x => Nat.le_trans (hsz3 x) (by have := HSZ.out x; omega)))
    have HB3 : Hid (Below w.heap.size w w3) := HB2.out.trans (hb3.mono hB1H.out.size)
    clear hT3 hsz3 hb3 H3 c0 c1 c2
    go_wp2_with fail
    refine (H4.out).mono ?_
    rintro e w4 ⟨v4, rfl, ys, hO4, hsort, hmem, hb4⟩
    have hss := sorted_of_good xs HP1.out.1
    have hys : ys = putP xs (ra, rn, rt) := tab_unique (put_sorted xs _ hss) hsort (fun a n t => by rw [tab_put xs _ hss]; exact hmem a n t)
    subst hys
    have hpl := put_length xs (ra, rn, rt)
    have H5 := Lib.hid (implRoutesOk_any v4 (putP xs (ra, rn, rt)) (by omega) w4 hO4.row)
    have HB4 : Hid (Below w.heap.size w w4) := HB3.out.trans (hb4.mono HB3.out.size)
    have HO : Hid (OwnR rtRec w4 w.heap.size RT3 v4 (putP xs (ra, rn, rt))) := hO4.lower HB3.out.size
    clear hO4 hmem hsort hb4 H4 hss
    go_wp2_with fail
    refine (H5.out).mono ?_
    rintro e w5 ⟨⟨h5, rfl⟩ | ⟨h5, rfl⟩, hb5⟩
    · have HB5 : Hid (Below w.heap.size w w5) := HB4.out.trans (hb5.mono HB4.out.size)
      have HO5 : Hid (OwnR rtRec w5 w.heap.size RT3 v4 (putP xs (ra, rn, rt))) := HO.out.below hb5
      have HP5 := Lib.hid h5
      clear h5 hb5
      go_wp2_with fail
      go_ret2
      exact ⟨.inl ⟨⟨HP1.out, HP5.out⟩, v4, rfl, HO5.out⟩, HB5.out⟩
    · have HB5 : Hid (Below w.heap.size w w5) := HB4.out.trans (hb5.mono HB4.out.size)
      have H6 := Lib.hid (copyOfRoutes_any v xs hl w5 (HR.out.below HB5.out))
      have HP5 := Lib.hid h5
      clear h5 hb5
      go_wp2_with fail
      refine (H6.out).mono ?_
      rintro e w6 ⟨v6, rfl, hO6, hb6⟩
      have HO6 : Hid (OwnR rtRec w6 w.heap.size RT3 v6 xs) := hO6.lower HB5.out.size
      have HB6 : Hid (Below w.heap.size w w6) := HB5.out.trans (hb6.mono HB5.out.size)
      clear hO6 hb6
      go_wp2_with fail
      go_ret2
      exact ⟨.inr ⟨fun h => HP5.out h.2, v6, rfl, HO6.out⟩, HB6.out⟩
  · have HB1 : Hid (Below w.heap.size w w1) := hB0.trans (hb1.mono (by omega))
    have H6 := Lib.hid (copyOfRoutes_any v xs hl w1 (HR.out.below HB1.out))
    have HP1 := Lib.hid h1
    clear h1 hb1 hrow hB0 hs0
    go_wp2_with fail
    refine (H6.out).mono ?_
    rintro e w6 ⟨v6, rfl, hO6, hb6⟩
    have HO6 : Hid (OwnR rtRec w6 w.heap.size RT3 v6 xs) := hO6.lower HB1.out.size
    have HB6 : Hid (Below w.heap.size w w6) := HB1.out.trans (hb6.mono HB1.out.size)
    clear hO6 hb6
    go_wp2_with fail
    go_ret2
    exact ⟨.inr ⟨fun h => HP1.out h.1, v6, rfl, HO6.out⟩, HB6.out⟩

set_option maxRecDepth 100000 in
set_option maxHeartbeats 1600000 in
theorem implDropRoute_any (v : Value) (xs : List Rt) (a n : Int) (hl : xs.length ≤ 2000000) (hwa : (Lit.int .i64 a).wf = true) (hwn : (Lit.int .i64 n).wf = true) (w : World) (hr : RowR rtRec w v xs) :
    Calls Try.prog 20 #[v, .agg #[.int .i64 a, .int .i64 n]] w fun e w' => DropEnd xs a n w e w' ∧ Below w.heap.size w w' := by
  have hB0 : Below w.heap.size w (w.alloc (.cells #[.int .i64 a, .int .i64 n] PT)) := (Below.refl _ _).alloc (Nat.le_refl _) _
  have H1 := Lib.hid (implRoutesOk_any v xs (by omega) _ (hr.below hB0))
  have HR := Lib.hid hr
  have hrow : (w.alloc (.cells #[.int .i64 a, .int .i64 n] PT)).heap[w.heap.size]? = some (.cells #[.int .i64 a, .int .i64 n] PT (0, 0)) := heap_alloc_new w _
  have hs0 : (w.alloc (.cells #[.int .i64 a, .int .i64 n] PT)).heap.size = w.heap.size + 1 := by simp
  clear hr
  go_enter Try.func20, Try.ntmps20
  go_wp2_with fail
  refine (H1.out).mono ?_
  rintro e w1 ⟨⟨h1, rfl⟩ | ⟨h1, rfl⟩, hb1⟩
  · have hB1 : Below w.heap.size w w1 := hB0.trans (hb1.mono (by omega))
    have hrow1 : w1.heap[w.heap.size]? = some (.cells #[.int .i64 a, .int .i64 n] PT (0, 0)) := (hb1.block _ (by omega)).trans hrow
    have hz1 : w.heap.size + 1 ≤ w1.heap.size := lt_of_block hrow1
    have H2 := Lib.hid (standOf_any v xs (by have := h1.2; omega) w1 (HR.out.below hB1) (route_keys h1))
    have HP1 := Lib.hid h1
    have hB1H := Lib.hid hB1
    clear h1 hb1 hrow hB0 hB1 H1 hs0
    go_wp2_with fail
    refine (H2.out).mono ?_
    rintro e w2 ⟨rfl, g, s, sz, hT, hs, hsz, hb2⟩
    have hrow2 : w2.heap[w.heap.size]? = some (.cells #[.int .i64 a, .int .i64 n] PT (0, 0)) := (hb2.block _ (by omega)).trans hrow1
    have c0 : w2.cell? ⟨w.heap.size, 0, none⟩ = some (.int .i64 a) := cell_of_row _ _ 0 _ _ (0, 0) hrow2
    have c1 : w2.cell? ⟨w.heap.size, 1, none⟩ = some (.int .i64 n) := cell_of_row _ _ 1 _ _ (0, 0) hrow2
    have hx12 := HP1.out.2
    have HSZ := Lib.hid hsz
    have HB2 : Hid (Below w.heap.size w w2) := hB1H.out.trans (hb2.mono hB1H.out.size)
    have hss := sorted_of_good xs HP1.out.1
    rcases hta : tabP xs a n with _ | t
    · have H3 := Lib.hid (drop_miss w2 w1.heap.size w1.heap.size g s _ sz hT a n hwa hwn hta)
      have HT := Lib.hid hT
      have HDN : Hid (dropP xs a n = xs) := drop_none xs a n hss hta
      clear hT hsz hb2 H2 hrow1 hrow2 hta
      go_wp2_with fail
      refine (H3.out).mono ?_
      rintro e w3 ⟨rfl, hb3⟩
      have H4 := Lib.hid (told_any w3 w1.heap.size w1.heap.size g s _ sz (HT.out.below hb3) (by omega) (fun x => Nat.le_trans (HSZ.out x) (by omega)))
      have HB3 : Hid (Below w.heap.size w w3) := HB2.out.trans (hb3.mono HB2.out.size)
      clear hb3 H3 c0 c1
      go_wp2_with fail
      refine (H4.out).mono ?_
      rintro e w4 ⟨v4, rfl, ys, hO4, hsort, hmem, hb4⟩
      obtain rfl : ys = xs := tab_unique hss hsort hmem
      have HB4 : Hid (Below w.heap.size w w4) := HB3.out.trans (hb4.mono HB3.out.size)
      have HO : Hid (OwnR rtRec w4 w.heap.size RT3 v4 ys) := hO4.lower HB3.out.size
      clear hO4 hmem hsort hb4 H4 hss
      go_wp2_with fail
      go_ret2
      exact ⟨.inr ⟨fun h => h.2 (by rw [HDN.out]), v4, rfl, HO.out⟩, HB4.out⟩
    · have H3 := Lib.hid (drop_hit w2 w1.heap.size w1.heap.size g s _ sz hT a n t hwa hwn hta)
      have HDN : Hid ((dropP xs a n).length < xs.length) := drop_some xs a n t hss hta
      clear hT hsz hb2 H2 hrow1 hrow2 hta
      go_wp2_with fail
      refine (H3.out).mono ?_
      rintro e w3 ⟨rfl, g3, s3, sz3, hT3, hs3, hsz3, hb3⟩
      have H4 := Lib.hid (told_any w3 w1.heap.size w1.heap.size g3 s3 _ sz3 hT3 (by omega) (fun x => Nat.le_trans (hsz3 x) (by have := HSZ.out x; omega)))
      have HB3 : Hid (Below w.heap.size w w3) := HB2.out.trans (hb3.mono hB1H.out.size)
      clear hT3 hsz3 hb3 H3 c0 c1
      go_wp2_with fail
      refine (H4.out).mono ?_
      rintro e w4 ⟨v4, rfl, ys, hO4, hsort, hmem, hb4⟩
      have hys : ys = dropP xs a n := tab_unique (drop_sorted xs a n hss) hsort (fun b m t => by rw [tab_drop xs a n hss]; exact hmem b m t)
      subst hys
      have HB4 : Hid (Below w.heap.size w w4) := HB3.out.trans (hb4.mono HB3.out.size)
      have HO : Hid (OwnR rtRec w4 w.heap.size RT3 v4 (dropP xs a n)) := hO4.lower HB3.out.size
      clear hO4 hmem hsort hb4 H4 hss
      go_wp2_with fail
      go_ret2
      exact ⟨.inl ⟨⟨HP1.out, fun h => by have := HDN.out; omega⟩, v4, rfl, HO.out⟩, HB4.out⟩
  · have HB1 : Hid (Below w.heap.size w w1) := hB0.trans (hb1.mono (by omega))
    have H6 := Lib.hid (copyOfRoutes_any v xs hl w1 (HR.out.below HB1.out))
    have HP1 := Lib.hid h1
    clear h1 hb1 hrow hB0 hs0
    go_wp2_with fail
    refine (H6.out).mono ?_
    rintro e w6 ⟨v6, rfl, hO6, hb6⟩
    have HO6 : Hid (OwnR rtRec w6 w.heap.size RT3 v6 xs) := hO6.lower HB1.out.size
    have HB6 : Hid (Below w.heap.size w w6) := HB1.out.trans (hb6.mono HB1.out.size)
    clear hO6 hb6
    go_wp2_with fail
    go_ret2
    exact ⟨.inr ⟨fun h => HP1.out h.1, v6, rfl, HO6.out⟩, HB6.out⟩

end Go.Proofs.Ytpcdmfimjnhejao
