/-
  The program's LookUp and DropTo.
-/
import Derived.Test.YtpcdmfimjnhejaoRoutesOkImpl
import Derived.Test.YtpcdmfimjnhejaoStandImpl
import Derived.Test.YtpcdmfimjnhejaoPlainTabLook
namespace Go.Proofs.Ytpcdmfimjnhejao
open Go.RowKit

theorem route_keys {xs : List Rt} (h : RoutesP xs) : ∀ r ∈ xs, KI.ok r.1 ∧ KI.ok r.2.1 := fun r hr => by
  obtain ⟨⟨⟨h1, h2⟩, ⟨h3, h4⟩, _⟩, _⟩ := ok_of_good xs h.1 r hr
  exact ⟨WalkArith.wf_i64 (by omega), WalkArith.wf_i64 (by omega)⟩

set_option maxRecDepth 100000 in
set_option maxHeartbeats 800000 in
theorem implLookUp_wrong (v : Value) (xs : List Rt) (x : Int) (hl : xs.length ≤ 2000000) (_hwx : (Lit.int .i64 x).wf = true) (w : World) (hr : RowR rtRec w v xs) (h : ¬ RoutesP xs) :
    Calls Try.prog 22 #[v, .int .i64 x] w fun e w' => e = .returned (.int .i64 0) ∧ Below w.heap.size w w' := by
  have HE := Lib.hid (implRoutesOk_any v xs (by omega) w hr)
  have HN := Lib.hid h
  clear hr h
  go_enter Try.func22, Try.ntmps22
  go_wp2_with fail
  refine (HE.out).mono ?_
  rintro e w1 ⟨⟨h1, rfl⟩ | ⟨h1, rfl⟩, hb1⟩
  · exact absurd h1 HN.out
  · go_wp2_with fail
    go_ret
    exact ⟨rfl, hb1⟩

set_option maxRecDepth 100000 in
set_option maxHeartbeats 1600000 in
theorem implLookUp_right (v : Value) (xs : List Rt) (x : Int) (hl : xs.length ≤ 2000000) (_hwx : (Lit.int .i64 x).wf = true) (w : World) (hr : RowR rtRec w v xs) (h : RoutesP xs) :
    Calls Try.prog 22 #[v, .int .i64 x] w fun e w' => e = .returned (.int .i64 (lookTo x xs).2) ∧ Below w.heap.size w w' := by
  have HE := Lib.hid (implRoutesOk_any v xs (by omega) w hr)
  have HN := Lib.hid h
  have HR := Lib.hid hr
  clear hr h
  by_cases hx : 0 ≤ x ∧ x ≤ 4294967295
  · obtain ⟨xm, rfl⟩ : ∃ m : Nat, x = (m : Int) := ⟨x.toNat, by omega⟩
    have hxm : xm ≤ 4294967295 := by omega
    have HA := Lib.hid (implAddrOk_yes xm (by omega) (by omega))
    clear hx _hwx
    go_enter Try.func22, Try.ntmps22
    go_wp2_with fail
    refine (HE.out).mono ?_
    rintro e w1 ⟨⟨h1, rfl⟩ | ⟨h1, rfl⟩, hb1⟩
    · have HB1 := Lib.hid hb1
      clear h1 hb1 HE
      go_wp2_with fail
      refine (HA.out _).mono ?_
      rintro e w2 ⟨rfl, hb2⟩
      have HB2 : Hid (Below w.heap.size w w2) := HB1.out.trans (hb2.mono HB1.out.size)
      have H3 := Lib.hid (standOf_any v xs (by have := HN.out.2; omega) w2 (HR.out.below HB2.out) (route_keys HN.out))
      clear hb2 HB1 HA
      go_wp2_with fail
      refine (H3.out).mono ?_
      rintro e w3 ⟨rfl, g, s, sz, hT, hs, hsz, hb3⟩
      have HB3 : Hid (Below w.heap.size w w3) := HB2.out.trans (hb3.mono HB2.out.size)
      have HT3 := Lib.hid hT
      clear hT hsz hb3 H3 hs
      go_wp2_with fail
      go_loopw [6] (fun c wr => ∃ n : Int, -1 ≤ n ∧ n ≤ 32 ∧ c = .int .i64 n ∧ Hid (∀ m : Nat, n < m → m ≤ 32 → tabP xs (firstP xm m) m = none) ∧ Tab wr w2.heap.size w2.heap.size g s (tabP xs) sz ∧ Below w.heap.size w wr) (fun c _ => (intOf c + 1).toNat)
      case atStart => exact ⟨32, by omega, by omega, rfl, fun m h1 h2 => absurd h1 (by omega), HT3.out, HB3.out⟩
      case round =>
        obtain ⟨n, hn0, hn1, rfl, HM, hT, hB⟩ := hrel
        by_cases hn : 0 ≤ n
        · obtain ⟨k, rfl⟩ : ∃ k : Nat, n = (k : Int) := ⟨n.toNat, by omega⟩
          have hfl := firstP_le xm k
          have HP := Lib.hid (implPrefixOf_yes xm k (by omega) (by omega))
          have hfo : KI.ok ((firstP xm k : Nat) : Int) := WalkArith.wf_i64 (by omega)
          have hko : KI.ok (k : Int) := WalkArith.wf_i64 (by omega)
          have hk1 : IntKind.i64.wrap ((k : Int) - 1) = (k : Int) - 1 := by rw [IntKind.wrap_i64]; omega
          obtain ⟨f, hf⟩ : ∃ f : Nat, Hid (f = firstP xm k) := ⟨_, rfl⟩
          rw [← hf.out] at HP hfo
          have HT := Lib.hid hT
          have HB := Lib.hid hB
          clear hT hB hfl
          have hgo : tabP xs (f : Int) k = none → ∀ m : Nat, (k : Int) - 1 < m → m ≤ 32 → tabP xs (firstP xm m) m = none := fun h0 m h1 h2 => by
            rcases Nat.lt_or_ge k m with h3 | h3
            · exact HM.out m (by omega) h2
            · have : m = k := by omega
              subst this
              rw [← hf.out]
              exact h0
          have HGO := Lib.hid hgo
          clear hgo
          go_wp2_with fail
          refine (HP.out _).mono ?_
          rintro e w4 ⟨rfl, hb4⟩
          have hT4 := (HT.out.below hb4).alloc (.cells #[.int .i64 (f : Int), .int .i64 (k : Int)] PT)
          have HB4 : Hid (Below w.heap.size w (w4.alloc (.cells #[.int .i64 (f : Int), .int .i64 (k : Int)] PT))) := (HB.out.trans (hb4.mono HB.out.size)).alloc (HB.out.trans (hb4.mono HB.out.size)).size _
          clear hb4 HP
          rcases hgf : g (f : Int) with _ | c
          · have H0 := Lib.hid (HGO.out (hT4.no _ _ hgf))
            go_wp2_with (first
              | (at_lookup; refine wpList_lookM _ KI rfl _ _ TM rfl TI undM (zeroM _) w2.heap.size g s rfl hT4.outer (f : Int) hfo rfl ?_; rw [hgf])
              | (at_lookup; refine wpList_lookI_nil _ KI rfl _ _ TI true rfl 3 (.int .i64 0) undI (zeroI _) rfl (k : Int) hko rfl ?_))
            go_roundw
            case rel => exact ⟨(k : Int) - 1, by omega, by omega, by go_num, H0, hT4, HB4.out⟩
            case measure => simp [intOf]
          · rcases hft : tabP xs (f : Int) k with _ | t
            · have H0 := Lib.hid (HGO.out hft)
              go_wp2_with (first
                | (at_lookup; refine wpList_lookM _ KI rfl _ _ TM rfl TI undM (zeroM _) w2.heap.size g s rfl hT4.outer (f : Int) hfo rfl ?_; rw [hgf])
                | (at_lookup; refine wpList_lookI_ok _ KI rfl _ _ TI rfl 3 .i64 undI (zeroI _) c (tabP xs (f : Int)) (sz (f : Int)) rfl (hT4.inner _ c hgf) (k : Int) hko rfl ?_; simp only [hft, Option.isSome_none, Option.getD_none]))
              go_roundw
              case rel => exact ⟨(k : Int) - 1, by omega, by omega, by go_num, H0, hT4, HB4.out⟩
              case measure => simp [intOf]
            · have HL : Hid ((lookTo (xm : Int) xs).2 = t) := look_found xs xm HN.out (by omega) (by omega) k t (by rw [Int.toNat_natCast, ← hf.out]; exact hft) (fun m h1 h2 => by rw [Int.toNat_natCast]; exact HM.out m (by omega) h2)
              go_wp2_with (first
                | (at_lookup; refine wpList_lookM _ KI rfl _ _ TM rfl TI undM (zeroM _) w2.heap.size g s rfl hT4.outer (f : Int) hfo rfl ?_; rw [hgf])
                | (at_lookup; refine wpList_lookI_ok _ KI rfl _ _ TI rfl 3 .i64 undI (zeroI _) c (tabP xs (f : Int)) (sz (f : Int)) rfl (hT4.inner _ c hgf) (k : Int) hko rfl ?_; simp only [hft, Option.isSome_some, Option.getD_some]))
              go_ret
              exact ⟨congrArg (fun z => Ending.returned (Value.int .i64 z)) HL.out.symm, HB4.out⟩
        · have hne : n = -1 := by omega
          subst hne
          have HL : Hid ((lookTo (xm : Int) xs).2 = 0) := look_none xs xm HN.out (fun m h2 => by rw [Int.toNat_natCast]; exact HM.out m (by omega) h2)
          go_wp2_with fail
          go_ret
          exact ⟨congrArg (fun z => Ending.returned (Value.int .i64 z)) HL.out.symm, hB⟩
    · exact absurd HN.out h1
  · have HA := Lib.hid (implAddrOk_no x (by omega))
    have HL := Lib.hid (look_wrong xs x hx)
    rw [HL.out]
    clear hx _hwx
    go_enter Try.func22, Try.ntmps22
    go_wp2_with fail
    refine (HE.out).mono ?_
    rintro e w1 ⟨⟨h1, rfl⟩ | ⟨h1, rfl⟩, hb1⟩
    · have HB1 := Lib.hid hb1
      clear h1 hb1 HE
      go_wp2_with fail
      refine (HA.out _).mono ?_
      rintro e w2 ⟨rfl, hb2⟩
      have HB2 : Hid (Below w.heap.size w w2) := HB1.out.trans (hb2.mono HB1.out.size)
      clear hb2
      go_wp2_with fail
      go_ret
      exact ⟨rfl, HB2.out⟩
    · exact absurd HN.out h1

set_option maxRecDepth 100000 in
set_option maxHeartbeats 800000 in
theorem implDropTo_any (v : Value) (xs : List Rt) (to : Int) (hl : xs.length ≤ 2000000) (w : World) (hr : RowR rtRec w v xs) :
    Calls Try.prog 24 #[v, .int .i64 to] w fun e w' => ∃ v', e = .returned v' ∧ OwnR rtRec w' w.heap.size 37 v' (xs.filter (fun r => r.2.2 != to)) ∧ Below w.heap.size w w' := by
  obtain ⟨ao, cp, rfl, hf⟩ := hr.form
  obtain ⟨i0, z0, hi, hz0, hzs, hsz0, hby0⟩ := info_rec infoRoute
  go_enter Try.func24, Try.ntmps24
  go_wp2_with fail
  go_loopw [5, 11] (fun o c wr => ∃ k : Nat, k ≤ xs.length ∧ c = .int .i64 k ∧ OwnR rtRec wr w.heap.size 37 o ((xs.take k).filter (fun r => r.2.2 != to)) ∧ Below w.heap.size w wr) (fun _ c _ => xs.length - (intOf c).toNat)
  case atStart => exact ⟨0, Nat.zero_le _, rfl, OwnR.lit _ _ _ (Nat.le_refl _), (Below.refl _ _).alloc (Nat.le_refl _) _⟩
  case round =>
    obtain ⟨k, hk, rfl, hown, hnx⟩ := hrel
    have hsz := hnx.size
    by_cases hlt : k < xs.length
    · have hlt' : (k : Int) < (xs.length : Int) := by omega
      obtain ⟨g, rfl, hg, hcell⟩ := hf (by omega)
      obtain ⟨c0, c1, c2⟩ := row_three hcell k xs[k] (List.getElem?_eq_getElem hlt)
      rw [← hnx.cell (p := ⟨g, k * 3, none⟩) hg] at c0
      rw [← hnx.cell (p := ⟨g, k * 3 + 1, none⟩) hg] at c1
      rw [← hnx.cell (p := ⟨g, k * 3 + 2, none⟩) hg] at c2
      generalize hx : xs[k] = x at c0 c1 c2
      obtain ⟨xa, xn, xt⟩ := x
      have hlen : ((xs.take k).filter (fun r => r.2.2 != to)).length ≤ k := Nat.le_trans (List.length_filter_le _ _) (by rw [List.length_take]; omega)
      have hown' := hown.alloc (.cells #[.int .i64 xa, .int .i64 xn, .int .i64 xt] 37)
      have hnx' := hnx.alloc hsz (.cells #[.int .i64 xa, .int .i64 xn, .int .i64 xt] 37)
      by_cases hto : xt = to
      · have hne : (xt != to) = false := by rw [bne_eq_false_iff_eq]; exact hto
        have HF : Hid ((xs.take (k + 1)).filter (fun r => r.2.2 != to) = (xs.take k).filter (fun r => r.2.2 != to)) := by
          show _ = _
          rw [filter_take _ xs k hlt, hx]
          simp [hto]
        clear hto
        go_wp2_with fail
        go_roundw
        case rel => exact ⟨k + 1, by omega, by go_num, by rw [HF.out]; exact hown', hnx'⟩
        case measure => simp [intOf]; omega
      · have hne : (xt != to) = true := by rw [bne_iff_ne]; exact hto
        have HF : Hid ((xs.take (k + 1)).filter (fun r => r.2.2 != to) = (xs.take k).filter (fun r => r.2.2 != to) ++ [(xa, xn, xt)]) := by
          show _ = _
          rw [filter_take _ xs k hlt, hx, if_pos hne]
        clear hto
        go_wp2_with (at_builtin; refine wpList_pushR _ rfl _ _ 25 rfl w.heap.size 37 i0 z0 24 Try.underlying25 hi hz0 hsz0 hby0 hzs (by decide) _ _ rfl hown' (xa, xn, xt) _ rfl (by simp; rfl) (by omega) hnx'.size ?_)
        intro v' w1 hown1 hnx1
        go_wp2_with fail
        go_roundw
        case rel => exact ⟨k + 1, by omega, by go_num, by rw [HF.out]; exact hown1, hnx'.trans hnx1⟩
        case measure => simp [intOf]; omega
    · have hlt' : ¬ ((k : Int) < (xs.length : Int)) := by omega
      have hke : k = xs.length := by omega
      subst hke
      rw [List.take_length] at hown
      go_wp2_with fail
      go_ret
      exact ⟨_, rfl, hown, hnx⟩

end Go.Proofs.Ytpcdmfimjnhejao
