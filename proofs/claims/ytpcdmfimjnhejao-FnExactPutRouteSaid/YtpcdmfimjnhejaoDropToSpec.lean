/-
  The given DropTo.
-/
import Derived.Test.YtpcdmfimjnhejaoRouteRec
import Derived.Deep.RegionHeld3
import Derived.BigQuiet
import Derived.Deep.QuietTactic
namespace Go.Proofs.Ytpcdmfimjnhejao
open Go.RowKit

theorem row_three {w : World} {g : Nat} {xs : List Rt} (h : ∀ j t x, xs[j]? = some x → t < rtRec.k → w.cell? ⟨g, rtRec.k * j + t, none⟩ = (rtRec.enc x)[t]?) (j : Nat) (x : Rt) (hx : xs[j]? = some x) :
    w.cell? ⟨g, j * 3, none⟩ = some (.int .i64 x.1) ∧ w.cell? ⟨g, j * 3 + 1, none⟩ = some (.int .i64 x.2.1) ∧ w.cell? ⟨g, j * 3 + 2, none⟩ = some (.int .i64 x.2.2) := by
  have h0 := h j 0 x hx (by decide)
  have h1 := h j 1 x hx (by decide)
  have h2 := h j 2 x hx (by decide)
  have e : rtRec.k * j = j * 3 := Nat.mul_comm _ _
  rw [e] at h0 h1 h2
  exact ⟨h0, h1, h2⟩

set_option maxRecDepth 100000 in
set_option maxHeartbeats 800000 in
theorem specDropTo_any (v : Value) (xs : List Rt) (to : Int) (hl : xs.length ≤ 2000000) (w : World) (hr : RowR rtRec w v xs) :
    Calls Try.prog 23 #[v, .int .i64 to] w fun e w' => ∃ v', e = .returned v' ∧ OwnR rtRec w' w.heap.size 37 v' (xs.filter (fun r => r.2.2 != to)) ∧ Below w.heap.size w w' := by
  obtain ⟨ao, cp, rfl, hf⟩ := hr.form
  obtain ⟨i0, z0, hi, hz0, hzs, hsz0, hby0⟩ := info_rec infoRoute
  go_enter Try.func23, Try.ntmps23
  go_wp2_with fail
  go_loopw [5, 6] (fun o c wr => ∃ k : Nat, k ≤ xs.length ∧ c = .int .i64 k ∧ OwnR rtRec wr w.heap.size 37 o ((xs.take k).filter (fun r => r.2.2 != to)) ∧ Below w.heap.size w wr) (fun _ c _ => xs.length - (intOf c).toNat)
  case atStart => exact ⟨0, Nat.zero_le _, rfl, OwnR.lit _ _ _ (Nat.le_refl _), (Below.refl _ _).alloc (Nat.le_refl _) _⟩
  case round =>
    obtain ⟨k, hk, rfl, hown, hnx⟩ := hrel
    have hsz := hnx.size
    by_cases hlt : k < xs.length
    · have hlt' : (k : Int) < (xs.length : Int) := by omega
      obtain ⟨g, rfl, hg, hcell⟩ := hf (by omega)
      obtain ⟨c0, c1, c2⟩ := row_three hcell k xs[k] (List.getElem?_eq_getElem hlt)
      rw [← hnx.cell (p := ⟨g, k * 3, none⟩) hg] at c0
      rw [← hnx.cell (p := ⟨g, k * 3 + 1, none⟩) hg] at c1
      rw [← hnx.cell (p := ⟨g, k * 3 + 2, none⟩) hg] at c2
      generalize hx : xs[k] = x at c0 c1 c2
      obtain ⟨xa, xn, xt⟩ := x
      have hlen : ((xs.take k).filter (fun r => r.2.2 != to)).length ≤ k := Nat.le_trans (List.length_filter_le _ _) (by rw [List.length_take]; omega)
      by_cases hto : xt = to
      · have hne : (xt != to) = false := by rw [bne_eq_false_iff_eq]; exact hto
        have HF : Hid ((xs.take (k + 1)).filter (fun r => r.2.2 != to) = (xs.take k).filter (fun r => r.2.2 != to)) := by
          show _ = _
          rw [filter_take _ xs k hlt, hx]
          simp [hto]
        clear hto
        go_wp2_with fail
        go_roundw
        case rel => exact ⟨k + 1, by omega, by go_num, by rw [HF.out]; exact hown, hnx⟩
        case measure => simp [intOf]; omega
      · have hne : (xt != to) = true := by rw [bne_iff_ne]; exact hto
        have HF : Hid ((xs.take (k + 1)).filter (fun r => r.2.2 != to) = (xs.take k).filter (fun r => r.2.2 != to) ++ [(xa, xn, xt)]) := by
          show _ = _
          rw [filter_take _ xs k hlt, hx, if_pos hne]
        clear hto
        go_wp2_with (at_builtin; refine wpList_pushR _ rfl _ _ 25 rfl w.heap.size 37 i0 z0 24 Try.underlying25 hi hz0 hsz0 hby0 hzs (by decide) _ _ rfl hown (xa, xn, xt) _ rfl rfl (by omega) hsz ?_)
        intro v' w1 hown1 hnx1
        go_wp2_with fail
        go_roundw
        case rel => exact ⟨k + 1, by omega, by go_num, by rw [HF.out]; exact hown1, hnx.trans hnx1⟩
        case measure => simp [intOf]; omega
    · have hlt' : ¬ ((k : Int) < (xs.length : Int)) := by omega
      have hke : k = xs.length := by omega
      subst hke
      rw [List.take_length] at hown
      go_wp2_with fail
      go_ret
      exact ⟨_, rfl, hown, hnx⟩

end Go.Proofs.Ytpcdmfimjnhejao
