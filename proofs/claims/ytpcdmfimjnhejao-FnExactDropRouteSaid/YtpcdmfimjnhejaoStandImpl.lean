/-
  A table of routes: a map of maps that the program makes.
-/
import Derived.Test.YtpcdmfimjnhejaoPlainTable
import Derived.Test.YtpcdmfimjnhejaoDropToSpec
namespace Go.Proofs.Ytpcdmfimjnhejao
open Go.RowKit

abbrev TM : TypeId := 53
abbrev TI : TypeId := 62
theorem undM : Try.prog.underlying TM = some (.map 3 TI) := by kernel_rfl
theorem undI : Try.prog.underlying TI = some (.map 3 3) := by kernel_rfl
theorem undK : Try.prog.underlying 3 = some (.int .i64) := by kernel_rfl
theorem zeroM (w : World) : (zeroValue TI).run Try.prog w = .ok (.map none) w := by kernel_rfl
theorem zeroI (w : World) : (zeroValue 3).run Try.prog w = .ok (.int .i64 0) w := by kernel_rfl
/-- Keys that are ints. -/
def KI : KeyK Try.prog 3 Int := intKey undK
theorem KI.enc_eq (x : Int) : KI.enc x = .int .i64 x := rfl

theorem turned_cell {w w' : World} {b : Nat} (h : w.mapTurned w' b) {p : Addr} (hlt : p.block < w.heap.size) (hp : p.block ≠ b) : w'.cell? p = w.cell? p :=
  World.cell?_of_block (h.grown.block p.block hlt (fun e => hp (Option.some.inj e)))
theorem cell_grown {w w' : World} {r : Option Nat} (h : w.grownBy w' r) {p : Addr} (hlt : p.block < w.heap.size) (hp : some p.block ≠ r) : w'.cell? p = w.cell? p :=
  World.cell?_of_block (h.block p.block hlt hp)
/-- A table of routes in memory. -/
abbrev Tab (w : World) (base b : Nat) (g : Int → Option Nat) (s : Nat) (F : Int → Int → Option Int) (sz : Int → Nat) : Prop := Nest KI KI .i64 w base b g s F sz

set_option maxRecDepth 100000 in
set_option maxHeartbeats 800000 in
theorem put_any (w : World) (base b : Nat) (g : Int → Option Nat) (s : Nat) (F : Int → Int → Option Int) (sz : Int → Nat) (h : Tab w base b g s F sz) (ra rn rt : Int) (hra : KI.ok ra) (hrn : KI.ok rn) (hs : s ≤ 1000) (hsz : ∀ x, sz x ≤ 1000) :
    Calls Try.prog 33 #[.map (some b), .agg #[.int .i64 ra, .int .i64 rn, .int .i64 rt]] w fun e w' =>
      e = .returned (.tuple #[]) ∧ ∃ g' s' sz', Tab w' base b g' s' (tabPut F (ra, rn, rt)) sz' ∧ s' ≤ s + 1 ∧ (∀ x, sz' x ≤ sz x + 1) ∧ Below base w w' := by
  have hmm := @run_makeMap Try.prog
  have hbs : base ≤ w.heap.size := Nat.le_trans h.own (Nat.le_of_lt h.lt)
  have h0 := h.alloc (.cells #[.int .i64 ra, .int .i64 rn, .int .i64 rt] 37)
  have hw0 : Below base w (w.alloc (.cells #[.int .i64 ra, .int .i64 rn, .int .i64 rt] 37)) := (Below.refl _ _).alloc hbs _
  rcases hgr : g ra with _ | c
  · have hnew : ∀ x', g x' ≠ some (w.heap.size + 1) := fun x' e => by
      have := h.in_lt e
      omega
    have hlt := h.lt
    have hN := h0.alloc (.map #[] 0)
    have hI := MapF.made KI (w.alloc (.cells #[.int .i64 ra, .int .i64 rn, .int .i64 rt] 37))
    rw [show (w.alloc (.cells #[.int .i64 ra, .int .i64 rn, .int .i64 rt] 37)).heap.size = w.heap.size + 1 by simp] at hI
    have hs2 : ((w.alloc (.cells #[.int .i64 ra, .int .i64 rn, .int .i64 rt] 37)).alloc (.map #[] 0)).heap.size = w.heap.size + 2 := by simp
    have hrow : ((w.alloc (.cells #[.int .i64 ra, .int .i64 rn, .int .i64 rt] 37)).alloc (.map #[] 0)).heap[w.heap.size]? = some (.cells #[.int .i64 ra, .int .i64 rn, .int .i64 rt] 37 (0, 0)) := ((MapKept.heap_alloc _ _).2 w.heap.size (by simp)).trans (MapKept.heap_alloc _ _).1
    have hd1 : ((w.alloc (.cells #[.int .i64 ra, .int .i64 rn, .int .i64 rt] 37)).alloc (.map #[] 0)).cell? ⟨w.heap.size, 1, none⟩ = some (.int .i64 rn) := cell_of_row _ _ 1 _ _ (0, 0) hrow
    have hd2 : ((w.alloc (.cells #[.int .i64 ra, .int .i64 rn, .int .i64 rt] 37)).alloc (.map #[] 0)).cell? ⟨w.heap.size, 2, none⟩ = some (.int .i64 rt) := cell_of_row _ _ 2 _ _ (0, 0) hrow
    have hw1 : Below base w ((w.alloc (.cells #[.int .i64 ra, .int .i64 rn, .int .i64 rt] 37)).alloc (.map #[] 0)) := hw0.alloc (by simp; omega) _
    go_enter Try.func33, Try.ntmps33
    go_wp2_with (first
      | (at_lookup; refine wpList_lookM_ok _ KI rfl _ _ TM rfl TI undM (zeroM _) b g s rfl h0.outer ra hra rfl ?_; simp only [hgr, Option.isSome_none])
      | (at_mapUpdate; (refine wpList_storeF _ KI rfl _ _ _ TM rfl TI undM b _ s rfl hN.outer (by unfold maxLen; omega) ra hra rfl (.map (some (w.heap.size + 1))) (by rfl) ?_; intro w1 hm1 ht1; have hN1 := hN.lay (f := fun _ => none) hI (by omega) (by omega) hnew hm1 ht1; have hM1 := hN1.inner ra _ (upd_same _ _ _); rw [upd_same sz, upd_same F] at hM1; have hc1 := (turned_cell ht1 (p := ⟨w.heap.size, 1, none⟩) (by rw [hs2]; show w.heap.size < _; omega) (by show w.heap.size ≠ _; omega)).trans hd1; have hc2 := (turned_cell ht1 (p := ⟨w.heap.size, 2, none⟩) (by rw [hs2]; show w.heap.size < _; omega) (by show w.heap.size ≠ _; omega)).trans hd2))
      | (at_mapUpdate; (refine wpList_storeF _ KI rfl _ _ _ TI rfl 3 undI (w.heap.size + 1) _ _ rfl hM1 (by decide) rn hrn rfl (.int .i64 rt) (by rfl) ?_; intro w2 hm2 ht2)))
    refine bodyPost_end (results_none rfl _ _ _) rfl ?_
    have hm2' : MapF KI w2 (w.heap.size + 1) (putF (fun y => (upd F ra (fun _ => none) ra y).map (Value.int .i64)) rn (.int .i64 rt)) 1 := by
      rw [upd_same F]
      exact hm2
    have hp := hN1.put (upd_same _ _ _) hm2' ht2
    have hF : upd (upd F ra fun _ => none) ra (upd (upd F ra (fun _ => none) ra) rn (some rt)) = tabPut F (ra, rn, rt) := by
      funext a n
      rw [tabPut_at]
      unfold upd
      by_cases ha : a = ra
      · subst ha
        by_cases hn : n = rn
        · simp [hn]
        · simp [hn, h.no a n hgr]
      · simp [ha]
    rw [hF] at hp
    refine ⟨rfl, _, _, _, hp, ?_, fun x => ?_, hw1.trans ((turned_below ht1 h.own (by rw [hs2]; omega)).trans (turned_below ht2 (by omega) (by rw [turned_size ht1, hs2]; omega)))⟩
    · split <;> omega
    · unfold upd
      split
      · omega
      · omega
  · go_enter Try.func33, Try.ntmps33
    go_wp2_with (first
      | (at_lookup; refine wpList_lookM_ok _ KI rfl _ _ TM rfl TI undM (zeroM _) b g s rfl h0.outer ra hra rfl ?_; simp only [hgr, Option.isSome_some])
      | (at_mapUpdate; refine wpList_storeF _ KI rfl _ _ _ TI rfl 3 undI c _ (sz ra) rfl (h0.inner ra c hgr) (by have := hsz ra; unfold maxLen; omega) rn hrn rfl _ rfl ?_; intro w1 hm1 ht1))
    refine bodyPost_end (results_none rfl _ _ _) rfl ?_
    refine ⟨rfl, g, s, _, h0.put hgr hm1 ht1, by omega, fun x => ?_, hw0.trans (turned_below ht1 (h.apart ra c hgr).1 (Nat.le_trans hbs hw0.size))⟩
    unfold upd
    split
    · rename_i hx
      rw [hx]
      split <;> omega
    · omega

set_option maxRecDepth 100000 in
set_option maxHeartbeats 800000 in
theorem standOf_any (v : Value) (xs : List Rt) (hl : xs.length ≤ 500) (w : World) (hr : RowR rtRec w v xs) (hok : ∀ r ∈ xs, KI.ok r.1 ∧ KI.ok r.2.1) :
    Calls Try.prog 32 #[v] w fun e w' => e = .returned (.map (some w.heap.size)) ∧ ∃ g s sz, Tab w' w.heap.size w.heap.size g s (tabP xs) sz ∧ s ≤ xs.length ∧ (∀ x, sz x ≤ xs.length) ∧ Below w.heap.size w w' := by
  have hmm := @run_makeMap Try.prog
  obtain ⟨ao, cp, rfl, hf⟩ := hr.form
  go_enter Try.func32, Try.ntmps32
  go_wp2_with fail
  go_loopw [9] (fun c wr => ∃ k : Nat, k ≤ xs.length ∧ c = .int .i64 k ∧ (∃ g s sz, Tab wr w.heap.size w.heap.size g s (tabP (xs.take k)) sz ∧ s ≤ k ∧ ∀ x, sz x ≤ k) ∧ Below w.heap.size w wr) (fun c _ => xs.length - (intOf c).toNat)
  case atStart => exact ⟨0, Nat.zero_le _, rfl, ⟨_, _, _, Nest.made KI KI .i64 w w.heap.size (Nat.le_refl _), Nat.le_refl _, fun _ => Nat.le_refl _⟩, (Below.refl _ _).alloc (Nat.le_refl _) _⟩
  case round =>
    obtain ⟨k, hk, rfl, ⟨g, s, sz, hT, hs, hsz⟩, hnx⟩ := hrel
    have hnz := hnx.size
    by_cases hlt : k < xs.length
    · have hlt' : (k : Int) < (xs.length : Int) := by omega
      obtain ⟨g0, rfl, hg, hcell⟩ := hf (by omega)
      obtain ⟨c0, c1, c2⟩ := row_three hcell k xs[k] (List.getElem?_eq_getElem hlt)
      rw [← hnx.cell (p := ⟨g0, k * 3, none⟩) hg] at c0
      rw [← hnx.cell (p := ⟨g0, k * 3 + 1, none⟩) hg] at c1
      rw [← hnx.cell (p := ⟨g0, k * 3 + 2, none⟩) hg] at c2
      have HT : Hid (tabP (xs.take (k + 1)) = tabPut (tabP (xs.take k)) xs[k]) := tabP_take xs k hlt
      have hko := hok _ (List.getElem_mem hlt)
      generalize hx : xs[k] = x at c0 c1 c2 HT hko
      obtain ⟨xa, xn, xt⟩ := x
      go_wp2_with (go_at_call 33; refine (put_any _ _ _ g s _ sz (hT.alloc _) xa xn xt hko.1 hko.2 (by omega) (fun x => Nat.le_trans (hsz x) (by omega))).mono ?_; rintro e w1 ⟨rfl, g1, s1, sz1, hT1, hs1, hsz1, hb1⟩)
      go_roundw
      case rel => exact ⟨k + 1, by omega, by go_num, ⟨g1, s1, sz1, by rw [HT.out]; exact hT1, by omega, fun x => Nat.le_trans (hsz1 x) (Nat.succ_le_succ (hsz x))⟩, (hnx.alloc hnz _).trans hb1⟩
      case measure => simp [intOf]; omega
    · have hlt' : ¬ ((k : Int) < (xs.length : Int)) := by omega
      have hke : k = xs.length := by omega
      subst hke
      rw [List.take_length] at hT
      go_wp2_with fail
      go_ret
      exact ⟨rfl, g, s, sz, hT, hs, hsz, hnx⟩

end Go.Proofs.Ytpcdmfimjnhejao
