/-
  Twig as it lies; the laws' own functions over it and over rows of it.
  Trie as it lies; the laws' own functions over it and over rows of it.
  Rows of ints of the call's own; no program is spoken of here.
-/
import Derived.Test.YtkfcoldjgijpcapKitLay
import Derived.Test.YtkfcoldjgijpcapRows
import Derived.Deep.RegionHeld3
import Derived.BigQuiet
import Derived.Deep.QuietTactic
import Derived.Deep.DeepCutAuto
namespace Go.Proofs.Ytkfcoldjgijpcap
open Go.RowKit

abbrev TwigD := Int × Int × Int
abbrev TwigT : TypeId := 58
def layTwig : Lay TwigD := Lay.pair Lay.int (Lay.pair Lay.int Lay.int)
def layTwigS : Lay (List TwigD) := .rows TwigT layTwig

theorem layTwig_rd {w : World} {cs : List Value} {x : TwigD} : layTwig.rd w cs x ↔ cs = [.int .i64 x.1, .int .i64 x.2.1, .int .i64 x.2.2] := by
  constructor
  · rintro ⟨c0, d0, rfl, rfl, ⟨c1, d1, rfl, rfl, rfl⟩⟩
    rfl
  · rintro rfl
    exact ⟨[_], [_, _], rfl, rfl, ⟨[_], [_], rfl, rfl, rfl⟩⟩

theorem layTwig_own {w : World} {b : Nat} {f : List Nat} {cs : List Value} {x : TwigD} : layTwig.own w b f cs x ↔ f = [] ∧ cs = [.int .i64 x.1, .int .i64 x.2.1, .int .i64 x.2.2] := by
  constructor
  · rintro ⟨f0, g0, c0, d0, rfl, rfl, ⟨rfl, rfl⟩, ⟨f1, g1, c1, d1, rfl, rfl, ⟨rfl, rfl⟩, ⟨rfl, rfl⟩⟩⟩
    exact ⟨rfl, rfl⟩
  · rintro ⟨rfl, rfl⟩
    exact ⟨[], ([] ++ []), [_], [_, _], rfl, rfl, ⟨rfl, rfl⟩, ⟨[], [], [_], [_], rfl, rfl, ⟨rfl, rfl⟩, ⟨rfl, rfl⟩⟩⟩

theorem zeroTwig (w : World) (b : Nat) : layTwig.own w b [] [.int .i64 0, .int .i64 0, .int .i64 0] (0, 0, 0) := layTwig_own.2 ⟨rfl, rfl⟩
theorem zeroTwig_none (w : World) (b : Nat) (f : List Nat) (c : List Value) (h : layTwig.own w b f c (0, 0, 0)) : f = [] := (layTwig_own.1 h).1
theorem flatTwig : Flat layTwig := ⟨fun _ _ _ _ h => layTwig_own.2 ⟨rfl, layTwig_rd.1 h⟩, fun _ _ _ _ _ h => (layTwig_own.1 h).1, fun _ _ _ _ h => layTwig_rd.2 (layTwig_rd.1 h)⟩

theorem infoTwig : (Try.prog.info? 58).map (fun i => (i.zero, i.size, i.bytes)) = some (some (.agg #[.int .i64 0, .int .i64 0, .int .i64 0]), 3, 24) := by kernel_rfl

set_option maxRecDepth 100000 in
set_option maxHeartbeats 400000 in
theorem toTwig_any (x0 : Int) (x1 : Int) (x2 : Int) (w : World) :
    Calls Try.prog 54 #[.agg #[.int .i64 x0, .int .i64 x1, .int .i64 x2]] w fun e w' => e = .returned (.agg #[.int .i64 x0, .int .i64 x1, .int .i64 x2]) ∧ Below w.heap.size w w' := by
  go_enter Try.func54, Try.ntmps54
  go_wp2_with fail
  refine bodyPost_ret (v := .agg #[.int .i64 x0, .int .i64 x1, .int .i64 x2]) (by simp [results, Try.results54, go_sem]) rfl ⟨rfl, ?_⟩
  exact (((Below.refl w.heap.size w).alloc (Nat.le_refl _) _).alloc (by simp) _).alloc (by simp; omega) _

set_option maxRecDepth 100000 in
set_option maxHeartbeats 400000 in
theorem eqTwig_same (x0 : Int) (x1 : Int) (x2 : Int) (w : World) :
    Calls Try.prog 53 #[.agg #[.int .i64 x0, .int .i64 x1, .int .i64 x2], .agg #[.int .i64 x0, .int .i64 x1, .int .i64 x2]] w fun e w' => e = .returned (.bool true) ∧ Below w.heap.size w w' := by
  go_enter Try.func53, Try.ntmps53
  go_wp2_with fail
  go_ret
  exact ⟨rfl, ((Below.refl _ _).alloc (Nat.le_refl _) _).alloc (by simp) _⟩

set_option maxRecDepth 100000 in
set_option maxHeartbeats 800000 in
theorem toTwigS_any (v : Value) (xs : List TwigD) (hl : xs.length ≤ 1048576) (w : World) (hs : layTwigS.rd w [v] xs) :
    Calls Try.prog 32 #[v] w fun e w' => OutS layTwigS w xs e w' := by
  obtain ⟨i0, hi, hz0, hsz0, hby0⟩ := info_of infoTwig
  obtain ⟨a, cap, rfl⟩ := rows_form hs
  have H1 := Lib.hid toTwig_any
  have HS := Lib.hid hs
  clear hs
  go_enter Try.func32, Try.ntmps32
  go_wp2_with (at_make; refine wpList_make_full _ rfl _ _ 22 rfl w.heap.size TwigT i0 (.agg #[.int .i64 0, .int .i64 0, .int .i64 0]) 3 Try.underlying22 hi hz0 hsz0 .i64 .i64 _ _ xs.length rfl rfl rfl rfl (by rw [hby0]; omega) (by unfold maxLen; omega) (Nat.le_refl _) ?_)
  intro w1 hown1 hg1
  have hown : layTwigS.own w1 w.heap.size [w.heap.size] [.slice (some ⟨w.heap.size, 0, none⟩) xs.length xs.length] (List.replicate xs.length (0, 0, 0)) := rows_made hown1 rfl (zeroTwig _ _)
  have hbel : Below w.heap.size w w1 := below_grown hg1 (fun k h => by cases h) (Nat.le_refl _)
  clear hown1 hg1
  go_wp2_with fail
  go_loopw [4] (fun c wr => ∃ (j : Nat) (fp : List Nat), j ≤ xs.length ∧ c = .int .i64 j ∧ fp.Nodup ∧ layTwigS.own wr w.heap.size fp [.slice (some ⟨w.heap.size, 0, none⟩) xs.length xs.length] (xs.take j ++ List.replicate (xs.length - j) (0, 0, 0)) ∧ Below w.heap.size w wr) (fun c _ => xs.length - (intOf c).toNat)
  case atStart => exact ⟨0, [w.heap.size], Nat.zero_le _, rfl, by simp, by simpa using hown, hbel⟩
  case round =>
    obtain ⟨j, fp, hj, rfl, hdup, hown2, hb2⟩ := hrel
    have HO := Lib.hid hown2
    have HB := Lib.hid hb2
    clear hown2 hb2 hown hbel
    by_cases hlt : j < xs.length
    · have hlt' : (j : Int) < (xs.length : Int) := by omega
      have hx := List.getElem?_eq_getElem hlt
      obtain ⟨g, off, cs, rfl, hg, hr, hc⟩ := rows_elem (layTwigS.below HS.out HB.out) j _ hx
      have hta : xs.take (j + 1) = xs.take j ++ [xs[j]] := by rw [List.take_add_one, hx]; rfl
      generalize xs[j] = x at hr hta
      rw [layTwig_rd] at hr
      subst hr
      obtain ⟨x0, x1, x2⟩ := x
      have c0 : wr.cell? ⟨g, off + j * 3, none⟩ = some (.int .i64 x0) := hc 0 _ rfl
      have c1 : wr.cell? ⟨g, off + j * 3 + 1, none⟩ = some (.int .i64 x1) := hc 1 _ rfl
      have c2 : wr.cell? ⟨g, off + j * 3 + 2, none⟩ = some (.int .i64 x2) := hc 2 _ rfl
      have HTA := Lib.hid hta
      clear hta hc hx
      go_wp2_with fail
      refine (H1.out _ _ _ _).mono ?_
      rintro e w2 ⟨rfl, hb2⟩
      have hm : xs.length - j = (xs.length - (j + 1)) + 1 := by omega
      have hown3 := layTwigS.next HO.out hb2
      rw [hm] at hown3
      obtain ⟨g', cap', hv, hbg, hgl, ⟨zc, hzc, hcell⟩, fp', hd', _, hown4, hchg⟩ := rows_fill zeroTwig_none hown3 hdup [] [.int .i64 x0, .int .i64 x1, .int .i64 x2] (x0, x1, x2) (layTwig_own.2 ⟨rfl, rfl⟩) (by simp) (by simp)
      simp only [Value.slice.injEq, Option.some.injEq, Addr.mk.injEq, and_true] at hv
      obtain ⟨rfl, -, rfl⟩ := hv
      have hjl : (xs.take j).length = j := by rw [List.length_take]; omega
      rw [hjl] at hcell hown4 hchg
      rw [layTwig_own] at hzc
      obtain ⟨-, rfl⟩ := hzc
      obtain ⟨e0, z0⟩ : w2.cell? ⟨w.heap.size, j * 3, none⟩ = some (.int .i64 0) ∧ w2.frozen? ⟨w.heap.size, j * 3, none⟩ = false := hcell 0 _ rfl
      obtain ⟨e1, z1⟩ : w2.cell? ⟨w.heap.size, j * 3 + 1, none⟩ = some (.int .i64 0) ∧ w2.frozen? ⟨w.heap.size, j * 3 + 1, none⟩ = false := hcell 1 _ rfl
      obtain ⟨e2, z2⟩ : w2.cell? ⟨w.heap.size, j * 3 + 2, none⟩ = some (.int .i64 0) ∧ w2.frozen? ⟨w.heap.size, j * 3 + 2, none⟩ = false := hcell 2 _ rfl
      have hbel2 := HB.out.trans (hb2.mono HB.out.size)
      have HP : Hid (layTwigS.own (setCells w2 w.heap.size (j * layTwig.k) [.int .i64 x0, .int .i64 x1, .int .i64 x2]) w.heap.size fp' [.slice (some ⟨w.heap.size, 0, none⟩) xs.length xs.length] (xs.take (j + 1) ++ List.replicate (xs.length - (j + 1)) (0, 0, 0))) := by
        rw [HTA.out, List.append_assoc]
        exact hown4
      have HB3 := Lib.hid (hbel2.trans (hchg.below (by simp) hbel2.size))
      have HD := Lib.hid hd'
      clear hown3 hown4 hchg hbel2 hb2 hcell hm hjl hd' hbg hgl
      go_wp2_with fail
      go_roundw
      case rel => exact ⟨j + 1, fp', by omega, by go_num, HD.out, HP.out, HB3.out⟩
      case measure => simp [intOf]; omega
    · have hlt' : ¬ ((j : Int) < (xs.length : Int)) := by omega
      have hke : j = xs.length := by omega
      have hfin : xs.take j ++ List.replicate (xs.length - j) ((0, 0, 0) : TwigD) = xs := by subst hke; simp
      have HO2 := HO.out
      rw [hfin] at HO2
      have HO3 := Lib.hid HO2
      clear HO2 HO
      go_wp2_with fail
      go_ret
      exact ⟨_, fp, rfl, hdup, HO3.out, HB.out⟩

set_option maxRecDepth 100000 in
set_option maxHeartbeats 400000 in
theorem szTwigS_any (a : Option Addr) (len cap : Nat) (left : Int) (h0 : 0 ≤ left) (h1 : left ≤ 1048576) (hl : len ≤ 9223372036854775807) (w : World) :
    Calls Try.prog 30 #[.slice a len cap, .int .i64 left] w fun e w' => e = .returned (.int .i64 (if left < len then -1 else left - (len : Int))) ∧ w' = w := by
  by_cases h : left < (len : Int)
  · have h1 : left - (len : Int) < 0 := by omega
    rw [if_pos h]
    go_enter Try.func30, Try.ntmps30
    go_wp2
    go_ret
    exact ⟨rfl, rfl⟩
  · have h1 : ¬ (left - (len : Int) < 0) := by omega
    rw [if_neg h]
    go_enter Try.func30, Try.ntmps30
    go_wp2
    go_ret
    exact ⟨rfl, rfl⟩

set_option maxRecDepth 100000 in
set_option maxHeartbeats 1600000 in
theorem eqTwigS_same (v u : Value) (xs : List TwigD) (hl : xs.length ≤ 100000000) (w : World) (hv : layTwigS.rd w [v] xs) (hu : layTwigS.rd w [u] xs) :
    Calls Try.prog 27 #[v, u] w fun e w' => e = .returned (.bool true) ∧ Below w.heap.size w w' := by
  obtain ⟨ao, cp, rfl⟩ := rows_form hv
  obtain ⟨bo, dp, rfl⟩ := rows_form hu
  have HV := Lib.hid hv
  have HU := Lib.hid hu
  clear hv hu
  have K1 := eqTwig_same
  go_enter Try.func27, Try.ntmps27
  go_wp2_with fail
  go_loopw [5] (fun c wr => ∃ j : Nat, j ≤ xs.length ∧ c = .int .i64 j ∧ Below w.heap.size w wr) (fun c _ => xs.length - (intOf c).toNat)
  case atStart => exact ⟨0, Nat.zero_le _, rfl, Below.refl _ _⟩
  case round =>
    obtain ⟨j, hj, rfl, hb2⟩ := hrel
    by_cases hlt : j < xs.length
    · have hlt' : (j : Int) < (xs.length : Int) := by omega
      have hx := List.getElem?_eq_getElem hlt
      obtain ⟨g, og, cs, rfl, hg, hr, hc⟩ := rows_elem (layTwigS.below HV.out hb2.drew) j _ hx
      obtain ⟨h, oh, ds, rfl, hh, hs, hd⟩ := rows_elem (layTwigS.below HU.out hb2.drew) j _ hx
      generalize xs[j] = x at hr hs
      rw [layTwig_rd] at hr hs
      subst hr hs
      obtain ⟨x0, x1, x2⟩ := x
      have E0 : Hid (wr.drew.cell? ⟨g, og + j * 3, none⟩ = some (.int .i64 x0) ∧ wr.drew.cell? ⟨g, og + j * 3 + 1, none⟩ = some (.int .i64 x1) ∧ wr.drew.cell? ⟨g, og + j * 3 + 2, none⟩ = some (.int .i64 x2) ∧ wr.drew.cell? ⟨h, oh + j * 3, none⟩ = some (.int .i64 x0) ∧ wr.drew.cell? ⟨h, oh + j * 3 + 1, none⟩ = some (.int .i64 x1) ∧ wr.drew.cell? ⟨h, oh + j * 3 + 2, none⟩ = some (.int .i64 x2) ∧ Below w.heap.size w wr.drew) := ⟨hc 0 _ rfl, hc 1 _ rfl, hc 2 _ rfl, hd 0 _ rfl, hd 1 _ rfl, hd 2 _ rfl, hb2.drew⟩
      have K2 : Hid (∀ X : World, (X.cell? ⟨g, og + j * 3, none⟩ = some (.int .i64 x0) ∧ X.cell? ⟨g, og + j * 3 + 1, none⟩ = some (.int .i64 x1) ∧ X.cell? ⟨g, og + j * 3 + 2, none⟩ = some (.int .i64 x2) ∧ X.cell? ⟨h, oh + j * 3, none⟩ = some (.int .i64 x0) ∧ X.cell? ⟨h, oh + j * 3 + 1, none⟩ = some (.int .i64 x1) ∧ X.cell? ⟨h, oh + j * 3 + 2, none⟩ = some (.int .i64 x2) ∧ Below w.heap.size w X) → Calls Try.prog 53 #[.agg #[.int .i64 x0, .int .i64 x1, .int .i64 x2], .agg #[.int .i64 x0, .int .i64 x1, .int .i64 x2]] X fun e Y => e = .returned (.bool true) ∧ (Y.cell? ⟨g, og + j * 3, none⟩ = some (.int .i64 x0) ∧ Y.cell? ⟨g, og + j * 3 + 1, none⟩ = some (.int .i64 x1) ∧ Y.cell? ⟨g, og + j * 3 + 2, none⟩ = some (.int .i64 x2) ∧ Y.cell? ⟨h, oh + j * 3, none⟩ = some (.int .i64 x0) ∧ Y.cell? ⟨h, oh + j * 3 + 1, none⟩ = some (.int .i64 x1) ∧ Y.cell? ⟨h, oh + j * 3 + 2, none⟩ = some (.int .i64 x2) ∧ Below w.heap.size w Y)) := fun X hX => by
        refine (K1 x0 x1 x2 X).mono ?_
        rintro e Y ⟨rfl, hb⟩
        obtain ⟨a0, a1, a2, a3, a4, a5, hbX⟩ := hX
        exact ⟨rfl, by rw [hb.cell (p := ⟨g, og + j * 3, none⟩) (World.block_lt_of_cell? _ _ a0)]; exact a0, by rw [hb.cell (p := ⟨g, og + j * 3 + 1, none⟩) (World.block_lt_of_cell? _ _ a1)]; exact a1, by rw [hb.cell (p := ⟨g, og + j * 3 + 2, none⟩) (World.block_lt_of_cell? _ _ a2)]; exact a2, by rw [hb.cell (p := ⟨h, oh + j * 3, none⟩) (World.block_lt_of_cell? _ _ a3)]; exact a3, by rw [hb.cell (p := ⟨h, oh + j * 3 + 1, none⟩) (World.block_lt_of_cell? _ _ a4)]; exact a4, by rw [hb.cell (p := ⟨h, oh + j * 3 + 2, none⟩) (World.block_lt_of_cell? _ _ a5)]; exact a5, hbX.trans (hb.mono hbX.size)⟩
      clear hc hd hx K1 hb2
      go_wp2_with fail
      go_region_held3 (fun X => X.cell? ⟨g, og + j * 3, none⟩ = some (.int .i64 x0) ∧ X.cell? ⟨g, og + j * 3 + 1, none⟩ = some (.int .i64 x1) ∧ X.cell? ⟨g, og + j * 3 + 2, none⟩ = some (.int .i64 x2) ∧ X.cell? ⟨h, oh + j * 3, none⟩ = some (.int .i64 x0) ∧ X.cell? ⟨h, oh + j * 3 + 1, none⟩ = some (.int .i64 x1) ∧ X.cell? ⟨h, oh + j * 3 + 2, none⟩ = some (.int .i64 x2) ∧ Below w.heap.size w X) (first | (with_reducible assumption) | (with_reducible exact E0.out)) (first | (go_at_call 53; refine (K2.out _ (by assumption)).mono ?_; rintro e v1 ⟨rfl, hS⟩))
      all_goals
        have HS := Lib.hid hS.2.2.2.2.2.2
        clear hS
        go_wp2_with fail
        go_roundw
        case rel => exact ⟨j + 1, by omega, by go_num, HS.out⟩
        case measure => simp [intOf]; omega
    · have hlt' : ¬ ((j : Int) < (xs.length : Int)) := by omega
      go_wp2_with fail
      go_ret
      exact ⟨rfl, hb2⟩

theorem markTwig_eq (q : Int) (x : TwigD) : layTwig.mark q x = ((q, q + 1, q + 1 + 1), q + 1 + 1 + 1) := rfl
theorem marksTwig_num (k : Int) (xs : List TwigD) : (layTwigS.mark k xs).2 = k + 3 * (xs.length : Int) := by
  show (mkAll layTwig k xs).2 = _
  induction xs generalizing k with
  | nil => simp [mkAll]
  | cons x xs ih =>
    show (mkAll layTwig (layTwig.mark k x).2 xs).2 = _
    rw [ih, markTwig_eq]
    simp only [List.length_cons]
    omega
theorem marksTwig_next (k : Int) (xs : List TwigD) (j : Nat) (x : TwigD) (hx : xs[j]? = some x) : (layTwigS.mark k (xs.take (j + 1))).1 = (layTwigS.mark k (xs.take j)).1 ++ [(layTwig.mark (k + 3 * (j : Int)) x).1] := by
  have hj : j < xs.length := (List.getElem?_eq_some_iff.1 hx).1
  have e : xs.take (j + 1) = xs.take j ++ [x] := by rw [List.take_add_one, hx]; rfl
  have h2 := marksTwig_num k (xs.take j)
  show (mkAll layTwig k _).1 = (mkAll layTwig k _).1 ++ _
  rw [e, mkAll_append]
  have h3 : (mkAll layTwig k (xs.take j)).2 = k + 3 * (j : Int) := by
    have h4 : (mkAll layTwig k (xs.take j)).2 = _ := h2
    rw [h4, List.length_take, Nat.min_eq_left (by omega)]
  rw [h3]
  rfl
set_option maxRecDepth 100000 in
set_option maxHeartbeats 1600000 in
theorem markTwigS_any (v : Value) (xs : List TwigD) (b : Nat) (fp : List Nat) (k : Int) (hk0 : 0 ≤ k) (hk1 : k ≤ 1000000000) (hl : xs.length ≤ 100000000) (w : World) (hd : fp.Nodup) (ho : layTwigS.own w b fp [v] xs) :
    Calls Try.prog 28 #[v, .int .i64 k] w fun e w' => e = .returned (.int .i64 (k + 3 * (xs.length : Int))) ∧ layTwigS.own w' b fp [v] (layTwigS.mark k xs).1 ∧ Chg fp w w' := by
  obtain ⟨ao, cp, rfl⟩ := rows_form (layTwigS.read ho)
  have HO := Lib.hid ho
  have HDUP := Lib.hid hd
  clear ho hd
  go_enter Try.func28, Try.ntmps28
  go_wp2_with fail
  go_loopw [1, 5] (fun q c wr => ∃ j : Nat, j ≤ xs.length ∧ c = .int .i64 j ∧ q = .int .i64 (k + 3 * (j : Int)) ∧ layTwigS.own wr b fp [.slice ao xs.length cp] ((layTwigS.mark k (xs.take j)).1 ++ xs.drop j) ∧ Chg fp w wr) (fun _ c _ => xs.length - (intOf c).toNat)
  case atStart => exact ⟨0, Nat.zero_le _, rfl, by simp, by simpa [layTwigS, Lay.rows, mkAll] using HO.out, Chg.refl _ _⟩
  case round =>
    obtain ⟨j, hj, rfl, rfl, hown2, hg2⟩ := hrel
    have HO2 := Lib.hid hown2
    have HG := Lib.hid hg2
    clear hown2 hg2 HO
    by_cases hlt : j < xs.length
    · have hlt' : (j : Int) < (xs.length : Int) := by omega
      have hx := List.getElem?_eq_getElem hlt
      have hnext := marksTwig_next k xs j _ hx
      have hdrop : xs.drop j = xs[j] :: xs.drop (j + 1) := List.drop_eq_getElem_cons hlt
      have hown3 := HO2.out
      rw [hdrop] at hown3
      generalize xs[j] = x at hown3 hnext
      obtain ⟨g, cap, f1, f2, f3, u1, c, u3, hv, rfl, Z⟩ := rows_open hown3 HDUP.out
      simp only [Value.slice.injEq] at hv
      obtain ⟨rfl, -, rfl⟩ := hv
      have hXl : (layTwigS.mark k (xs.take j)).1.length = j := by
        show (mkAll layTwig k _).1.length = j
        rw [mkAll_length, List.length_take]
        omega
      obtain ⟨rfl, rfl⟩ := layTwig_own.1 Z.mid
      have hcell := fun t u hu => Z.cell t u hu
      rw [hXl] at hcell
      obtain ⟨x0, x1, x2⟩ := x
      obtain ⟨q, hq, hq0, hq1⟩ : ∃ q : Int, k + 3 * (j : Int) = q ∧ 0 ≤ q ∧ q ≤ 2000000000 := ⟨_, rfl, by omega, by omega⟩
      obtain ⟨d0, z0⟩ : wr.cell? ⟨g, j * 3, none⟩ = some (.int .i64 x0) ∧ wr.frozen? ⟨g, j * 3, none⟩ = false := hcell 0 _ rfl
      obtain ⟨d1, z1⟩ : wr.cell? ⟨g, j * 3 + 1, none⟩ = some (.int .i64 x1) ∧ wr.frozen? ⟨g, j * 3 + 1, none⟩ = false := hcell 1 _ rfl
      obtain ⟨d2, z2⟩ : wr.cell? ⟨g, j * 3 + 2, none⟩ = some (.int .i64 x2) ∧ wr.frozen? ⟨g, j * 3 + 2, none⟩ = false := hcell 2 _ rfl
      have hst := Z.store [.int .i64 q, .int .i64 (q + 1), .int .i64 (q + 1 + 1)] 0 (by simp) [] (layTwig.mark q (x0, x1, x2)).1 (layTwig_own.2 ⟨rfl, rfl⟩) Z.dup
      rw [hXl] at hst
      have HP : Hid (layTwigS.own (setCells wr g (j * layTwig.k + 0) [.int .i64 q, .int .i64 (q + 1), .int .i64 (q + 1 + 1)]) b (g :: (f1 ++ ([] ++ f3))) [.slice (some ⟨g, 0, none⟩) xs.length cp] ((layTwigS.mark k (xs.take (j + 1))).1 ++ xs.drop (j + 1))) := by
        have h3 := hst.1.shut
        have e4 : ((layTwigS.mark k (xs.take j)).1 ++ (layTwig.mark q (x0, x1, x2)).1 :: xs.drop (j + 1)).length = xs.length := by
          rw [List.length_append, hXl, List.length_cons, List.length_drop]
          omega
        rw [e4] at h3
        rw [hnext, hq, List.append_assoc]
        exact h3
      have HG3 := Lib.hid (HG.out.trans (hst.2.sub (by simp)))
      have HQ := Lib.hid hq
      rw [hq]
      clear hst hown3 hnext hdrop hcell Z hXl HG HO2 hx hq
      go_wp2_with fail
      go_roundw
      case rel => exact ⟨j + 1, by omega, by go_num, by have := HQ.out; go_num, HP.out, HG3.out⟩
      case measure => simp [intOf]; omega
    · have hlt' : ¬ ((j : Int) < (xs.length : Int)) := by omega
      have hke : j = xs.length := by omega
      subst hke
      have HO3 := HO2.out
      rw [List.drop_length, List.append_nil, List.take_length] at HO3
      have HO4 := Lib.hid HO3
      clear HO3 HO2
      go_wp2_with fail
      go_ret
      exact ⟨rfl, HO4.out, HG.out⟩

theorem marksTwig_get (k : Int) (xs : List TwigD) (j : Nat) (x : TwigD) (hx : xs[j]? = some x) : (layTwigS.mark k xs).1[j]? = some (layTwig.mark (k + 3 * (j : Int)) x).1 := by
  have hj : j < xs.length := (List.getElem?_eq_some_iff.1 hx).1
  have h := marksTwig_next k xs j x hx
  have e : xs = xs.take (j + 1) ++ xs.drop (j + 1) := (List.take_append_drop _ _).symm
  have e2 : (layTwigS.mark k xs).1 = (layTwigS.mark k (xs.take (j + 1))).1 ++ (mkAll layTwig (layTwigS.mark k (xs.take (j + 1))).2 (xs.drop (j + 1))).1 := by
    conv => lhs; rw [e]
    show (mkAll layTwig k _).1 = _
    rw [mkAll_append]
    rfl
  have hl : (layTwigS.mark k (xs.take j)).1.length = j := by
    show (mkAll layTwig k _).1.length = j
    rw [mkAll_length, List.length_take]
    omega
  rw [e2, h, List.getElem?_append_left (by rw [List.length_append, hl]; simp), List.getElem?_append_right (by omega), hl, Nat.sub_self]
  rfl
set_option maxRecDepth 100000 in
set_option maxHeartbeats 1600000 in
theorem heldTwigS_any (v : Value) (xs : List TwigD) (k : Int) (hk0 : 0 ≤ k) (hk1 : k ≤ 1000000000) (hl : xs.length ≤ 100000000) (w : World) (hr : layTwigS.rd w [v] (layTwigS.mark k xs).1) :
    Calls Try.prog 29 #[v, .int .i64 k] w fun e w' => e = .returned (.int .i64 (k + 3 * (xs.length : Int))) ∧ w' = w := by
  obtain ⟨ao, cp, rfl⟩ := rows_form hr
  have hml : (layTwigS.mark k xs).1.length = xs.length := mkAll_length layTwig xs k
  have HR := Lib.hid hr
  clear hr
  rw [hml] at HR ⊢
  go_enter Try.func29, Try.ntmps29
  go_wp2_with fail
  go_loopw [1, 5] (fun q c wr => ∃ j : Nat, j ≤ xs.length ∧ c = .int .i64 j ∧ q = .int .i64 (k + 3 * (j : Int)) ∧ wr = w) (fun _ c _ => xs.length - (intOf c).toNat)
  case atStart => exact ⟨0, Nat.zero_le _, rfl, by simp, by first | trivial | rfl⟩
  case round =>
    obtain ⟨j, hj, rfl, rfl, rfl⟩ := hrel
    by_cases hlt : j < xs.length
    · have hlt' : (j : Int) < (xs.length : Int) := by omega
      obtain ⟨g, off, cs, rfl, hg, hr, hc⟩ := rows_elem HR.out j _ (marksTwig_get k xs j _ (List.getElem?_eq_getElem hlt))
      obtain ⟨q, hq, hq0, hq1⟩ : ∃ q : Int, k + 3 * (j : Int) = q ∧ 0 ≤ q ∧ q ≤ 2000000000 := ⟨_, rfl, by omega, by omega⟩
      rw [hq, markTwig_eq, layTwig_rd] at hr
      subst hr
      have c0 : wr.cell? ⟨g, off + j * 3, none⟩ = some (.int .i64 q) := hc 0 _ rfl
      have c1 : wr.cell? ⟨g, off + j * 3 + 1, none⟩ = some (.int .i64 (q + 1)) := hc 1 _ rfl
      have c2 : wr.cell? ⟨g, off + j * 3 + 2, none⟩ = some (.int .i64 (q + 1 + 1)) := hc 2 _ rfl
      have HQ := Lib.hid hq
      rw [hq]
      clear hc hq hml
      go_wp2_with fail
      go_roundw
      case rel => exact ⟨j + 1, by omega, by go_num, by have := HQ.out; go_num, by first | trivial | rfl⟩
      case measure => simp [intOf]; omega
    · have hlt' : ¬ ((j : Int) < (xs.length : Int)) := by omega
      have hke : j = xs.length := by omega
      subst hke
      go_wp2_with fail
      go_ret
      exact ⟨rfl, rfl⟩

end Go.Proofs.Ytkfcoldjgijpcap
namespace Go.Proofs.Ytkfcoldjgijpcap
open Go.RowKit

abbrev TrieD := (List TwigD)
abbrev TrieT : TypeId := 24
def layTrie : Lay TrieD := layTwigS
def layTrieS : Lay (List TrieD) := .rows TrieT layTrie

theorem layTrie_rd {w : World} {cs : List Value} {x : TrieD} : layTrie.rd w cs x ↔ ∃ v0, cs = [v0] ∧ layTwigS.rd w [v0] x := by
  constructor
  · rintro ⟨v100, rfl, h100⟩
    exact ⟨v100, rfl, ⟨v100, rfl, h100⟩⟩
  · rintro ⟨v0, rfl, H0⟩
    exact H0

theorem layTrie_own {w : World} {b : Nat} {f : List Nat} {cs : List Value} {x : TrieD} : layTrie.own w b f cs x ↔ ∃ v0 f0, cs = [v0] ∧ f = f0 ∧ layTwigS.own w b f0 [v0] x := by
  constructor
  · rintro ⟨v100, rfl, h100⟩
    exact ⟨v100, _, rfl, by simp, ⟨v100, rfl, h100⟩⟩
  · rintro ⟨v0, f0, rfl, hf, H0⟩
    have hf2 : f = f0 := by simp [hf]
    rw [hf2]
    exact H0

set_option maxRecDepth 100000 in
set_option maxHeartbeats 1600000 in
theorem toTrie_any (v0 : Value) (r0 : List TwigD) (w : World) (h0 : layTwigS.rd w [v0] r0) (l0 : r0.length ≤ 1048576) :
    Calls Try.prog 15 #[.agg #[v0]] w fun e w' => OutT layTrie w r0 e w' := by
  obtain ⟨a0, p0, rfl⟩ := rows_form h0
  have C_toTwigS_any := Lib.hid toTwigS_any
  have H0 := Lib.hid h0
  clear h0
  have A0 := ((VarA.new w 31 #[.slice a0 r0.length p0]).alloc (.cells #[.slice none 0 0] TrieT)).alloc (.cells #[.slice none 0 0] TrieT)
  have A1 := (VarA.new (w.alloc (.cells #[.slice a0 r0.length p0] 31)) TrieT #[.slice none 0 0]).alloc (.cells #[.slice none 0 0] TrieT)
  have A2 := VarA.new ((w.alloc (.cells #[.slice a0 r0.length p0] 31)).alloc (.cells #[.slice none 0 0] TrieT)) TrieT #[.slice none 0 0]
  have BY := ((((Below.refl w.heap.size w).alloc (Nat.le_refl _) (.cells #[.slice a0 r0.length p0] 31)).alloc (by simp) (.cells #[.slice none 0 0] TrieT)).alloc (by simp; omega) (.cells #[.slice none 0 0] TrieT))
  have e1 : (w.alloc (.cells #[.slice a0 r0.length p0] 31)).heap.size = w.heap.size + 1 := by simp
  have e2 : ((w.alloc (.cells #[.slice a0 r0.length p0] 31)).alloc (.cells #[.slice none 0 0] TrieT)).heap.size = w.heap.size + 1 + 1 := by simp
  rw [e1] at A1
  rw [e2] at A2
  clear e1 e2
  have HA0 := Lib.hid A0
  have HA1 := Lib.hid A1
  have HA2 := Lib.hid A2
  have HBY := Lib.hid BY
  clear A0 A1 A2 BY
  go_enter Try.func15, Try.ntmps15
  go_upto_region 2 with fail
  generalize ((w.alloc (.cells #[.slice a0 r0.length p0] 31)).alloc (.cells #[.slice none 0 0] TrieT)).alloc (.cells #[.slice none 0 0] TrieT) = Y0 at *
  have c0 : Y0.cell? ⟨w.heap.size, 0, none⟩ = some (.slice a0 r0.length p0) := HA0.out.cell 0
  go_wp2_with fail
  refine (C_toTwigS_any.out _ _ l0 _ (layTwigS.below H0.out HBY.out)).mono ?_
  rintro e Y1 ⟨n0, f0, rfl, nd0, hown, hb⟩
  obtain ⟨ao0, cp0, rfl⟩ := rows_form (layTwigS.read hown)
  have LB0 : Hid (∀ a ∈ f0, w.heap.size + 1 + 1 < a) := fun a ha => Nat.lt_of_lt_of_le HA2.out.lt (layTwigS.blocks hown a ha).1
  have O0 := Lib.hid (layTwigS.lower hown HBY.out.size)
  replace HA0 := Lib.hid (HA0.out.next hb)
  replace HA1 := Lib.hid (HA1.out.next hb)
  replace HA2 := Lib.hid (HA2.out.next hb)
  replace HBY := Lib.hid (HBY.out.trans (hb.mono HBY.out.size))
  clear hb hown
  have q0 : Y1.cell? ⟨w.heap.size + 1 + 1, 0, none⟩ = some (.slice none 0 0) := HA2.out.cell 0
  have f_0 : Y1.frozen? ⟨w.heap.size + 1 + 1, 0, none⟩ = false := HA2.out.free 0
  replace HA0 : Hid (VarA w.heap.size 31 #[.slice a0 r0.length p0] (Y1.setCell ⟨w.heap.size + 1 + 1, 0, none⟩ (.slice ao0 r0.length cp0))) := HA0.out.off 0 (.slice ao0 r0.length cp0) (by omega)
  replace HA1 : Hid (VarA (w.heap.size + 1) TrieT #[.slice none 0 0] (Y1.setCell ⟨w.heap.size + 1 + 1, 0, none⟩ (.slice ao0 r0.length cp0))) := HA1.out.off 0 (.slice ao0 r0.length cp0) (by omega)
  replace HA2 : Hid (VarA (w.heap.size + 1 + 1) TrieT #[.slice ao0 r0.length cp0] (Y1.setCell ⟨w.heap.size + 1 + 1, 0, none⟩ (.slice ao0 r0.length cp0))) := HA2.out.set 0 (.slice ao0 r0.length cp0)
  replace HBY : Hid (Below w.heap.size w (Y1.setCell ⟨w.heap.size + 1 + 1, 0, none⟩ (.slice ao0 r0.length cp0))) := HBY.out.trans ((Only.setCell (c := w.heap.size + 1 + 1) (w := Y1) 0 (.slice ao0 r0.length cp0)).below (B := w.heap.size) (by omega) HBY.out.size)
  replace O0 : Hid (layTwigS.own (Y1.setCell ⟨w.heap.size + 1 + 1, 0, none⟩ (.slice ao0 r0.length cp0)) w.heap.size f0 [.slice ao0 r0.length cp0] r0) := layTwigS.chg O0.out (Chg.cell _ _ _ _) (fun a ha => by have := LB0.out a ha; simp; omega)
  go_upto_region 3 with fail
  generalize (Y1.setCell ⟨w.heap.size + 1 + 1, 0, none⟩ (.slice ao0 r0.length cp0)) = Y2 at *
  clear c0 q0 f_0
  have c0 : Y2.cell? ⟨w.heap.size + 1 + 1, 0, none⟩ = some (.slice ao0 r0.length cp0) := HA2.out.cell 0
  have q0 : Y2.cell? ⟨w.heap.size + 1, 0, none⟩ = some (.slice none 0 0) := HA1.out.cell 0
  have f_0 : Y2.frozen? ⟨w.heap.size + 1, 0, none⟩ = false := HA1.out.free 0
  replace HA1 : Hid (VarA (w.heap.size + 1) TrieT #[.slice ao0 r0.length cp0] (Y2.setCell ⟨w.heap.size + 1, 0, none⟩ (.slice ao0 r0.length cp0))) := HA1.out.set 0 (.slice ao0 r0.length cp0)
  replace HBY : Hid (Below w.heap.size w (Y2.setCell ⟨w.heap.size + 1, 0, none⟩ (.slice ao0 r0.length cp0))) := HBY.out.trans ((Only.setCell (c := w.heap.size + 1) (w := Y2) 0 (.slice ao0 r0.length cp0)).below (B := w.heap.size) (by omega) HBY.out.size)
  replace O0 : Hid (layTwigS.own (Y2.setCell ⟨w.heap.size + 1, 0, none⟩ (.slice ao0 r0.length cp0)) w.heap.size f0 [.slice ao0 r0.length cp0] r0) := layTwigS.chg O0.out (Chg.cell _ _ _ _) (fun a ha => by have := LB0.out a ha; simp; omega)
  go_wp2_with fail
  have j0 := HA1.out.cell 0
  refine bodyPost_ret (v := .agg #[.slice ao0 r0.length cp0]) (by simp [results, Try.results15, go_sem, j0]) rfl ⟨[.slice ao0 r0.length cp0], _, rfl, nd0, layTrie_own.2 ⟨_, _, rfl, rfl, O0.out⟩, HBY.out⟩

set_option maxRecDepth 100000 in
set_option maxHeartbeats 1600000 in
theorem eqTrie_same (v0 u0 : Value) (r0 : List TwigD) (w : World) (h0 : layTwigS.rd w [v0] r0) (k0 : layTwigS.rd w [u0] r0) (l0 : r0.length ≤ 100000000) :
    Calls Try.prog 10 #[.agg #[v0], .agg #[u0]] w fun e w' => e = .returned (.bool true) ∧ Below w.heap.size w w' := by
  have C_eqTwigS_same := Lib.hid eqTwigS_same
  have H0 := Lib.hid h0
  have K0 := Lib.hid k0
  clear h0 k0
  have A0 := (VarA.new w TrieT #[v0]).alloc (.cells #[u0] TrieT)
  have A1 := VarA.new (w.alloc (.cells #[v0] TrieT)) TrieT #[u0]
  have BY := ((Below.refl w.heap.size w).alloc (Nat.le_refl _) (.cells #[v0] TrieT)).alloc (by simp) (.cells #[u0] TrieT)
  have e1 : (w.alloc (.cells #[v0] TrieT)).heap.size = w.heap.size + 1 := by simp
  rw [e1] at A1
  clear e1
  have HA0 := Lib.hid A0
  have HA1 := Lib.hid A1
  have HBY := Lib.hid BY
  clear A0 A1 BY
  go_enter Try.func10, Try.ntmps10
  go_upto_region 1 with fail
  generalize (w.alloc (.cells #[v0] TrieT)).alloc (.cells #[u0] TrieT) = Y0 at *
  have a0 : Y0.cell? ⟨w.heap.size, 0, none⟩ = some (v0) := HA0.out.cell 0
  have b0 : Y0.cell? ⟨w.heap.size + 1, 0, none⟩ = some (u0) := HA1.out.cell 0
  go_wp2_with fail
  refine (C_eqTwigS_same.out _ _ r0 l0 _ (layTwigS.below H0.out HBY.out) (layTwigS.below K0.out HBY.out)).mono ?_
  rintro e Y1 ⟨rfl, hb⟩
  replace HA0 := Lib.hid (HA0.out.next hb)
  replace HA1 := Lib.hid (HA1.out.next hb)
  replace HBY := Lib.hid (HBY.out.trans (hb.mono HBY.out.size))
  clear hb a0 b0
  have a0 : Y1.cell? ⟨w.heap.size, 0, none⟩ = some (v0) := HA0.out.cell 0
  have b0 : Y1.cell? ⟨w.heap.size + 1, 0, none⟩ = some (u0) := HA1.out.cell 0
  go_wp2_with fail
  go_ret
  exact ⟨rfl, HBY.out⟩

set_option maxRecDepth 100000 in
set_option maxHeartbeats 1600000 in
theorem markTrie_any (v0 : Value) (r0 : List TwigD) (b : Nat) (f0 : List Nat) (l0 : r0.length ≤ 10000000) (k : Int) (hk0 : 0 ≤ k) (hk1 : k ≤ 100000000) (w : World) (hd : (f0).Nodup) (o0 : layTwigS.own w b f0 [v0] r0) :
    Calls Try.prog 11 #[.agg #[v0], .int .i64 k] w fun e w' => e = .returned (.int .i64 (k + 3 * (r0.length : Int))) ∧ (layTwigS.own w' b f0 [v0] (layTwigS.mark (k) r0).1) ∧ Chg (f0) w w' := by
  have C0 := Lib.hid markTwigS_any
  have O0 := Lib.hid (layTwigS.next o0 ((Below.refl _ _).alloc (Nat.le_refl _) (.cells #[v0] TrieT)))
  have A0 := Lib.hid (VarA.new w TrieT #[v0])
  have G0 := Lib.hid (Below.chg ((Below.refl w.heap.size w).alloc (Nat.le_refl _) (.cells #[v0] TrieT)) (f0))
  have HD := Lib.hid hd
  have LW : Hid (∀ a ∈ f0, a < w.heap.size) := fun a ha => (layTwigS.blocks o0 a ha).2
  clear hd o0
  go_enter Try.func11, Try.ntmps11
  go_upto_region 1 with fail
  generalize w.alloc (.cells #[v0] TrieT) = Y0 at *
  have c0 : Y0.cell? ⟨w.heap.size, 0, none⟩ = some (v0) := A0.out.cell 0
  go_wp2_with fail
  refine (C0.out v0 r0 b f0 k hk0 (by omega) (by omega) _ HD.out O0.out).mono ?_
  rintro e Y1 ⟨rfl, om0, hc⟩
  have M0 := Lib.hid om0
  replace A0 : Hid (VarA w.heap.size TrieT #[v0] Y1) := ⟨by rw [hc.block _ A0.out.lt (fun e => by have := LW.out _ e; omega)]; exact A0.out.row⟩
  replace G0 := Lib.hid (G0.out.trans (hc.sub (by intro a ha; simp [ha])))
  clear hc om0 c0
  go_wp2_with fail
  go_ret
  exact ⟨rfl, M0.out, G0.out⟩

set_option maxRecDepth 100000 in
set_option maxHeartbeats 1600000 in
theorem heldTrie_any (v0 : Value) (r0 : List TwigD) (l0 : r0.length ≤ 10000000) (k : Int) (hk0 : 0 ≤ k) (hk1 : k ≤ 100000000) (w : World) (h0 : layTwigS.rd w [v0] (layTwigS.mark (k) r0).1) :
    Calls Try.prog 12 #[.agg #[v0], .int .i64 k] w fun e w' => e = .returned (.int .i64 (k + 3 * (r0.length : Int))) ∧ Below w.heap.size w w' := by
  have C0 := Lib.hid heldTwigS_any
  have H0 := Lib.hid (layTwigS.below h0 ((Below.refl _ _).alloc (Nat.le_refl _) (.cells #[v0] TrieT)))
  have A0 := Lib.hid (VarA.new w TrieT #[v0])
  have BY := Lib.hid ((Below.refl w.heap.size w).alloc (Nat.le_refl _) (.cells #[v0] TrieT))
  clear h0
  go_enter Try.func12, Try.ntmps12
  go_upto_region 1 with fail
  generalize w.alloc (.cells #[v0] TrieT) = Y0 at *
  have c0 : Y0.cell? ⟨w.heap.size, 0, none⟩ = some (v0) := A0.out.cell 0
  have P0 : ¬ (k + 3 * (r0.length : Int) < 0) := by omega
  go_wp2_with fail
  refine (C0.out v0 r0 k hk0 (by omega) (by omega) _ H0.out).mono ?_
  rintro e Y1 ⟨rfl, rfl⟩
  go_wp2_with fail
  go_ret
  exact ⟨rfl, BY.out⟩

end Go.Proofs.Ytkfcoldjgijpcap
namespace Go.Proofs.Ytkfcoldjgijpcap
open Go.RowKit

def layIntS : Lay (List Int) := .rows 3 .int
theorem int_own {w : World} {b : Nat} {f : List Nat} {cs : List Value} {x : Int} : Lay.int.own w b f cs x ↔ f = [] ∧ cs = [.int .i64 x] := Iff.rfl
theorem int_rd {w : World} {cs : List Value} {x : Int} : Lay.int.rd w cs x ↔ cs = [.int .i64 x] := Iff.rfl
theorem zeroInt_none (w : World) (b : Nat) (f : List Nat) (c : List Value) (h : Lay.int.own w b f c 0) : f = [] := h.1
theorem infoInt : (Try.prog.info? 3).map (fun i => (i.zero, i.size, i.bytes)) = some (some (.int .i64 0), 1, 8) := by kernel_rfl
/-- One number of a row that can be read. -/
theorem ints_get {w : World} {v : Value} {xs : List Int} (h : layIntS.rd w [v] xs) (m : Nat) (hm : m < xs.length) : ∃ g off cap, v = .slice (some ⟨g, off, none⟩) xs.length cap ∧ g < w.heap.size ∧ w.cell? ⟨g, off + m, none⟩ = some (.int .i64 xs[m]) := by
  obtain ⟨a, cap, rfl⟩ := rows_form h
  obtain ⟨g, off, c, rfl, hg, hr, hc⟩ := rows_elem h m _ (List.getElem?_eq_getElem hm)
  rw [int_rd] at hr
  subst hr
  refine ⟨g, off, cap, rfl, hg, ?_⟩
  have := hc 0 _ rfl
  rw [show Lay.int.k = 1 from rfl, Nat.mul_one] at this
  exact this
/-- One number of a row is read and written. -/
theorem ints_put {w : World} {b : Nat} {fp : List Nat} {v : Value} {xs : List Int} (h : layIntS.own w b fp [v] xs) (hd : fp.Nodup) (m : Nat) (hm : m < xs.length) (y : Int) :
    ∃ g cap, v = .slice (some ⟨g, 0, none⟩) xs.length cap ∧ b ≤ g ∧ g < w.heap.size ∧ g ∈ fp ∧ w.cell? ⟨g, m, none⟩ = some (.int .i64 xs[m]) ∧ w.frozen? ⟨g, m, none⟩ = false ∧
      layIntS.own (w.setCell ⟨g, m, none⟩ (.int .i64 y)) b fp [v] (xs.set m y) ∧ Chg fp w (w.setCell ⟨g, m, none⟩ (.int .i64 y)) := by
  have e : xs = xs.take m ++ xs[m] :: xs.drop (m + 1) := by rw [List.getElem_cons_drop, List.take_append_drop]
  have es : xs.set m y = xs.take m ++ y :: xs.drop (m + 1) := by rw [List.set_eq_take_append_cons_drop, if_pos hm]
  have hl : (xs.take m ++ xs[m] :: xs.drop (m + 1)).length = xs.length := by rw [← e]
  have h2 := h
  rw [e] at h2
  obtain ⟨g, cap, f1, f2, f3, u1, c, u3, hv, rfl, Z⟩ := rows_open h2 hd
  rw [hl] at hv
  obtain ⟨rfl, rfl⟩ := int_own.1 Z.mid
  have hml : (xs.take m).length = m := by rw [List.length_take]; omega
  have hc := Z.cell 0 _ rfl
  rw [show Lay.int.k = 1 from rfl, Nat.mul_one, hml] at hc
  have hs := Z.store [.int .i64 y] 0 (by simp) [] y (int_own.2 ⟨rfl, rfl⟩) Z.dup
  rw [show Lay.int.k = 1 from rfl, Nat.mul_one, hml] at hs
  refine ⟨g, cap, hv, Z.lt.1, Z.lt.2, by simp, hc.1, hc.2, ?_, hs.2.sub (by simp)⟩
  have h3 := hs.1.shut
  have e4 : (xs.take m ++ y :: xs.drop (m + 1)).length = xs.length := by rw [← es, List.length_set]
  rw [e4] at h3
  rw [es, hv]
  exact h3

end Go.Proofs.Ytkfcoldjgijpcap
