/-
  Early as it lies; the laws' own functions over it and over rows of it.
-/
import Derived.Test.YthljmjbmmgligarJ05
import Derived.Test.YthljmjbmmgligarJ06
import Derived.Test.YthljmjbmmgligarRows
import Derived.Deep.RegionHeld3
import Derived.BigQuiet
import Derived.Deep.QuietTactic
import Derived.Deep.DeepCutAuto
namespace Go.Proofs.Ythljmjbmmgligar
open Go.RowKit

abbrev EarlyD := Int × ByteArray
abbrev EarlyT : TypeId := 72
def layEarly : Lay EarlyD := Lay.pair Lay.int Lay.str
def layEarlyS : Lay (List EarlyD) := .rows EarlyT layEarly

theorem layEarly_rd {w : World} {cs : List Value} {x : EarlyD} : layEarly.rd w cs x ↔ cs = [.int .i64 x.1, .string x.2] := by
  constructor
  · rintro ⟨c0, d0, rfl, rfl, rfl⟩
    rfl
  · rintro rfl
    exact ⟨[_], [_], rfl, rfl, rfl⟩

theorem layEarly_own {w : World} {b : Nat} {f : List Nat} {cs : List Value} {x : EarlyD} : layEarly.own w b f cs x ↔ f = [] ∧ cs = [.int .i64 x.1, .string x.2] := by
  constructor
  · rintro ⟨f0, g0, c0, d0, rfl, rfl, ⟨rfl, rfl⟩, ⟨rfl, rfl⟩⟩
    exact ⟨rfl, rfl⟩
  · rintro ⟨rfl, rfl⟩
    exact ⟨[], [], [_], [_], rfl, rfl, ⟨rfl, rfl⟩, ⟨rfl, rfl⟩⟩

theorem zeroEarly (w : World) (b : Nat) : layEarly.own w b [] [.int .i64 0, .string ⟨#[]⟩] (0, ⟨#[]⟩) := layEarly_own.2 ⟨rfl, rfl⟩
theorem zeroEarly_none (w : World) (b : Nat) (f : List Nat) (c : List Value) (h : layEarly.own w b f c (0, ⟨#[]⟩)) : f = [] := (layEarly_own.1 h).1
theorem flatEarly : Flat layEarly := ⟨fun _ _ _ _ h => layEarly_own.2 ⟨rfl, layEarly_rd.1 h⟩, fun _ _ _ _ _ h => (layEarly_own.1 h).1, fun _ _ _ _ h => layEarly_rd.2 (layEarly_rd.1 h)⟩

theorem infoEarly : (Try.prog.info? 72).map (fun i => (i.zero, i.size, i.bytes)) = some (some (.agg #[.int .i64 0, .string ⟨#[]⟩]), 2, 24) := by kernel_rfl

set_option maxRecDepth 100000 in
set_option maxHeartbeats 400000 in
theorem toEarly_any (x0 : Int) (x1 : ByteArray) (w : World) :
    Calls Try.prog 79 #[.agg #[.int .i64 x0, .string x1]] w fun e w' => e = .returned (.agg #[.int .i64 x0, .string x1]) ∧ Below w.heap.size w w' := by
  go_enter Try.func79, Try.ntmps79
  go_wp2_with fail
  refine bodyPost_ret (v := .agg #[.int .i64 x0, .string x1]) (by simp [results, Try.results79, go_sem]) rfl ⟨rfl, ?_⟩
  exact (((Below.refl w.heap.size w).alloc (Nat.le_refl _) _).alloc (by simp) _).alloc (by simp; omega) _

set_option maxRecDepth 100000 in
set_option maxHeartbeats 400000 in
theorem eqEarly_same (x0 : Int) (x1 : ByteArray) (w : World) :
    Calls Try.prog 75 #[.agg #[.int .i64 x0, .string x1], .agg #[.int .i64 x0, .string x1]] w fun e w' => e = .returned (.bool true) ∧ Below w.heap.size w w' := by
  go_enter Try.func75, Try.ntmps75
  go_wp2_with fail
  go_ret
  exact ⟨rfl, ((Below.refl _ _).alloc (Nat.le_refl _) _).alloc (by simp) _⟩

set_option maxRecDepth 100000 in
set_option maxHeartbeats 800000 in
theorem toEarlyS_any (v : Value) (xs : List EarlyD) (hl : xs.length ≤ 1048576) (w : World) (hs : layEarlyS.rd w [v] xs) :
    Calls Try.prog 52 #[v] w fun e w' => OutS layEarlyS w xs e w' := by
  obtain ⟨i0, hi, hz0, hsz0, hby0⟩ := info_of infoEarly
  obtain ⟨a, cap, rfl⟩ := rows_form hs
  have H1 := Lib.hid toEarly_any
  have HS := Lib.hid hs
  clear hs
  go_enter Try.func52, Try.ntmps52
  go_wp2_with (at_make; refine wpList_make_full _ rfl _ _ 24 rfl w.heap.size EarlyT i0 (.agg #[.int .i64 0, .string ⟨#[]⟩]) 2 Try.underlying24 hi hz0 hsz0 .i64 .i64 _ _ xs.length rfl rfl rfl rfl (by rw [hby0]; omega) (by unfold maxLen; omega) (Nat.le_refl _) ?_)
  intro w1 hown1 hg1
  have hown : layEarlyS.own w1 w.heap.size [w.heap.size] [.slice (some ⟨w.heap.size, 0, none⟩) xs.length xs.length] (List.replicate xs.length (0, ⟨#[]⟩)) := rows_made hown1 rfl (zeroEarly _ _)
  have hbel : Below w.heap.size w w1 := below_grown hg1 (fun k h => by cases h) (Nat.le_refl _)
  clear hown1 hg1
  go_wp2_with fail
  go_loopw [4] (fun c wr => ∃ (j : Nat) (fp : List Nat), j ≤ xs.length ∧ c = .int .i64 j ∧ fp.Nodup ∧ layEarlyS.own wr w.heap.size fp [.slice (some ⟨w.heap.size, 0, none⟩) xs.length xs.length] (xs.take j ++ List.replicate (xs.length - j) (0, ⟨#[]⟩)) ∧ Below w.heap.size w wr) (fun c _ => xs.length - (intOf c).toNat)
  case atStart => exact ⟨0, [w.heap.size], Nat.zero_le _, rfl, by simp, by simpa using hown, hbel⟩
  case round =>
    obtain ⟨j, fp, hj, rfl, hdup, hown2, hb2⟩ := hrel
    have HO := Lib.hid hown2
    have HB := Lib.hid hb2
    clear hown2 hb2 hown hbel
    by_cases hlt : j < xs.length
    · have hlt' : (j : Int) < (xs.length : Int) := by omega
      have hx := List.getElem?_eq_getElem hlt
      obtain ⟨g, off, cs, rfl, hg, hr, hc⟩ := rows_elem (layEarlyS.below HS.out HB.out) j _ hx
      have hta : xs.take (j + 1) = xs.take j ++ [xs[j]] := by rw [List.take_add_one, hx]; rfl
      generalize xs[j] = x at hr hta
      rw [layEarly_rd] at hr
      subst hr
      obtain ⟨x0, x1⟩ := x
      have c0 : wr.cell? ⟨g, off + j * 2, none⟩ = some (.int .i64 x0) := hc 0 _ rfl
      have c1 : wr.cell? ⟨g, off + j * 2 + 1, none⟩ = some (.string x1) := hc 1 _ rfl
      have HTA := Lib.hid hta
      clear hta hc hx
      go_wp2_with fail
      refine (H1.out _ _ _).mono ?_
      rintro e w2 ⟨rfl, hb2⟩
      have hm : xs.length - j = (xs.length - (j + 1)) + 1 := by omega
      have hown3 := layEarlyS.next HO.out hb2
      rw [hm] at hown3
      obtain ⟨g', cap', hv, hbg, hgl, ⟨zc, hzc, hcell⟩, fp', hd', _, hown4, hchg⟩ := rows_fill zeroEarly_none hown3 hdup [] [.int .i64 x0, .string x1] (x0, x1) (layEarly_own.2 ⟨rfl, rfl⟩) (by simp) (by simp)
      simp only [Value.slice.injEq, Option.some.injEq, Addr.mk.injEq, and_true] at hv
      obtain ⟨rfl, -, rfl⟩ := hv
      have hjl : (xs.take j).length = j := by rw [List.length_take]; omega
      rw [hjl] at hcell hown4 hchg
      rw [layEarly_own] at hzc
      obtain ⟨-, rfl⟩ := hzc
      obtain ⟨e0, z0⟩ : w2.cell? ⟨w.heap.size, j * 2, none⟩ = some (.int .i64 0) ∧ w2.frozen? ⟨w.heap.size, j * 2, none⟩ = false := hcell 0 _ rfl
      obtain ⟨e1, z1⟩ : w2.cell? ⟨w.heap.size, j * 2 + 1, none⟩ = some (.string ⟨#[]⟩) ∧ w2.frozen? ⟨w.heap.size, j * 2 + 1, none⟩ = false := hcell 1 _ rfl
      have hbel2 := HB.out.trans (hb2.mono HB.out.size)
      have HP : Hid (layEarlyS.own (setCells w2 w.heap.size (j * layEarly.k) [.int .i64 x0, .string x1]) w.heap.size fp' [.slice (some ⟨w.heap.size, 0, none⟩) xs.length xs.length] (xs.take (j + 1) ++ List.replicate (xs.length - (j + 1)) (0, ⟨#[]⟩))) := by
        rw [HTA.out, List.append_assoc]
        exact hown4
      have HB3 := Lib.hid (hbel2.trans (hchg.below (by simp) hbel2.size))
      have HD := Lib.hid hd'
      clear hown3 hown4 hchg hbel2 hb2 hcell hm hjl hd' hbg hgl
      go_wp2_with fail
      go_roundw
      case rel => exact ⟨j + 1, fp', by omega, by go_num, HD.out, HP.out, HB3.out⟩
      case measure => simp [intOf]; omega
    · have hlt' : ¬ ((j : Int) < (xs.length : Int)) := by omega
      have hke : j = xs.length := by omega
      have hfin : xs.take j ++ List.replicate (xs.length - j) ((0, ⟨#[]⟩) : EarlyD) = xs := by subst hke; simp
      have HO2 := HO.out
      rw [hfin] at HO2
      have HO3 := Lib.hid HO2
      clear HO2 HO
      go_wp2_with fail
      go_ret
      exact ⟨_, fp, rfl, hdup, HO3.out, HB.out⟩

set_option maxRecDepth 100000 in
set_option maxHeartbeats 1600000 in
theorem eqEarlyS_same (v u : Value) (xs : List EarlyD) (hl : xs.length ≤ 100000000) (w : World) (hv : layEarlyS.rd w [v] xs) (hu : layEarlyS.rd w [u] xs) :
    Calls Try.prog 34 #[v, u] w fun e w' => e = .returned (.bool true) ∧ Below w.heap.size w w' := by
  obtain ⟨ao, cp, rfl⟩ := rows_form hv
  obtain ⟨bo, dp, rfl⟩ := rows_form hu
  have HV := Lib.hid hv
  have HU := Lib.hid hu
  clear hv hu
  have K1 := eqEarly_same
  go_enter Try.func34, Try.ntmps34
  go_wp2_with fail
  go_loopw [5] (fun c wr => ∃ j : Nat, j ≤ xs.length ∧ c = .int .i64 j ∧ Below w.heap.size w wr) (fun c _ => xs.length - (intOf c).toNat)
  case atStart => exact ⟨0, Nat.zero_le _, rfl, Below.refl _ _⟩
  case round =>
    obtain ⟨j, hj, rfl, hb2⟩ := hrel
    by_cases hlt : j < xs.length
    · have hlt' : (j : Int) < (xs.length : Int) := by omega
      have hx := List.getElem?_eq_getElem hlt
      obtain ⟨g, og, cs, rfl, hg, hr, hc⟩ := rows_elem (layEarlyS.below HV.out hb2.drew) j _ hx
      obtain ⟨h, oh, ds, rfl, hh, hs, hd⟩ := rows_elem (layEarlyS.below HU.out hb2.drew) j _ hx
      generalize xs[j] = x at hr hs
      rw [layEarly_rd] at hr hs
      subst hr hs
      obtain ⟨x0, x1⟩ := x
      have E0 : Hid (wr.drew.cell? ⟨g, og + j * 2, none⟩ = some (.int .i64 x0) ∧ wr.drew.cell? ⟨g, og + j * 2 + 1, none⟩ = some (.string x1) ∧ wr.drew.cell? ⟨h, oh + j * 2, none⟩ = some (.int .i64 x0) ∧ wr.drew.cell? ⟨h, oh + j * 2 + 1, none⟩ = some (.string x1) ∧ Below w.heap.size w wr.drew) := ⟨hc 0 _ rfl, hc 1 _ rfl, hd 0 _ rfl, hd 1 _ rfl, hb2.drew⟩
      have K2 : Hid (∀ X : World, (X.cell? ⟨g, og + j * 2, none⟩ = some (.int .i64 x0) ∧ X.cell? ⟨g, og + j * 2 + 1, none⟩ = some (.string x1) ∧ X.cell? ⟨h, oh + j * 2, none⟩ = some (.int .i64 x0) ∧ X.cell? ⟨h, oh + j * 2 + 1, none⟩ = some (.string x1) ∧ Below w.heap.size w X) → Calls Try.prog 75 #[.agg #[.int .i64 x0, .string x1], .agg #[.int .i64 x0, .string x1]] X fun e Y => e = .returned (.bool true) ∧ (Y.cell? ⟨g, og + j * 2, none⟩ = some (.int .i64 x0) ∧ Y.cell? ⟨g, og + j * 2 + 1, none⟩ = some (.string x1) ∧ Y.cell? ⟨h, oh + j * 2, none⟩ = some (.int .i64 x0) ∧ Y.cell? ⟨h, oh + j * 2 + 1, none⟩ = some (.string x1) ∧ Below w.heap.size w Y)) := fun X hX => by
        refine (K1 x0 x1 X).mono ?_
        rintro e Y ⟨rfl, hb⟩
        obtain ⟨a0, a1, a2, a3, hbX⟩ := hX
        exact ⟨rfl, by rw [hb.cell (p := ⟨g, og + j * 2, none⟩) (World.block_lt_of_cell? _ _ a0)]; exact a0, by rw [hb.cell (p := ⟨g, og + j * 2 + 1, none⟩) (World.block_lt_of_cell? _ _ a1)]; exact a1, by rw [hb.cell (p := ⟨h, oh + j * 2, none⟩) (World.block_lt_of_cell? _ _ a2)]; exact a2, by rw [hb.cell (p := ⟨h, oh + j * 2 + 1, none⟩) (World.block_lt_of_cell? _ _ a3)]; exact a3, hbX.trans (hb.mono hbX.size)⟩
      clear hc hd hx K1 hb2
      go_wp2_with fail
      go_region_held3 (fun X => X.cell? ⟨g, og + j * 2, none⟩ = some (.int .i64 x0) ∧ X.cell? ⟨g, og + j * 2 + 1, none⟩ = some (.string x1) ∧ X.cell? ⟨h, oh + j * 2, none⟩ = some (.int .i64 x0) ∧ X.cell? ⟨h, oh + j * 2 + 1, none⟩ = some (.string x1) ∧ Below w.heap.size w X) (first | (with_reducible assumption) | (with_reducible exact E0.out)) (first | (go_at_call 75; refine (K2.out _ (by assumption)).mono ?_; rintro e v1 ⟨rfl, hS⟩))
      all_goals
        have HS := Lib.hid hS.2.2.2.2
        clear hS
        go_wp2_with fail
        go_roundw
        case rel => exact ⟨j + 1, by omega, by go_num, HS.out⟩
        case measure => simp [intOf]; omega
    · have hlt' : ¬ ((j : Int) < (xs.length : Int)) := by omega
      go_wp2_with fail
      go_ret
      exact ⟨rfl, hb2⟩

theorem markEarly_eq (q : Int) (x : EarlyD) : layEarly.mark q x = ((q, markTxt (q + 1)), q + 1 + 1) := rfl
theorem marksEarly_num (k : Int) (xs : List EarlyD) : (layEarlyS.mark k xs).2 = k + 2 * (xs.length : Int) := by
  show (mkAll layEarly k xs).2 = _
  induction xs generalizing k with
  | nil => simp [mkAll]
  | cons x xs ih =>
    show (mkAll layEarly (layEarly.mark k x).2 xs).2 = _
    rw [ih, markEarly_eq]
    simp only [List.length_cons]
    omega
theorem marksEarly_next (k : Int) (xs : List EarlyD) (j : Nat) (x : EarlyD) (hx : xs[j]? = some x) : (layEarlyS.mark k (xs.take (j + 1))).1 = (layEarlyS.mark k (xs.take j)).1 ++ [(layEarly.mark (k + 2 * (j : Int)) x).1] := by
  have hj : j < xs.length := (List.getElem?_eq_some_iff.1 hx).1
  have e : xs.take (j + 1) = xs.take j ++ [x] := by rw [List.take_add_one, hx]; rfl
  have h2 := marksEarly_num k (xs.take j)
  show (mkAll layEarly k _).1 = (mkAll layEarly k _).1 ++ _
  rw [e, mkAll_append]
  have h3 : (mkAll layEarly k (xs.take j)).2 = k + 2 * (j : Int) := by
    have h4 : (mkAll layEarly k (xs.take j)).2 = _ := h2
    rw [h4, List.length_take, Nat.min_eq_left (by omega)]
  rw [h3]
  rfl
theorem marksEarly_get (k : Int) (xs : List EarlyD) (j : Nat) (x : EarlyD) (hx : xs[j]? = some x) : (layEarlyS.mark k xs).1[j]? = some (layEarly.mark (k + 2 * (j : Int)) x).1 := by
  have hj : j < xs.length := (List.getElem?_eq_some_iff.1 hx).1
  have h := marksEarly_next k xs j x hx
  have e : xs = xs.take (j + 1) ++ xs.drop (j + 1) := (List.take_append_drop _ _).symm
  have e2 : (layEarlyS.mark k xs).1 = (layEarlyS.mark k (xs.take (j + 1))).1 ++ (mkAll layEarly (layEarlyS.mark k (xs.take (j + 1))).2 (xs.drop (j + 1))).1 := by
    conv => lhs; rw [e]
    show (mkAll layEarly k _).1 = _
    rw [mkAll_append]
    rfl
  have hl : (layEarlyS.mark k (xs.take j)).1.length = j := by
    show (mkAll layEarly k _).1.length = j
    rw [mkAll_length, List.length_take]
    omega
  rw [e2, h, List.getElem?_append_left (by rw [List.length_append, hl]; simp), List.getElem?_append_right (by omega), hl, Nat.sub_self]
  rfl
set_option maxRecDepth 100000 in
set_option maxHeartbeats 1600000 in
theorem markEarlyS_any (v : Value) (xs : List EarlyD) (b : Nat) (fp : List Nat) (k : Int) (hk0 : 1 ≤ k) (hk1 : k ≤ 500000000) (hl : xs.length ≤ 10000000) (w : World) (hd : fp.Nodup) (ho : layEarlyS.own w b fp [v] xs) :
    Calls Try.prog 38 #[v, .int .i64 k] w fun e w' => e = .returned (.int .i64 (k + 2 * (xs.length : Int))) ∧ layEarlyS.own w' b fp [v] (layEarlyS.mark k xs).1 ∧ Chg fp w w' := by
  obtain ⟨ao, cp, rfl⟩ := rows_form (layEarlyS.read ho)
  have HO := Lib.hid ho
  have HDUP := Lib.hid hd
  clear ho hd
  have HC := Lib.hid markText_int
  go_enter Try.func38, Try.ntmps38
  go_wp2_with fail
  go_loopw [1, 5] (fun q c wr => ∃ j : Nat, j ≤ xs.length ∧ c = .int .i64 j ∧ q = .int .i64 (k + 2 * (j : Int)) ∧ layEarlyS.own wr b fp [.slice ao xs.length cp] ((layEarlyS.mark k (xs.take j)).1 ++ xs.drop j) ∧ Chg fp w wr) (fun _ c _ => xs.length - (intOf c).toNat)
  case atStart => exact ⟨0, Nat.zero_le _, rfl, by simp, by simpa [layEarlyS, Lay.rows, mkAll] using HO.out, Chg.refl _ _⟩
  case round =>
    obtain ⟨j, hj, rfl, rfl, hown2, hg2⟩ := hrel
    have HO2 := Lib.hid hown2
    have HG := Lib.hid hg2
    clear hown2 hg2 HO
    by_cases hlt : j < xs.length
    · have hlt' : (j : Int) < (xs.length : Int) := by omega
      have hx := List.getElem?_eq_getElem hlt
      have HNEXT := Lib.hid (marksEarly_next k xs j _ hx)
      have hdrop : xs.drop j = xs[j] :: xs.drop (j + 1) := List.drop_eq_getElem_cons hlt
      have hown3 := HO2.out
      rw [hdrop] at hown3
      generalize xs[j] = x at hown3 HNEXT
      obtain ⟨g, cap, f1, f2, f3, u1, c, u3, hv, rfl, Z⟩ := rows_open hown3 HDUP.out
      simp only [Value.slice.injEq] at hv
      obtain ⟨rfl, -, rfl⟩ := hv
      have hXl : (layEarlyS.mark k (xs.take j)).1.length = j := by
        show (mkAll layEarly k _).1.length = j
        rw [mkAll_length, List.length_take]
        omega
      obtain ⟨rfl, rfl⟩ := layEarly_own.1 Z.mid
      have HXL := Lib.hid hXl
      obtain ⟨M, HM⟩ : ∃ l, Hid (l = (layEarlyS.mark k (xs.take j)).1) := ⟨_, Lib.hid rfl⟩
      rw [← HM.out] at Z HXL HNEXT
      have ZZ := Lib.hid Z
      obtain ⟨x0, x1⟩ := x
      obtain ⟨q, hq, hq0, hq1⟩ : ∃ q : Int, k + 2 * (j : Int) = q ∧ 1 ≤ q ∧ q ≤ 600000000 := ⟨_, rfl, by omega, by omega⟩
      rw [hq] at HNEXT
      have HQ := Lib.hid hq
      rw [hq]
      clear hown3 hdrop Z hXl HO2 hx hq
      have hcell := fun t u hu => ZZ.out.cell t u hu
      rw [HXL.out] at hcell
      obtain ⟨d0, z0⟩ : wr.cell? ⟨g, j * 2, none⟩ = some (.int .i64 x0) ∧ wr.frozen? ⟨g, j * 2, none⟩ = false := hcell 0 _ rfl
      obtain ⟨d1, z1⟩ : wr.cell? ⟨g, j * 2 + 1, none⟩ = some (.string x1) ∧ wr.frozen? ⟨g, j * 2 + 1, none⟩ = false := hcell 1 _ rfl
      clear hcell
      have hst := ZZ.out.store [.int .i64 q] 0 (by simp) [] (q, x1) (layEarly_own.2 ⟨rfl, rfl⟩) ZZ.out.dup
      rw [HXL.out] at hst
      replace ZZ := Lib.hid hst.1
      replace HG := Lib.hid (HG.out.trans (hst.2.sub (by simp)))
      clear hst
      go_wp2_with fail
      refine (HC.out (q + 1) (by omega) (by omega) _).mono ?_
      rintro e w1 ⟨rfl, hb⟩
      replace ZZ := Lib.hid (ZZ.out.next hb)
      replace HG := Lib.hid (HG.out.trans (Below.chg hb _))
      clear hb d0 z0 d1 z1
      have hcell := fun t u hu => ZZ.out.cell t u hu
      rw [HXL.out] at hcell
      obtain ⟨d0, z0⟩ : w1.cell? ⟨g, j * 2, none⟩ = some (.int .i64 q) ∧ w1.frozen? ⟨g, j * 2, none⟩ = false := hcell 0 _ rfl
      obtain ⟨d1, z1⟩ : w1.cell? ⟨g, j * 2 + 1, none⟩ = some (.string x1) ∧ w1.frozen? ⟨g, j * 2 + 1, none⟩ = false := hcell 1 _ rfl
      clear hcell
      have hst := ZZ.out.store [.string (markTxt (q + 1))] 1 (by simp [setL]) [] (q, markTxt (q + 1)) (layEarly_own.2 ⟨rfl, rfl⟩) ZZ.out.dup
      rw [HXL.out] at hst
      replace ZZ := Lib.hid hst.1
      replace HG := Lib.hid (HG.out.trans (hst.2.sub (by simp)))
      clear hst
      have h3 := ZZ.out.shut
      have e4 : (M ++ (q, markTxt (q + 1)) :: xs.drop (j + 1)).length = xs.length := by
        rw [List.length_append, HXL.out, List.length_cons, List.length_drop]
        omega
      have e5 : (layEarlyS.mark k (xs.take (j + 1))).1 ++ xs.drop (j + 1) = M ++ (q, markTxt (q + 1)) :: xs.drop (j + 1) := by
        rw [HNEXT.out, List.append_assoc]
        rfl
      rw [e4, ← e5] at h3
      have HP := Lib.hid h3
      clear h3 e4 e5 ZZ
      go_wp2_with fail
      go_roundw
      case rel => exact ⟨j + 1, by omega, by go_num, by have := HQ.out; go_num, HP.out, HG.out⟩
      case measure => simp [intOf]; omega
    · have hlt' : ¬ ((j : Int) < (xs.length : Int)) := by omega
      have hke : j = xs.length := by omega
      subst hke
      have HO3 := HO2.out
      rw [List.drop_length, List.append_nil, List.take_length] at HO3
      have HO4 := Lib.hid HO3
      clear HO3 HO2
      go_wp2_with fail
      go_ret
      exact ⟨rfl, HO4.out, HG.out⟩

set_option maxRecDepth 100000 in
set_option maxHeartbeats 1600000 in
theorem heldEarlyS_any (v : Value) (xs : List EarlyD) (k : Int) (hk0 : 1 ≤ k) (hk1 : k ≤ 500000000) (hl : xs.length ≤ 10000000) (w : World) (hr : layEarlyS.rd w [v] (layEarlyS.mark k xs).1) :
    Calls Try.prog 42 #[v, .int .i64 k] w fun e w' => e = .returned (.int .i64 (k + 2 * (xs.length : Int))) ∧ Below w.heap.size w w' := by
  obtain ⟨ao, cp, rfl⟩ := rows_form hr
  have hml : (layEarlyS.mark k xs).1.length = xs.length := mkAll_length layEarly xs k
  have HR := Lib.hid hr
  clear hr
  rw [hml] at HR ⊢
  have HC := Lib.hid markText_int
  go_enter Try.func42, Try.ntmps42
  go_wp2_with fail
  go_loopw [1, 5] (fun q c wr => ∃ j : Nat, j ≤ xs.length ∧ c = .int .i64 j ∧ q = .int .i64 (k + 2 * (j : Int)) ∧ Below w.heap.size w wr) (fun _ c _ => xs.length - (intOf c).toNat)
  case atStart => exact ⟨0, Nat.zero_le _, rfl, by simp, Below.refl _ _⟩
  case round =>
    obtain ⟨j, hj, rfl, rfl, hbr⟩ := hrel
    have HBR := Lib.hid hbr
    by_cases hlt : j < xs.length
    · have hlt' : (j : Int) < (xs.length : Int) := by omega
      obtain ⟨g, off, cs, rfl, hg, hr, hc⟩ := rows_elem (layEarlyS.below HR.out hbr) j _ (marksEarly_get k xs j _ (List.getElem?_eq_getElem hlt))
      obtain ⟨q, hq, hq0, hq1⟩ : ∃ q : Int, k + 2 * (j : Int) = q ∧ 1 ≤ q ∧ q ≤ 600000000 := ⟨_, rfl, by omega, by omega⟩
      rw [hq, markEarly_eq, layEarly_rd] at hr
      subst hr
      have E0 : Hid (wr.cell? ⟨g, off + j * 2, none⟩ = some (.int .i64 q) ∧ wr.cell? ⟨g, off + j * 2 + 1, none⟩ = some (.string (markTxt (q + 1))) ∧ Below w.heap.size w wr) := ⟨hc 0 _ rfl, hc 1 _ rfl, hbr⟩
      have HQ := Lib.hid hq
      rw [hq]
      clear hc hq hml hbr HBR
      obtain ⟨mt, HMT⟩ : ∃ b : ByteArray, Hid (b = markTxt (q + 1)) := ⟨_, Lib.hid rfl⟩
      rw [← HMT.out] at E0
      have E1 : Hid (wr.drew.cell? ⟨g, off + j * 2, none⟩ = some (.int .i64 q) ∧ wr.drew.cell? ⟨g, off + j * 2 + 1, none⟩ = some (.string mt) ∧ Below w.heap.size w wr.drew) := by
        obtain ⟨a0, a1, hB⟩ := E0.out
        exact ⟨a0, a1, hB.drew⟩
      have K2 : Hid (∀ X : World, (X.cell? ⟨g, off + j * 2, none⟩ = some (.int .i64 q) ∧ X.cell? ⟨g, off + j * 2 + 1, none⟩ = some (.string mt) ∧ Below w.heap.size w X) → Calls Try.prog 65 #[.int .i64 (q + 1)] X fun e Y => e = .returned (.string mt) ∧ (Y.cell? ⟨g, off + j * 2, none⟩ = some (.int .i64 q) ∧ Y.cell? ⟨g, off + j * 2 + 1, none⟩ = some (.string mt) ∧ Below w.heap.size w Y)) := fun X hX => by
        refine (HC.out (q + 1) (by omega) (by omega) X).mono ?_
        rintro e Y ⟨rfl, hb⟩
        obtain ⟨a0, a1, hbX⟩ := hX
        rw [HMT.out]
        exact ⟨rfl, by rw [← HMT.out]; exact ⟨(by rw [hb.cell (p := ⟨g, off + j * 2, none⟩) (World.block_lt_of_cell? _ _ a0)]; exact a0), (by rw [hb.cell (p := ⟨g, off + j * 2 + 1, none⟩) (World.block_lt_of_cell? _ _ a1)]; exact a1), hbX.trans (hb.mono hbX.size)⟩⟩
      have c0 : wr.cell? ⟨g, off + j * 2, none⟩ = some (.int .i64 q) := E0.out.1
      go_wp2_with fail
      go_region_held3 (fun X => X.cell? ⟨g, off + j * 2, none⟩ = some (.int .i64 q) ∧ X.cell? ⟨g, off + j * 2 + 1, none⟩ = some (.string mt) ∧ Below w.heap.size w X) (first | (with_reducible assumption) | (with_reducible exact E1.out)) (first | (go_at_call 65; refine (K2.out _ (by assumption)).mono ?_; rintro e v1 ⟨rfl, hS⟩))
      all_goals
        have HS := Lib.hid hS
        clear hS E0 E1 K2 c0
        go_wp2_with fail
        go_roundw
        case rel => exact ⟨j + 1, by omega, by go_num, by have := HQ.out; go_num, HS.out.2.2⟩
        case measure => simp [intOf]; omega
    · have hlt' : ¬ ((j : Int) < (xs.length : Int)) := by omega
      have hke : j = xs.length := by omega
      subst hke
      go_wp2_with fail
      go_ret
      exact ⟨rfl, HBR.out⟩

/-- Rows that are measured. -/
def FitsEarly (xs : List EarlyD) : Prop := xs.length ≤ 1048576 ∧ ∀ x ∈ xs, (x.2).size ≤ 1048576
def RoomEarly (xs : List EarlyD) : Prop := xs.length ≤ 9223372036854775807 ∧ ∀ x ∈ xs, (x.2).size ≤ 9223372036854775807
set_option maxRecDepth 100000 in
set_option maxHeartbeats 400000 in
theorem szEarly_any (x0 : Int) (x1 : ByteArray) (left : Int) (h0 : 0 ≤ left) (h1 : left ≤ 1048576) (hl : x1.size ≤ 9223372036854775807) (w : World) :
    Calls Try.prog 77 #[.agg #[.int .i64 x0, .string x1], .int .i64 left] w fun e w' => e = .returned (.int .i64 (if left < (x1.size : Int) then -1 else left - (x1.size : Int))) ∧ Below w.heap.size w w' := by
  by_cases h : left < (x1.size : Int)
  · have h1 : left - (x1.size : Int) < 0 := by omega
    rw [if_pos h]
    go_enter Try.func77, Try.ntmps77
    go_wp2
    go_ret
    exact ⟨rfl, (Below.refl _ _).alloc (Nat.le_refl _) _⟩
  · have h1 : ¬ (left - (x1.size : Int) < 0) := by omega
    rw [if_neg h]
    go_enter Try.func77, Try.ntmps77
    go_wp2
    go_ret
    exact ⟨rfl, (Below.refl _ _).alloc (Nat.le_refl _) _⟩
set_option maxRecDepth 100000 in
set_option maxHeartbeats 800000 in
theorem szEarlyS_any (v : Value) (xs : List EarlyD) (left : Int) (h0 : 0 ≤ left) (h1 : left ≤ 1048576) (hR : RoomEarly xs) (w : World) (h : layEarlyS.rd w [v] xs) :
    Calls Try.prog 46 #[v, .int .i64 left] w fun e w' => SzEnd (FitsEarly xs) left e ∧ Below w.heap.size w w' := by
  obtain ⟨ao, cp, rfl⟩ := rows_form h
  have HR := Lib.hid h
  have HRM := Lib.hid hR.2
  have hl := hR.1
  clear h hR
  by_cases hlen : left < (xs.length : Int)
  · have h2 : left - (xs.length : Int) < 0 := by omega
    go_enter Try.func46, Try.ntmps46
    go_wp2_with fail
    go_ret
    exact ⟨⟨_, rfl, .inl rfl⟩, Below.refl _ _⟩
  have h2 : ¬ (left - (xs.length : Int) < 0) := by omega
  go_enter Try.func46, Try.ntmps46
  go_wp2_with fail
  go_loopw [1, 5] (fun q c wr => ∃ (j : Nat) (r : Int), j ≤ xs.length ∧ c = .int .i64 j ∧ q = .int .i64 r ∧ 0 ≤ r ∧ r ≤ left ∧ Hid (∀ i, (hi : i < xs.length) → i < j → (xs[i].2).size ≤ 1048576) ∧ Below w.heap.size w wr) (fun _ c _ => xs.length - (intOf c).toNat)
  case atStart => exact ⟨0, _, Nat.zero_le _, rfl, rfl, by omega, by omega, fun i _ h => absurd h (by omega), Below.refl _ _⟩
  case round =>
    obtain ⟨j, r, hj, rfl, rfl, hr0, hr1, HA, hbr⟩ := hrel
    have HBR := Lib.hid hbr
    by_cases hlt : j < xs.length
    · have hlt' : (j : Int) < (xs.length : Int) := by omega
      have hx := List.getElem?_eq_getElem hlt
      have hsz := HRM.out _ (List.getElem_mem hlt)
      have HNX : Hid ((xs[j].2).size ≤ 1048576 → ∀ i, (hi : i < xs.length) → i < j + 1 → (xs[i].2).size ≤ 1048576) := fun hx i hi h => by
        rcases Nat.lt_or_ge i j with h2 | h2
        · exact HA.out i hi h2
        · have : i = j := by omega
          subst this
          exact hx
      obtain ⟨g, off, cs, rfl, hg, hr, hc⟩ := rows_elem (layEarlyS.below HR.out hbr) j _ hx
      generalize xs[j] = x at hr hsz HNX
      rw [layEarly_rd] at hr
      subst hr
      obtain ⟨x0, x1⟩ := x
      have c0 : wr.cell? ⟨g, off + j * 2, none⟩ = some (.int .i64 x0) := hc 0 _ rfl
      have c1 : wr.cell? ⟨g, off + j * 2 + 1, none⟩ = some (.string x1) := hc 1 _ rfl
      clear hc hx hbr
      simp only at hsz HNX
      by_cases hbig : r < (x1.size : Int)
      · have K := Lib.hid (szEarly_any x0 x1 r hr0 (by omega) (by omega) wr)
        rw [if_pos hbig] at K
        go_wp2_with fail
        refine (K.out).mono ?_
        rintro e W ⟨rfl, hb⟩
        replace HBR := Lib.hid (HBR.out.trans (hb.mono HBR.out.size))
        clear hb K
        go_wp2_with fail
        go_ret
        exact ⟨⟨_, rfl, .inl rfl⟩, HBR.out⟩
      · have k1 : ¬ (r - (x1.size : Int) < 0) := by omega
        have HN2 := Lib.hid (HNX.out (by omega))
        have K := Lib.hid (szEarly_any x0 x1 r hr0 (by omega) (by omega) wr)
        rw [if_neg hbig] at K
        go_wp2_with fail
        refine (K.out).mono ?_
        rintro e W ⟨rfl, hb⟩
        replace HBR := Lib.hid (HBR.out.trans (hb.mono HBR.out.size))
        clear hb K
        go_wp2_with fail
        go_roundw
        case rel => exact ⟨j + 1, _, by omega, by go_num, rfl, by omega, by omega, HN2, HBR.out⟩
        case measure => simp [intOf]; omega
    · have hlt' : ¬ ((j : Int) < (xs.length : Int)) := by omega
      have HALL : Hid (∀ x ∈ xs, (x.2).size ≤ 1048576) := fun x hx => by
        obtain ⟨i, hi, rfl⟩ := List.getElem_of_mem hx
        exact HA.out i hi (by omega)
      go_wp2_with fail
      go_ret
      exact ⟨⟨_, rfl, .inr ⟨hr0, by omega, by omega, HALL.out⟩⟩, HBR.out⟩

end Go.Proofs.Ythljmjbmmgligar
