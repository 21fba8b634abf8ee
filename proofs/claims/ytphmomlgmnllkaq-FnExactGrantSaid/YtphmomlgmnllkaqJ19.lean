/-
  Lease as it lies; the laws' own functions over it and over rows of it.
-/
import Derived.Test.YtphmomlgmnllkaqJ07
import Derived.Test.YtphmomlgmnllkaqRows
import Derived.Deep.RegionHeld3
import Derived.BigQuiet
import Derived.Deep.QuietTactic
import Derived.Deep.DeepCutAuto
namespace Go.Proofs.Ytphmomlgmnllkaq
open Go.RowKit

abbrev LeaseD := Int × Int × Int
abbrev LeaseT : TypeId := 49
def layLease : Lay LeaseD := Lay.pair Lay.int (Lay.pair Lay.int Lay.int)
def layLeaseS : Lay (List LeaseD) := .rows LeaseT layLease

theorem layLease_rd {w : World} {cs : List Value} {x : LeaseD} : layLease.rd w cs x ↔ cs = [.int .i64 x.1, .int .i64 x.2.1, .int .i64 x.2.2] := by
  constructor
  · rintro ⟨c0, d0, rfl, rfl, ⟨c1, d1, rfl, rfl, rfl⟩⟩
    rfl
  · rintro rfl
    exact ⟨[_], [_, _], rfl, rfl, ⟨[_], [_], rfl, rfl, rfl⟩⟩

theorem layLease_own {w : World} {b : Nat} {f : List Nat} {cs : List Value} {x : LeaseD} : layLease.own w b f cs x ↔ f = [] ∧ cs = [.int .i64 x.1, .int .i64 x.2.1, .int .i64 x.2.2] := by
  constructor
  · rintro ⟨f0, g0, c0, d0, rfl, rfl, ⟨rfl, rfl⟩, ⟨f1, g1, c1, d1, rfl, rfl, ⟨rfl, rfl⟩, ⟨rfl, rfl⟩⟩⟩
    exact ⟨rfl, rfl⟩
  · rintro ⟨rfl, rfl⟩
    exact ⟨[], ([] ++ []), [_], [_, _], rfl, rfl, ⟨rfl, rfl⟩, ⟨[], [], [_], [_], rfl, rfl, ⟨rfl, rfl⟩, ⟨rfl, rfl⟩⟩⟩

theorem zeroLease (w : World) (b : Nat) : layLease.own w b [] [.int .i64 0, .int .i64 0, .int .i64 0] (0, 0, 0) := layLease_own.2 ⟨rfl, rfl⟩
theorem zeroLease_none (w : World) (b : Nat) (f : List Nat) (c : List Value) (h : layLease.own w b f c (0, 0, 0)) : f = [] := (layLease_own.1 h).1
theorem flatLease : Flat layLease := ⟨fun _ _ _ _ h => layLease_own.2 ⟨rfl, layLease_rd.1 h⟩, fun _ _ _ _ _ h => (layLease_own.1 h).1, fun _ _ _ _ h => layLease_rd.2 (layLease_rd.1 h)⟩

theorem infoLease : (Try.prog.info? 49).map (fun i => (i.zero, i.size, i.bytes)) = some (some (.agg #[.int .i64 0, .int .i64 0, .int .i64 0]), 3, 24) := by kernel_rfl

set_option maxRecDepth 100000 in
set_option maxHeartbeats 400000 in
theorem toLease_any (x0 : Int) (x1 : Int) (x2 : Int) (w : World) :
    Calls Try.prog 47 #[.agg #[.int .i64 x0, .int .i64 x1, .int .i64 x2]] w fun e w' => e = .returned (.agg #[.int .i64 x0, .int .i64 x1, .int .i64 x2]) ∧ Below w.heap.size w w' := by
  go_enter Try.func47, Try.ntmps47
  go_wp2_with fail
  refine bodyPost_ret (v := .agg #[.int .i64 x0, .int .i64 x1, .int .i64 x2]) (by simp [results, Try.results47, go_sem]) rfl ⟨rfl, ?_⟩
  exact (((Below.refl w.heap.size w).alloc (Nat.le_refl _) _).alloc (by simp) _).alloc (by simp; omega) _

set_option maxRecDepth 100000 in
set_option maxHeartbeats 400000 in
theorem eqLease_same (x0 : Int) (x1 : Int) (x2 : Int) (w : World) :
    Calls Try.prog 56 #[.agg #[.int .i64 x0, .int .i64 x1, .int .i64 x2], .agg #[.int .i64 x0, .int .i64 x1, .int .i64 x2]] w fun e w' => e = .returned (.bool true) ∧ Below w.heap.size w w' := by
  go_enter Try.func56, Try.ntmps56
  go_wp2_with fail
  go_ret
  exact ⟨rfl, ((Below.refl _ _).alloc (Nat.le_refl _) _).alloc (by simp) _⟩

set_option maxRecDepth 100000 in
set_option maxHeartbeats 800000 in
theorem toLeaseS_any (v : Value) (xs : List LeaseD) (hl : xs.length ≤ 1048576) (w : World) (hs : layLeaseS.rd w [v] xs) :
    Calls Try.prog 24 #[v] w fun e w' => OutS layLeaseS w xs e w' := by
  obtain ⟨i0, hi, hz0, hsz0, hby0⟩ := info_of infoLease
  obtain ⟨a, cap, rfl⟩ := rows_form hs
  have H1 := Lib.hid toLease_any
  have HS := Lib.hid hs
  clear hs
  go_enter Try.func24, Try.ntmps24
  go_wp2_with (at_make; refine wpList_make_full _ rfl _ _ 30 rfl w.heap.size LeaseT i0 (.agg #[.int .i64 0, .int .i64 0, .int .i64 0]) 3 Try.underlying30 hi hz0 hsz0 .i64 .i64 _ _ xs.length rfl rfl rfl rfl (by rw [hby0]; omega) (by unfold maxLen; omega) (Nat.le_refl _) ?_)
  intro w1 hown1 hg1
  have hown : layLeaseS.own w1 w.heap.size [w.heap.size] [.slice (some ⟨w.heap.size, 0, none⟩) xs.length xs.length] (List.replicate xs.length (0, 0, 0)) := rows_made hown1 rfl (zeroLease _ _)
  have hbel : Below w.heap.size w w1 := below_grown hg1 (fun k h => by cases h) (Nat.le_refl _)
  clear hown1 hg1
  go_wp2_with fail
  go_loopw [4] (fun c wr => ∃ (j : Nat) (fp : List Nat), j ≤ xs.length ∧ c = .int .i64 j ∧ fp.Nodup ∧ layLeaseS.own wr w.heap.size fp [.slice (some ⟨w.heap.size, 0, none⟩) xs.length xs.length] (xs.take j ++ List.replicate (xs.length - j) (0, 0, 0)) ∧ Below w.heap.size w wr) (fun c _ => xs.length - (intOf c).toNat)
  case atStart => exact ⟨0, [w.heap.size], Nat.zero_le _, rfl, by simp, by simpa using hown, hbel⟩
  case round =>
    obtain ⟨j, fp, hj, rfl, hdup, hown2, hb2⟩ := hrel
    have HO := Lib.hid hown2
    have HB := Lib.hid hb2
    clear hown2 hb2 hown hbel
    by_cases hlt : j < xs.length
    · have hlt' : (j : Int) < (xs.length : Int) := by omega
      have hx := List.getElem?_eq_getElem hlt
      obtain ⟨g, off, cs, rfl, hg, hr, hc⟩ := rows_elem (layLeaseS.below HS.out HB.out) j _ hx
      have hta : xs.take (j + 1) = xs.take j ++ [xs[j]] := by rw [List.take_add_one, hx]; rfl
      generalize xs[j] = x at hr hta
      rw [layLease_rd] at hr
      subst hr
      obtain ⟨x0, x1, x2⟩ := x
      have c0 : wr.cell? ⟨g, off + j * 3, none⟩ = some (.int .i64 x0) := hc 0 _ rfl
      have c1 : wr.cell? ⟨g, off + j * 3 + 1, none⟩ = some (.int .i64 x1) := hc 1 _ rfl
      have c2 : wr.cell? ⟨g, off + j * 3 + 2, none⟩ = some (.int .i64 x2) := hc 2 _ rfl
      have HTA := Lib.hid hta
      clear hta hc hx
      go_wp2_with fail
      refine (H1.out _ _ _ _).mono ?_
      rintro e w2 ⟨rfl, hb2⟩
      have hm : xs.length - j = (xs.length - (j + 1)) + 1 := by omega
      have hown3 := layLeaseS.next HO.out hb2
      rw [hm] at hown3
      obtain ⟨g', cap', hv, hbg, hgl, ⟨zc, hzc, hcell⟩, fp', hd', _, hown4, hchg⟩ := rows_fill zeroLease_none hown3 hdup [] [.int .i64 x0, .int .i64 x1, .int .i64 x2] (x0, x1, x2) (layLease_own.2 ⟨rfl, rfl⟩) (by simp) (by simp)
      simp only [Value.slice.injEq, Option.some.injEq, Addr.mk.injEq, and_true] at hv
      obtain ⟨rfl, -, rfl⟩ := hv
      have hjl : (xs.take j).length = j := by rw [List.length_take]; omega
      rw [hjl] at hcell hown4 hchg
      rw [layLease_own] at hzc
      obtain ⟨-, rfl⟩ := hzc
      obtain ⟨e0, z0⟩ : w2.cell? ⟨w.heap.size, j * 3, none⟩ = some (.int .i64 0) ∧ w2.frozen? ⟨w.heap.size, j * 3, none⟩ = false := hcell 0 _ rfl
      obtain ⟨e1, z1⟩ : w2.cell? ⟨w.heap.size, j * 3 + 1, none⟩ = some (.int .i64 0) ∧ w2.frozen? ⟨w.heap.size, j * 3 + 1, none⟩ = false := hcell 1 _ rfl
      obtain ⟨e2, z2⟩ : w2.cell? ⟨w.heap.size, j * 3 + 2, none⟩ = some (.int .i64 0) ∧ w2.frozen? ⟨w.heap.size, j * 3 + 2, none⟩ = false := hcell 2 _ rfl
      have hbel2 := HB.out.trans (hb2.mono HB.out.size)
      have HP : Hid (layLeaseS.own (setCells w2 w.heap.size (j * layLease.k) [.int .i64 x0, .int .i64 x1, .int .i64 x2]) w.heap.size fp' [.slice (some ⟨w.heap.size, 0, none⟩) xs.length xs.length] (xs.take (j + 1) ++ List.replicate (xs.length - (j + 1)) (0, 0, 0))) := by
        rw [HTA.out, List.append_assoc]
        exact hown4
      have HB3 := Lib.hid (hbel2.trans (hchg.below (by simp) hbel2.size))
      have HD := Lib.hid hd'
      clear hown3 hown4 hchg hbel2 hb2 hcell hm hjl hd' hbg hgl
      go_wp2_with fail
      go_roundw
      case rel => exact ⟨j + 1, fp', by omega, by go_num, HD.out, HP.out, HB3.out⟩
      case measure => simp [intOf]; omega
    · have hlt' : ¬ ((j : Int) < (xs.length : Int)) := by omega
      have hke : j = xs.length := by omega
      have hfin : xs.take j ++ List.replicate (xs.length - j) ((0, 0, 0) : LeaseD) = xs := by subst hke; simp
      have HO2 := HO.out
      rw [hfin] at HO2
      have HO3 := Lib.hid HO2
      clear HO2 HO
      go_wp2_with fail
      go_ret
      exact ⟨_, fp, rfl, hdup, HO3.out, HB.out⟩

set_option maxRecDepth 100000 in
set_option maxHeartbeats 400000 in
theorem szLeaseS_any (a : Option Addr) (len cap : Nat) (left : Int) (h0 : 0 ≤ left) (h1 : left ≤ 1048576) (hl : len ≤ 9223372036854775807) (w : World) :
    Calls Try.prog 17 #[.slice a len cap, .int .i64 left] w fun e w' => e = .returned (.int .i64 (if left < len then -1 else left - (len : Int))) ∧ w' = w := by
  by_cases h : left < (len : Int)
  · have h1 : left - (len : Int) < 0 := by omega
    rw [if_pos h]
    go_enter Try.func17, Try.ntmps17
    go_wp2
    go_ret
    exact ⟨rfl, rfl⟩
  · have h1 : ¬ (left - (len : Int) < 0) := by omega
    rw [if_neg h]
    go_enter Try.func17, Try.ntmps17
    go_wp2
    go_ret
    exact ⟨rfl, rfl⟩

set_option maxRecDepth 100000 in
set_option maxHeartbeats 1600000 in
theorem eqLeaseS_same (v u : Value) (xs : List LeaseD) (hl : xs.length ≤ 100000000) (w : World) (hv : layLeaseS.rd w [v] xs) (hu : layLeaseS.rd w [u] xs) :
    Calls Try.prog 36 #[v, u] w fun e w' => e = .returned (.bool true) ∧ Below w.heap.size w w' := by
  obtain ⟨ao, cp, rfl⟩ := rows_form hv
  obtain ⟨bo, dp, rfl⟩ := rows_form hu
  have HV := Lib.hid hv
  have HU := Lib.hid hu
  clear hv hu
  have K1 := eqLease_same
  go_enter Try.func36, Try.ntmps36
  go_wp2_with fail
  go_loopw [5] (fun c wr => ∃ j : Nat, j ≤ xs.length ∧ c = .int .i64 j ∧ Below w.heap.size w wr) (fun c _ => xs.length - (intOf c).toNat)
  case atStart => exact ⟨0, Nat.zero_le _, rfl, Below.refl _ _⟩
  case round =>
    obtain ⟨j, hj, rfl, hb2⟩ := hrel
    by_cases hlt : j < xs.length
    · have hlt' : (j : Int) < (xs.length : Int) := by omega
      have hx := List.getElem?_eq_getElem hlt
      obtain ⟨g, og, cs, rfl, hg, hr, hc⟩ := rows_elem (layLeaseS.below HV.out hb2.drew) j _ hx
      obtain ⟨h, oh, ds, rfl, hh, hs, hd⟩ := rows_elem (layLeaseS.below HU.out hb2.drew) j _ hx
      generalize xs[j] = x at hr hs
      rw [layLease_rd] at hr hs
      subst hr hs
      obtain ⟨x0, x1, x2⟩ := x
      have E0 : Hid (wr.drew.cell? ⟨g, og + j * 3, none⟩ = some (.int .i64 x0) ∧ wr.drew.cell? ⟨g, og + j * 3 + 1, none⟩ = some (.int .i64 x1) ∧ wr.drew.cell? ⟨g, og + j * 3 + 2, none⟩ = some (.int .i64 x2) ∧ wr.drew.cell? ⟨h, oh + j * 3, none⟩ = some (.int .i64 x0) ∧ wr.drew.cell? ⟨h, oh + j * 3 + 1, none⟩ = some (.int .i64 x1) ∧ wr.drew.cell? ⟨h, oh + j * 3 + 2, none⟩ = some (.int .i64 x2) ∧ Below w.heap.size w wr.drew) := ⟨hc 0 _ rfl, hc 1 _ rfl, hc 2 _ rfl, hd 0 _ rfl, hd 1 _ rfl, hd 2 _ rfl, hb2.drew⟩
      have K2 : Hid (∀ X : World, (X.cell? ⟨g, og + j * 3, none⟩ = some (.int .i64 x0) ∧ X.cell? ⟨g, og + j * 3 + 1, none⟩ = some (.int .i64 x1) ∧ X.cell? ⟨g, og + j * 3 + 2, none⟩ = some (.int .i64 x2) ∧ X.cell? ⟨h, oh + j * 3, none⟩ = some (.int .i64 x0) ∧ X.cell? ⟨h, oh + j * 3 + 1, none⟩ = some (.int .i64 x1) ∧ X.cell? ⟨h, oh + j * 3 + 2, none⟩ = some (.int .i64 x2) ∧ Below w.heap.size w X) → Calls Try.prog 56 #[.agg #[.int .i64 x0, .int .i64 x1, .int .i64 x2], .agg #[.int .i64 x0, .int .i64 x1, .int .i64 x2]] X fun e Y => e = .returned (.bool true) ∧ (Y.cell? ⟨g, og + j * 3, none⟩ = some (.int .i64 x0) ∧ Y.cell? ⟨g, og + j * 3 + 1, none⟩ = some (.int .i64 x1) ∧ Y.cell? ⟨g, og + j * 3 + 2, none⟩ = some (.int .i64 x2) ∧ Y.cell? ⟨h, oh + j * 3, none⟩ = some (.int .i64 x0) ∧ Y.cell? ⟨h, oh + j * 3 + 1, none⟩ = some (.int .i64 x1) ∧ Y.cell? ⟨h, oh + j * 3 + 2, none⟩ = some (.int .i64 x2) ∧ Below w.heap.size w Y)) := fun X hX => by
        refine (K1 x0 x1 x2 X).mono ?_
        rintro e Y ⟨rfl, hb⟩
        obtain ⟨a0, a1, a2, a3, a4, a5, hbX⟩ := hX
        exact ⟨rfl, by rw [hb.cell (p := ⟨g, og + j * 3, none⟩) (World.block_lt_of_cell? _ _ a0)]; exact a0, by rw [hb.cell (p := ⟨g, og + j * 3 + 1, none⟩) (World.block_lt_of_cell? _ _ a1)]; exact a1, by rw [hb.cell (p := ⟨g, og + j * 3 + 2, none⟩) (World.block_lt_of_cell? _ _ a2)]; exact a2, by rw [hb.cell (p := ⟨h, oh + j * 3, none⟩) (World.block_lt_of_cell? _ _ a3)]; exact a3, by rw [hb.cell (p := ⟨h, oh + j * 3 + 1, none⟩) (World.block_lt_of_cell? _ _ a4)]; exact a4, by rw [hb.cell (p := ⟨h, oh + j * 3 + 2, none⟩) (World.block_lt_of_cell? _ _ a5)]; exact a5, hbX.trans (hb.mono hbX.size)⟩
      clear hc hd hx K1 hb2
      go_wp2_with fail
      go_region_held3 (fun X => X.cell? ⟨g, og + j * 3, none⟩ = some (.int .i64 x0) ∧ X.cell? ⟨g, og + j * 3 + 1, none⟩ = some (.int .i64 x1) ∧ X.cell? ⟨g, og + j * 3 + 2, none⟩ = some (.int .i64 x2) ∧ X.cell? ⟨h, oh + j * 3, none⟩ = some (.int .i64 x0) ∧ X.cell? ⟨h, oh + j * 3 + 1, none⟩ = some (.int .i64 x1) ∧ X.cell? ⟨h, oh + j * 3 + 2, none⟩ = some (.int .i64 x2) ∧ Below w.heap.size w X) (first | (with_reducible assumption) | (with_reducible exact E0.out)) (first | (go_at_call 56; refine (K2.out _ (by assumption)).mono ?_; rintro e v1 ⟨rfl, hS⟩))
      all_goals
        have HS := Lib.hid hS.2.2.2.2.2.2
        clear hS
        go_wp2_with fail
        go_roundw
        case rel => exact ⟨j + 1, by omega, by go_num, HS.out⟩
        case measure => simp [intOf]; omega
    · have hlt' : ¬ ((j : Int) < (xs.length : Int)) := by omega
      go_wp2_with fail
      go_ret
      exact ⟨rfl, hb2⟩

theorem markLease_eq (q : Int) (x : LeaseD) : layLease.mark q x = ((q, q + 1, q + 1 + 1), q + 1 + 1 + 1) := rfl
theorem marksLease_num (k : Int) (xs : List LeaseD) : (layLeaseS.mark k xs).2 = k + 3 * (xs.length : Int) := by
  show (mkAll layLease k xs).2 = _
  induction xs generalizing k with
  | nil => simp [mkAll]
  | cons x xs ih =>
    show (mkAll layLease (layLease.mark k x).2 xs).2 = _
    rw [ih, markLease_eq]
    simp only [List.length_cons]
    omega
theorem marksLease_next (k : Int) (xs : List LeaseD) (j : Nat) (x : LeaseD) (hx : xs[j]? = some x) : (layLeaseS.mark k (xs.take (j + 1))).1 = (layLeaseS.mark k (xs.take j)).1 ++ [(layLease.mark (k + 3 * (j : Int)) x).1] := by
  have hj : j < xs.length := (List.getElem?_eq_some_iff.1 hx).1
  have e : xs.take (j + 1) = xs.take j ++ [x] := by rw [List.take_add_one, hx]; rfl
  have h2 := marksLease_num k (xs.take j)
  show (mkAll layLease k _).1 = (mkAll layLease k _).1 ++ _
  rw [e, mkAll_append]
  have h3 : (mkAll layLease k (xs.take j)).2 = k + 3 * (j : Int) := by
    have h4 : (mkAll layLease k (xs.take j)).2 = _ := h2
    rw [h4, List.length_take, Nat.min_eq_left (by omega)]
  rw [h3]
  rfl
set_option maxRecDepth 100000 in
set_option maxHeartbeats 1600000 in
theorem markLeaseS_any (v : Value) (xs : List LeaseD) (b : Nat) (fp : List Nat) (k : Int) (hk0 : 0 ≤ k) (hk1 : k ≤ 1000000000) (hl : xs.length ≤ 100000000) (w : World) (hd : fp.Nodup) (ho : layLeaseS.own w b fp [v] xs) :
    Calls Try.prog 38 #[v, .int .i64 k] w fun e w' => e = .returned (.int .i64 (k + 3 * (xs.length : Int))) ∧ layLeaseS.own w' b fp [v] (layLeaseS.mark k xs).1 ∧ Chg fp w w' := by
  obtain ⟨ao, cp, rfl⟩ := rows_form (layLeaseS.read ho)
  have HO := Lib.hid ho
  have HDUP := Lib.hid hd
  clear ho hd
  go_enter Try.func38, Try.ntmps38
  go_wp2_with fail
  go_loopw [1, 5] (fun q c wr => ∃ j : Nat, j ≤ xs.length ∧ c = .int .i64 j ∧ q = .int .i64 (k + 3 * (j : Int)) ∧ layLeaseS.own wr b fp [.slice ao xs.length cp] ((layLeaseS.mark k (xs.take j)).1 ++ xs.drop j) ∧ Chg fp w wr) (fun _ c _ => xs.length - (intOf c).toNat)
  case atStart => exact ⟨0, Nat.zero_le _, rfl, by simp, by simpa [layLeaseS, Lay.rows, mkAll] using HO.out, Chg.refl _ _⟩
  case round =>
    obtain ⟨j, hj, rfl, rfl, hown2, hg2⟩ := hrel
    have HO2 := Lib.hid hown2
    have HG := Lib.hid hg2
    clear hown2 hg2 HO
    by_cases hlt : j < xs.length
    · have hlt' : (j : Int) < (xs.length : Int) := by omega
      have hx := List.getElem?_eq_getElem hlt
      have hnext := marksLease_next k xs j _ hx
      have hdrop : xs.drop j = xs[j] :: xs.drop (j + 1) := List.drop_eq_getElem_cons hlt
      have hown3 := HO2.out
      rw [hdrop] at hown3
      generalize xs[j] = x at hown3 hnext
      obtain ⟨g, cap, f1, f2, f3, u1, c, u3, hv, rfl, Z⟩ := rows_open hown3 HDUP.out
      simp only [Value.slice.injEq] at hv
      obtain ⟨rfl, -, rfl⟩ := hv
      have hXl : (layLeaseS.mark k (xs.take j)).1.length = j := by
        show (mkAll layLease k _).1.length = j
        rw [mkAll_length, List.length_take]
        omega
      obtain ⟨rfl, rfl⟩ := layLease_own.1 Z.mid
      have hcell := fun t u hu => Z.cell t u hu
      rw [hXl] at hcell
      obtain ⟨x0, x1, x2⟩ := x
      obtain ⟨q, hq, hq0, hq1⟩ : ∃ q : Int, k + 3 * (j : Int) = q ∧ 0 ≤ q ∧ q ≤ 2000000000 := ⟨_, rfl, by omega, by omega⟩
      obtain ⟨d0, z0⟩ : wr.cell? ⟨g, j * 3, none⟩ = some (.int .i64 x0) ∧ wr.frozen? ⟨g, j * 3, none⟩ = false := hcell 0 _ rfl
      obtain ⟨d1, z1⟩ : wr.cell? ⟨g, j * 3 + 1, none⟩ = some (.int .i64 x1) ∧ wr.frozen? ⟨g, j * 3 + 1, none⟩ = false := hcell 1 _ rfl
      obtain ⟨d2, z2⟩ : wr.cell? ⟨g, j * 3 + 2, none⟩ = some (.int .i64 x2) ∧ wr.frozen? ⟨g, j * 3 + 2, none⟩ = false := hcell 2 _ rfl
      have hst := Z.store [.int .i64 q, .int .i64 (q + 1), .int .i64 (q + 1 + 1)] 0 (by simp) [] (layLease.mark q (x0, x1, x2)).1 (layLease_own.2 ⟨rfl, rfl⟩) Z.dup
      rw [hXl] at hst
      have HP : Hid (layLeaseS.own (setCells wr g (j * layLease.k + 0) [.int .i64 q, .int .i64 (q + 1), .int .i64 (q + 1 + 1)]) b (g :: (f1 ++ ([] ++ f3))) [.slice (some ⟨g, 0, none⟩) xs.length cp] ((layLeaseS.mark k (xs.take (j + 1))).1 ++ xs.drop (j + 1))) := by
        have h3 := hst.1.shut
        have e4 : ((layLeaseS.mark k (xs.take j)).1 ++ (layLease.mark q (x0, x1, x2)).1 :: xs.drop (j + 1)).length = xs.length := by
          rw [List.length_append, hXl, List.length_cons, List.length_drop]
          omega
        rw [e4] at h3
        rw [hnext, hq, List.append_assoc]
        exact h3
      have HG3 := Lib.hid (HG.out.trans (hst.2.sub (by simp)))
      have HQ := Lib.hid hq
      rw [hq]
      clear hst hown3 hnext hdrop hcell Z hXl HG HO2 hx hq
      go_wp2_with fail
      go_roundw
      case rel => exact ⟨j + 1, by omega, by go_num, by have := HQ.out; go_num, HP.out, HG3.out⟩
      case measure => simp [intOf]; omega
    · have hlt' : ¬ ((j : Int) < (xs.length : Int)) := by omega
      have hke : j = xs.length := by omega
      subst hke
      have HO3 := HO2.out
      rw [List.drop_length, List.append_nil, List.take_length] at HO3
      have HO4 := Lib.hid HO3
      clear HO3 HO2
      go_wp2_with fail
      go_ret
      exact ⟨rfl, HO4.out, HG.out⟩

theorem marksLease_get (k : Int) (xs : List LeaseD) (j : Nat) (x : LeaseD) (hx : xs[j]? = some x) : (layLeaseS.mark k xs).1[j]? = some (layLease.mark (k + 3 * (j : Int)) x).1 := by
  have hj : j < xs.length := (List.getElem?_eq_some_iff.1 hx).1
  have h := marksLease_next k xs j x hx
  have e : xs = xs.take (j + 1) ++ xs.drop (j + 1) := (List.take_append_drop _ _).symm
  have e2 : (layLeaseS.mark k xs).1 = (layLeaseS.mark k (xs.take (j + 1))).1 ++ (mkAll layLease (layLeaseS.mark k (xs.take (j + 1))).2 (xs.drop (j + 1))).1 := by
    conv => lhs; rw [e]
    show (mkAll layLease k _).1 = _
    rw [mkAll_append]
    rfl
  have hl : (layLeaseS.mark k (xs.take j)).1.length = j := by
    show (mkAll layLease k _).1.length = j
    rw [mkAll_length, List.length_take]
    omega
  rw [e2, h, List.getElem?_append_left (by rw [List.length_append, hl]; simp), List.getElem?_append_right (by omega), hl, Nat.sub_self]
  rfl
set_option maxRecDepth 100000 in
set_option maxHeartbeats 1600000 in
theorem heldLeaseS_any (v : Value) (xs : List LeaseD) (k : Int) (hk0 : 0 ≤ k) (hk1 : k ≤ 1000000000) (hl : xs.length ≤ 100000000) (w : World) (hr : layLeaseS.rd w [v] (layLeaseS.mark k xs).1) :
    Calls Try.prog 40 #[v, .int .i64 k] w fun e w' => e = .returned (.int .i64 (k + 3 * (xs.length : Int))) ∧ w' = w := by
  obtain ⟨ao, cp, rfl⟩ := rows_form hr
  have hml : (layLeaseS.mark k xs).1.length = xs.length := mkAll_length layLease xs k
  have HR := Lib.hid hr
  clear hr
  rw [hml] at HR ⊢
  go_enter Try.func40, Try.ntmps40
  go_wp2_with fail
  go_loopw [1, 5] (fun q c wr => ∃ j : Nat, j ≤ xs.length ∧ c = .int .i64 j ∧ q = .int .i64 (k + 3 * (j : Int)) ∧ wr = w) (fun _ c _ => xs.length - (intOf c).toNat)
  case atStart => exact ⟨0, Nat.zero_le _, rfl, by simp, by first | trivial | rfl⟩
  case round =>
    obtain ⟨j, hj, rfl, rfl, rfl⟩ := hrel
    by_cases hlt : j < xs.length
    · have hlt' : (j : Int) < (xs.length : Int) := by omega
      obtain ⟨g, off, cs, rfl, hg, hr, hc⟩ := rows_elem HR.out j _ (marksLease_get k xs j _ (List.getElem?_eq_getElem hlt))
      obtain ⟨q, hq, hq0, hq1⟩ : ∃ q : Int, k + 3 * (j : Int) = q ∧ 0 ≤ q ∧ q ≤ 2000000000 := ⟨_, rfl, by omega, by omega⟩
      rw [hq, markLease_eq, layLease_rd] at hr
      subst hr
      have c0 : wr.cell? ⟨g, off + j * 3, none⟩ = some (.int .i64 q) := hc 0 _ rfl
      have c1 : wr.cell? ⟨g, off + j * 3 + 1, none⟩ = some (.int .i64 (q + 1)) := hc 1 _ rfl
      have c2 : wr.cell? ⟨g, off + j * 3 + 2, none⟩ = some (.int .i64 (q + 1 + 1)) := hc 2 _ rfl
      have HQ := Lib.hid hq
      rw [hq]
      clear hc hq hml
      go_wp2_with fail
      go_roundw
      case rel => exact ⟨j + 1, by omega, by go_num, by have := HQ.out; go_num, by first | trivial | rfl⟩
      case measure => simp [intOf]; omega
    · have hlt' : ¬ ((j : Int) < (xs.length : Int)) := by omega
      have hke : j = xs.length := by omega
      subst hke
      go_wp2_with fail
      go_ret
      exact ⟨rfl, rfl⟩

end Go.Proofs.Ytphmomlgmnllkaq
