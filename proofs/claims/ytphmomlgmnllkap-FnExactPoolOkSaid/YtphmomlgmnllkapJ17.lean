/-
  Fixed as it lies; the laws' own functions over it and over rows of it.
-/
import Derived.Test.YtphmomlgmnllkapJ07
import Derived.Test.YtphmomlgmnllkapRows
import Derived.Deep.RegionHeld3
import Derived.BigQuiet
import Derived.Deep.QuietTactic
import Derived.Deep.DeepCutAuto
namespace Go.Proofs.Ytphmomlgmnllkap
open Go.RowKit

abbrev FixedD := Int × Int
abbrev FixedT : TypeId := 77
def layFixed : Lay FixedD := Lay.pair Lay.int Lay.int
def layFixedS : Lay (List FixedD) := .rows FixedT layFixed

theorem layFixed_rd {w : World} {cs : List Value} {x : FixedD} : layFixed.rd w cs x ↔ cs = [.int .i64 x.1, .int .i64 x.2] := by
  constructor
  · rintro ⟨c0, d0, rfl, rfl, rfl⟩
    rfl
  · rintro rfl
    exact ⟨[_], [_], rfl, rfl, rfl⟩

theorem layFixed_own {w : World} {b : Nat} {f : List Nat} {cs : List Value} {x : FixedD} : layFixed.own w b f cs x ↔ f = [] ∧ cs = [.int .i64 x.1, .int .i64 x.2] := by
  constructor
  · rintro ⟨f0, g0, c0, d0, rfl, rfl, ⟨rfl, rfl⟩, ⟨rfl, rfl⟩⟩
    exact ⟨rfl, rfl⟩
  · rintro ⟨rfl, rfl⟩
    exact ⟨[], [], [_], [_], rfl, rfl, ⟨rfl, rfl⟩, ⟨rfl, rfl⟩⟩

theorem zeroFixed (w : World) (b : Nat) : layFixed.own w b [] [.int .i64 0, .int .i64 0] (0, 0) := layFixed_own.2 ⟨rfl, rfl⟩
theorem zeroFixed_none (w : World) (b : Nat) (f : List Nat) (c : List Value) (h : layFixed.own w b f c (0, 0)) : f = [] := (layFixed_own.1 h).1
theorem flatFixed : Flat layFixed := ⟨fun _ _ _ _ h => layFixed_own.2 ⟨rfl, layFixed_rd.1 h⟩, fun _ _ _ _ _ h => (layFixed_own.1 h).1, fun _ _ _ _ h => layFixed_rd.2 (layFixed_rd.1 h)⟩

theorem infoFixed : (Try.prog.info? 77).map (fun i => (i.zero, i.size, i.bytes)) = some (some (.agg #[.int .i64 0, .int .i64 0]), 2, 16) := by kernel_rfl

set_option maxRecDepth 100000 in
set_option maxHeartbeats 400000 in
theorem toFixed_any (x0 : Int) (x1 : Int) (w : World) :
    Calls Try.prog 67 #[.agg #[.int .i64 x0, .int .i64 x1]] w fun e w' => e = .returned (.agg #[.int .i64 x0, .int .i64 x1]) ∧ Below w.heap.size w w' := by
  go_enter Try.func67, Try.ntmps67
  go_wp2_with fail
  refine bodyPost_ret (v := .agg #[.int .i64 x0, .int .i64 x1]) (by simp [results, Try.results67, go_sem]) rfl ⟨rfl, ?_⟩
  exact (((Below.refl w.heap.size w).alloc (Nat.le_refl _) _).alloc (by simp) _).alloc (by simp; omega) _

set_option maxRecDepth 100000 in
set_option maxHeartbeats 400000 in
theorem eqFixed_same (x0 : Int) (x1 : Int) (w : World) :
    Calls Try.prog 74 #[.agg #[.int .i64 x0, .int .i64 x1], .agg #[.int .i64 x0, .int .i64 x1]] w fun e w' => e = .returned (.bool true) ∧ Below w.heap.size w w' := by
  go_enter Try.func74, Try.ntmps74
  go_wp2_with fail
  go_ret
  exact ⟨rfl, ((Below.refl _ _).alloc (Nat.le_refl _) _).alloc (by simp) _⟩

set_option maxRecDepth 100000 in
set_option maxHeartbeats 800000 in
theorem toFixedS_any (v : Value) (xs : List FixedD) (hl : xs.length ≤ 1048576) (w : World) (hs : layFixedS.rd w [v] xs) :
    Calls Try.prog 49 #[v] w fun e w' => OutS layFixedS w xs e w' := by
  obtain ⟨i0, hi, hz0, hsz0, hby0⟩ := info_of infoFixed
  obtain ⟨a, cap, rfl⟩ := rows_form hs
  have H1 := Lib.hid toFixed_any
  have HS := Lib.hid hs
  clear hs
  go_enter Try.func49, Try.ntmps49
  go_wp2_with (at_make; refine wpList_make_full _ rfl _ _ 51 rfl w.heap.size FixedT i0 (.agg #[.int .i64 0, .int .i64 0]) 2 Try.underlying51 hi hz0 hsz0 .i64 .i64 _ _ xs.length rfl rfl rfl rfl (by rw [hby0]; omega) (by unfold maxLen; omega) (Nat.le_refl _) ?_)
  intro w1 hown1 hg1
  have hown : layFixedS.own w1 w.heap.size [w.heap.size] [.slice (some ⟨w.heap.size, 0, none⟩) xs.length xs.length] (List.replicate xs.length (0, 0)) := rows_made hown1 rfl (zeroFixed _ _)
  have hbel : Below w.heap.size w w1 := below_grown hg1 (fun k h => by cases h) (Nat.le_refl _)
  clear hown1 hg1
  go_wp2_with fail
  go_loopw [4] (fun c wr => ∃ (j : Nat) (fp : List Nat), j ≤ xs.length ∧ c = .int .i64 j ∧ fp.Nodup ∧ layFixedS.own wr w.heap.size fp [.slice (some ⟨w.heap.size, 0, none⟩) xs.length xs.length] (xs.take j ++ List.replicate (xs.length - j) (0, 0)) ∧ Below w.heap.size w wr) (fun c _ => xs.length - (intOf c).toNat)
  case atStart => exact ⟨0, [w.heap.size], Nat.zero_le _, rfl, by simp, by simpa using hown, hbel⟩
  case round =>
    obtain ⟨j, fp, hj, rfl, hdup, hown2, hb2⟩ := hrel
    have HO := Lib.hid hown2
    have HB := Lib.hid hb2
    clear hown2 hb2 hown hbel
    by_cases hlt : j < xs.length
    · have hlt' : (j : Int) < (xs.length : Int) := by omega
      have hx := List.getElem?_eq_getElem hlt
      obtain ⟨g, off, cs, rfl, hg, hr, hc⟩ := rows_elem (layFixedS.below HS.out HB.out) j _ hx
      have hta : xs.take (j + 1) = xs.take j ++ [xs[j]] := by rw [List.take_add_one, hx]; rfl
      generalize xs[j] = x at hr hta
      rw [layFixed_rd] at hr
      subst hr
      obtain ⟨x0, x1⟩ := x
      have c0 : wr.cell? ⟨g, off + j * 2, none⟩ = some (.int .i64 x0) := hc 0 _ rfl
      have c1 : wr.cell? ⟨g, off + j * 2 + 1, none⟩ = some (.int .i64 x1) := hc 1 _ rfl
      have HTA := Lib.hid hta
      clear hta hc hx
      go_wp2_with fail
      refine (H1.out _ _ _).mono ?_
      rintro e w2 ⟨rfl, hb2⟩
      have hm : xs.length - j = (xs.length - (j + 1)) + 1 := by omega
      have hown3 := layFixedS.next HO.out hb2
      rw [hm] at hown3
      obtain ⟨g', cap', hv, hbg, hgl, ⟨zc, hzc, hcell⟩, fp', hd', _, hown4, hchg⟩ := rows_fill zeroFixed_none hown3 hdup [] [.int .i64 x0, .int .i64 x1] (x0, x1) (layFixed_own.2 ⟨rfl, rfl⟩) (by simp) (by simp)
      simp only [Value.slice.injEq, Option.some.injEq, Addr.mk.injEq, and_true] at hv
      obtain ⟨rfl, -, rfl⟩ := hv
      have hjl : (xs.take j).length = j := by rw [List.length_take]; omega
      rw [hjl] at hcell hown4 hchg
      rw [layFixed_own] at hzc
      obtain ⟨-, rfl⟩ := hzc
      obtain ⟨e0, z0⟩ : w2.cell? ⟨w.heap.size, j * 2, none⟩ = some (.int .i64 0) ∧ w2.frozen? ⟨w.heap.size, j * 2, none⟩ = false := hcell 0 _ rfl
      obtain ⟨e1, z1⟩ : w2.cell? ⟨w.heap.size, j * 2 + 1, none⟩ = some (.int .i64 0) ∧ w2.frozen? ⟨w.heap.size, j * 2 + 1, none⟩ = false := hcell 1 _ rfl
      have hbel2 := HB.out.trans (hb2.mono HB.out.size)
      have HP : Hid (layFixedS.own (setCells w2 w.heap.size (j * layFixed.k) [.int .i64 x0, .int .i64 x1]) w.heap.size fp' [.slice (some ⟨w.heap.size, 0, none⟩) xs.length xs.length] (xs.take (j + 1) ++ List.replicate (xs.length - (j + 1)) (0, 0))) := by
        rw [HTA.out, List.append_assoc]
        exact hown4
      have HB3 := Lib.hid (hbel2.trans (hchg.below (by simp) hbel2.size))
      have HD := Lib.hid hd'
      clear hown3 hown4 hchg hbel2 hb2 hcell hm hjl hd' hbg hgl
      go_wp2_with fail
      go_roundw
      case rel => exact ⟨j + 1, fp', by omega, by go_num, HD.out, HP.out, HB3.out⟩
      case measure => simp [intOf]; omega
    · have hlt' : ¬ ((j : Int) < (xs.length : Int)) := by omega
      have hke : j = xs.length := by omega
      have hfin : xs.take j ++ List.replicate (xs.length - j) ((0, 0) : FixedD) = xs := by subst hke; simp
      have HO2 := HO.out
      rw [hfin] at HO2
      have HO3 := Lib.hid HO2
      clear HO2 HO
      go_wp2_with fail
      go_ret
      exact ⟨_, fp, rfl, hdup, HO3.out, HB.out⟩

set_option maxRecDepth 100000 in
set_option maxHeartbeats 400000 in
theorem szFixedS_any (a : Option Addr) (len cap : Nat) (left : Int) (h0 : 0 ≤ left) (h1 : left ≤ 1048576) (hl : len ≤ 9223372036854775807) (w : World) :
    Calls Try.prog 45 #[.slice a len cap, .int .i64 left] w fun e w' => e = .returned (.int .i64 (if left < len then -1 else left - (len : Int))) ∧ w' = w := by
  by_cases h : left < (len : Int)
  · have h1 : left - (len : Int) < 0 := by omega
    rw [if_pos h]
    go_enter Try.func45, Try.ntmps45
    go_wp2
    go_ret
    exact ⟨rfl, rfl⟩
  · have h1 : ¬ (left - (len : Int) < 0) := by omega
    rw [if_neg h]
    go_enter Try.func45, Try.ntmps45
    go_wp2
    go_ret
    exact ⟨rfl, rfl⟩

set_option maxRecDepth 100000 in
set_option maxHeartbeats 1600000 in
theorem eqFixedS_same (v u : Value) (xs : List FixedD) (hl : xs.length ≤ 100000000) (w : World) (hv : layFixedS.rd w [v] xs) (hu : layFixedS.rd w [u] xs) :
    Calls Try.prog 55 #[v, u] w fun e w' => e = .returned (.bool true) ∧ Below w.heap.size w w' := by
  obtain ⟨ao, cp, rfl⟩ := rows_form hv
  obtain ⟨bo, dp, rfl⟩ := rows_form hu
  have HV := Lib.hid hv
  have HU := Lib.hid hu
  clear hv hu
  have K1 := eqFixed_same
  go_enter Try.func55, Try.ntmps55
  go_wp2_with fail
  go_loopw [5] (fun c wr => ∃ j : Nat, j ≤ xs.length ∧ c = .int .i64 j ∧ Below w.heap.size w wr) (fun c _ => xs.length - (intOf c).toNat)
  case atStart => exact ⟨0, Nat.zero_le _, rfl, Below.refl _ _⟩
  case round =>
    obtain ⟨j, hj, rfl, hb2⟩ := hrel
    by_cases hlt : j < xs.length
    · have hlt' : (j : Int) < (xs.length : Int) := by omega
      have hx := List.getElem?_eq_getElem hlt
      obtain ⟨g, og, cs, rfl, hg, hr, hc⟩ := rows_elem (layFixedS.below HV.out hb2.drew) j _ hx
      obtain ⟨h, oh, ds, rfl, hh, hs, hd⟩ := rows_elem (layFixedS.below HU.out hb2.drew) j _ hx
      generalize xs[j] = x at hr hs
      rw [layFixed_rd] at hr hs
      subst hr hs
      obtain ⟨x0, x1⟩ := x
      have E0 : Hid (wr.drew.cell? ⟨g, og + j * 2, none⟩ = some (.int .i64 x0) ∧ wr.drew.cell? ⟨g, og + j * 2 + 1, none⟩ = some (.int .i64 x1) ∧ wr.drew.cell? ⟨h, oh + j * 2, none⟩ = some (.int .i64 x0) ∧ wr.drew.cell? ⟨h, oh + j * 2 + 1, none⟩ = some (.int .i64 x1) ∧ Below w.heap.size w wr.drew) := ⟨hc 0 _ rfl, hc 1 _ rfl, hd 0 _ rfl, hd 1 _ rfl, hb2.drew⟩
      have K2 : Hid (∀ X : World, (X.cell? ⟨g, og + j * 2, none⟩ = some (.int .i64 x0) ∧ X.cell? ⟨g, og + j * 2 + 1, none⟩ = some (.int .i64 x1) ∧ X.cell? ⟨h, oh + j * 2, none⟩ = some (.int .i64 x0) ∧ X.cell? ⟨h, oh + j * 2 + 1, none⟩ = some (.int .i64 x1) ∧ Below w.heap.size w X) → Calls Try.prog 74 #[.agg #[.int .i64 x0, .int .i64 x1], .agg #[.int .i64 x0, .int .i64 x1]] X fun e Y => e = .returned (.bool true) ∧ (Y.cell? ⟨g, og + j * 2, none⟩ = some (.int .i64 x0) ∧ Y.cell? ⟨g, og + j * 2 + 1, none⟩ = some (.int .i64 x1) ∧ Y.cell? ⟨h, oh + j * 2, none⟩ = some (.int .i64 x0) ∧ Y.cell? ⟨h, oh + j * 2 + 1, none⟩ = some (.int .i64 x1) ∧ Below w.heap.size w Y)) := fun X hX => by
        refine (K1 x0 x1 X).mono ?_
        rintro e Y ⟨rfl, hb⟩
        obtain ⟨a0, a1, a2, a3, hbX⟩ := hX
        exact ⟨rfl, by rw [hb.cell (p := ⟨g, og + j * 2, none⟩) (World.block_lt_of_cell? _ _ a0)]; exact a0, by rw [hb.cell (p := ⟨g, og + j * 2 + 1, none⟩) (World.block_lt_of_cell? _ _ a1)]; exact a1, by rw [hb.cell (p := ⟨h, oh + j * 2, none⟩) (World.block_lt_of_cell? _ _ a2)]; exact a2, by rw [hb.cell (p := ⟨h, oh + j * 2 + 1, none⟩) (World.block_lt_of_cell? _ _ a3)]; exact a3, hbX.trans (hb.mono hbX.size)⟩
      clear hc hd hx K1 hb2
      go_wp2_with fail
      go_region_held3 (fun X => X.cell? ⟨g, og + j * 2, none⟩ = some (.int .i64 x0) ∧ X.cell? ⟨g, og + j * 2 + 1, none⟩ = some (.int .i64 x1) ∧ X.cell? ⟨h, oh + j * 2, none⟩ = some (.int .i64 x0) ∧ X.cell? ⟨h, oh + j * 2 + 1, none⟩ = some (.int .i64 x1) ∧ Below w.heap.size w X) (first | (with_reducible assumption) | (with_reducible exact E0.out)) (first | (go_at_call 74; refine (K2.out _ (by assumption)).mono ?_; rintro e v1 ⟨rfl, hS⟩))
      all_goals
        have HS := Lib.hid hS.2.2.2.2
        clear hS
        go_wp2_with fail
        go_roundw
        case rel => exact ⟨j + 1, by omega, by go_num, HS.out⟩
        case measure => simp [intOf]; omega
    · have hlt' : ¬ ((j : Int) < (xs.length : Int)) := by omega
      go_wp2_with fail
      go_ret
      exact ⟨rfl, hb2⟩

theorem markFixed_eq (q : Int) (x : FixedD) : layFixed.mark q x = ((q, q + 1), q + 1 + 1) := rfl
theorem marksFixed_num (k : Int) (xs : List FixedD) : (layFixedS.mark k xs).2 = k + 2 * (xs.length : Int) := by
  show (mkAll layFixed k xs).2 = _
  induction xs generalizing k with
  | nil => simp [mkAll]
  | cons x xs ih =>
    show (mkAll layFixed (layFixed.mark k x).2 xs).2 = _
    rw [ih, markFixed_eq]
    simp only [List.length_cons]
    omega
theorem marksFixed_next (k : Int) (xs : List FixedD) (j : Nat) (x : FixedD) (hx : xs[j]? = some x) : (layFixedS.mark k (xs.take (j + 1))).1 = (layFixedS.mark k (xs.take j)).1 ++ [(layFixed.mark (k + 2 * (j : Int)) x).1] := by
  have hj : j < xs.length := (List.getElem?_eq_some_iff.1 hx).1
  have e : xs.take (j + 1) = xs.take j ++ [x] := by rw [List.take_add_one, hx]; rfl
  have h2 := marksFixed_num k (xs.take j)
  show (mkAll layFixed k _).1 = (mkAll layFixed k _).1 ++ _
  rw [e, mkAll_append]
  have h3 : (mkAll layFixed k (xs.take j)).2 = k + 2 * (j : Int) := by
    have h4 : (mkAll layFixed k (xs.take j)).2 = _ := h2
    rw [h4, List.length_take, Nat.min_eq_left (by omega)]
  rw [h3]
  rfl
theorem marksFixed_get (k : Int) (xs : List FixedD) (j : Nat) (x : FixedD) (hx : xs[j]? = some x) : (layFixedS.mark k xs).1[j]? = some (layFixed.mark (k + 2 * (j : Int)) x).1 := by
  have hj : j < xs.length := (List.getElem?_eq_some_iff.1 hx).1
  have h := marksFixed_next k xs j x hx
  have e : xs = xs.take (j + 1) ++ xs.drop (j + 1) := (List.take_append_drop _ _).symm
  have e2 : (layFixedS.mark k xs).1 = (layFixedS.mark k (xs.take (j + 1))).1 ++ (mkAll layFixed (layFixedS.mark k (xs.take (j + 1))).2 (xs.drop (j + 1))).1 := by
    conv => lhs; rw [e]
    show (mkAll layFixed k _).1 = _
    rw [mkAll_append]
    rfl
  have hl : (layFixedS.mark k (xs.take j)).1.length = j := by
    show (mkAll layFixed k _).1.length = j
    rw [mkAll_length, List.length_take]
    omega
  rw [e2, h, List.getElem?_append_left (by rw [List.length_append, hl]; simp), List.getElem?_append_right (by omega), hl, Nat.sub_self]
  rfl
end Go.Proofs.Ytphmomlgmnllkap
