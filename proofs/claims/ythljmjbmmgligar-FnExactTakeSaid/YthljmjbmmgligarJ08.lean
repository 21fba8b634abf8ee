/-
  Pending as it lies; the laws' own functions over it and over rows of it.
-/
import Derived.Test.YthljmjbmmgligarJ05
import Derived.Test.YthljmjbmmgligarJ06
import Derived.Test.YthljmjbmmgligarRows
import Derived.Deep.RegionHeld3
import Derived.BigQuiet
import Derived.Deep.QuietTactic
import Derived.Deep.DeepCutAuto
namespace Go.Proofs.Ythljmjbmmgligar
open Go.RowKit

abbrev PendingD := Int × ByteArray × Int × Int
abbrev PendingT : TypeId := 81
def layPending : Lay PendingD := Lay.pair Lay.int (Lay.pair Lay.str (Lay.pair Lay.int Lay.int))
def layPendingS : Lay (List PendingD) := .rows PendingT layPending

theorem layPending_rd {w : World} {cs : List Value} {x : PendingD} : layPending.rd w cs x ↔ cs = [.int .i64 x.1, .string x.2.1, .int .i64 x.2.2.1, .int .i64 x.2.2.2] := by
  constructor
  · rintro ⟨c0, d0, rfl, rfl, ⟨c1, d1, rfl, rfl, ⟨c2, d2, rfl, rfl, rfl⟩⟩⟩
    rfl
  · rintro rfl
    exact ⟨[_], [_, _, _], rfl, rfl, ⟨[_], [_, _], rfl, rfl, ⟨[_], [_], rfl, rfl, rfl⟩⟩⟩

theorem layPending_own {w : World} {b : Nat} {f : List Nat} {cs : List Value} {x : PendingD} : layPending.own w b f cs x ↔ f = [] ∧ cs = [.int .i64 x.1, .string x.2.1, .int .i64 x.2.2.1, .int .i64 x.2.2.2] := by
  constructor
  · rintro ⟨f0, g0, c0, d0, rfl, rfl, ⟨rfl, rfl⟩, ⟨f1, g1, c1, d1, rfl, rfl, ⟨rfl, rfl⟩, ⟨f2, g2, c2, d2, rfl, rfl, ⟨rfl, rfl⟩, ⟨rfl, rfl⟩⟩⟩⟩
    exact ⟨rfl, rfl⟩
  · rintro ⟨rfl, rfl⟩
    exact ⟨[], ([] ++ ([] ++ [])), [_], [_, _, _], rfl, rfl, ⟨rfl, rfl⟩, ⟨[], ([] ++ []), [_], [_, _], rfl, rfl, ⟨rfl, rfl⟩, ⟨[], [], [_], [_], rfl, rfl, ⟨rfl, rfl⟩, ⟨rfl, rfl⟩⟩⟩⟩

theorem zeroPending (w : World) (b : Nat) : layPending.own w b [] [.int .i64 0, .string ⟨#[]⟩, .int .i64 0, .int .i64 0] (0, ⟨#[]⟩, 0, 0) := layPending_own.2 ⟨rfl, rfl⟩
theorem zeroPending_none (w : World) (b : Nat) (f : List Nat) (c : List Value) (h : layPending.own w b f c (0, ⟨#[]⟩, 0, 0)) : f = [] := (layPending_own.1 h).1
theorem flatPending : Flat layPending := ⟨fun _ _ _ _ h => layPending_own.2 ⟨rfl, layPending_rd.1 h⟩, fun _ _ _ _ _ h => (layPending_own.1 h).1, fun _ _ _ _ h => layPending_rd.2 (layPending_rd.1 h)⟩

theorem infoPending : (Try.prog.info? 81).map (fun i => (i.zero, i.size, i.bytes)) = some (some (.agg #[.int .i64 0, .string ⟨#[]⟩, .int .i64 0, .int .i64 0]), 4, 40) := by kernel_rfl

set_option maxRecDepth 100000 in
set_option maxHeartbeats 400000 in
theorem toPending_any (x0 : Int) (x1 : ByteArray) (x2 : Int) (x3 : Int) (w : World) :
    Calls Try.prog 78 #[.agg #[.int .i64 x0, .string x1, .int .i64 x2, .int .i64 x3]] w fun e w' => e = .returned (.agg #[.int .i64 x0, .string x1, .int .i64 x2, .int .i64 x3]) ∧ Below w.heap.size w w' := by
  go_enter Try.func78, Try.ntmps78
  go_wp2_with fail
  refine bodyPost_ret (v := .agg #[.int .i64 x0, .string x1, .int .i64 x2, .int .i64 x3]) (by simp [results, Try.results78, go_sem]) rfl ⟨rfl, ?_⟩
  exact (((Below.refl w.heap.size w).alloc (Nat.le_refl _) _).alloc (by simp) _).alloc (by simp; omega) _

set_option maxRecDepth 100000 in
set_option maxHeartbeats 400000 in
theorem eqPending_same (x0 : Int) (x1 : ByteArray) (x2 : Int) (x3 : Int) (w : World) :
    Calls Try.prog 74 #[.agg #[.int .i64 x0, .string x1, .int .i64 x2, .int .i64 x3], .agg #[.int .i64 x0, .string x1, .int .i64 x2, .int .i64 x3]] w fun e w' => e = .returned (.bool true) ∧ Below w.heap.size w w' := by
  go_enter Try.func74, Try.ntmps74
  go_wp2_with fail
  go_ret
  exact ⟨rfl, ((Below.refl _ _).alloc (Nat.le_refl _) _).alloc (by simp) _⟩

set_option maxRecDepth 100000 in
set_option maxHeartbeats 800000 in
theorem toPendingS_any (v : Value) (xs : List PendingD) (hl : xs.length ≤ 1048576) (w : World) (hs : layPendingS.rd w [v] xs) :
    Calls Try.prog 51 #[v] w fun e w' => OutS layPendingS w xs e w' := by
  obtain ⟨i0, hi, hz0, hsz0, hby0⟩ := info_of infoPending
  obtain ⟨a, cap, rfl⟩ := rows_form hs
  have H1 := Lib.hid toPending_any
  have HS := Lib.hid hs
  clear hs
  go_enter Try.func51, Try.ntmps51
  go_wp2_with (at_make; refine wpList_make_full _ rfl _ _ 23 rfl w.heap.size PendingT i0 (.agg #[.int .i64 0, .string ⟨#[]⟩, .int .i64 0, .int .i64 0]) 4 Try.underlying23 hi hz0 hsz0 .i64 .i64 _ _ xs.length rfl rfl rfl rfl (by rw [hby0]; omega) (by unfold maxLen; omega) (Nat.le_refl _) ?_)
  intro w1 hown1 hg1
  have hown : layPendingS.own w1 w.heap.size [w.heap.size] [.slice (some ⟨w.heap.size, 0, none⟩) xs.length xs.length] (List.replicate xs.length (0, ⟨#[]⟩, 0, 0)) := rows_made hown1 rfl (zeroPending _ _)
  have hbel : Below w.heap.size w w1 := below_grown hg1 (fun k h => by cases h) (Nat.le_refl _)
  clear hown1 hg1
  go_wp2_with fail
  go_loopw [4] (fun c wr => ∃ (j : Nat) (fp : List Nat), j ≤ xs.length ∧ c = .int .i64 j ∧ fp.Nodup ∧ layPendingS.own wr w.heap.size fp [.slice (some ⟨w.heap.size, 0, none⟩) xs.length xs.length] (xs.take j ++ List.replicate (xs.length - j) (0, ⟨#[]⟩, 0, 0)) ∧ Below w.heap.size w wr) (fun c _ => xs.length - (intOf c).toNat)
  case atStart => exact ⟨0, [w.heap.size], Nat.zero_le _, rfl, by simp, by simpa using hown, hbel⟩
  case round =>
    obtain ⟨j, fp, hj, rfl, hdup, hown2, hb2⟩ := hrel
    have HO := Lib.hid hown2
    have HB := Lib.hid hb2
    clear hown2 hb2 hown hbel
    by_cases hlt : j < xs.length
    · have hlt' : (j : Int) < (xs.length : Int) := by omega
      have hx := List.getElem?_eq_getElem hlt
      obtain ⟨g, off, cs, rfl, hg, hr, hc⟩ := rows_elem (layPendingS.below HS.out HB.out) j _ hx
      have hta : xs.take (j + 1) = xs.take j ++ [xs[j]] := by rw [List.take_add_one, hx]; rfl
      generalize xs[j] = x at hr hta
      rw [layPending_rd] at hr
      subst hr
      obtain ⟨x0, x1, x2, x3⟩ := x
      have c0 : wr.cell? ⟨g, off + j * 4, none⟩ = some (.int .i64 x0) := hc 0 _ rfl
      have c1 : wr.cell? ⟨g, off + j * 4 + 1, none⟩ = some (.string x1) := hc 1 _ rfl
      have c2 : wr.cell? ⟨g, off + j * 4 + 2, none⟩ = some (.int .i64 x2) := hc 2 _ rfl
      have c3 : wr.cell? ⟨g, off + j * 4 + 3, none⟩ = some (.int .i64 x3) := hc 3 _ rfl
      have HTA := Lib.hid hta
      clear hta hc hx
      go_wp2_with fail
      refine (H1.out _ _ _ _ _).mono ?_
      rintro e w2 ⟨rfl, hb2⟩
      have hm : xs.length - j = (xs.length - (j + 1)) + 1 := by omega
      have hown3 := layPendingS.next HO.out hb2
      rw [hm] at hown3
      obtain ⟨g', cap', hv, hbg, hgl, ⟨zc, hzc, hcell⟩, fp', hd', _, hown4, hchg⟩ := rows_fill zeroPending_none hown3 hdup [] [.int .i64 x0, .string x1, .int .i64 x2, .int .i64 x3] (x0, x1, x2, x3) (layPending_own.2 ⟨rfl, rfl⟩) (by simp) (by simp)
      simp only [Value.slice.injEq, Option.some.injEq, Addr.mk.injEq, and_true] at hv
      obtain ⟨rfl, -, rfl⟩ := hv
      have hjl : (xs.take j).length = j := by rw [List.length_take]; omega
      rw [hjl] at hcell hown4 hchg
      rw [layPending_own] at hzc
      obtain ⟨-, rfl⟩ := hzc
      obtain ⟨e0, z0⟩ : w2.cell? ⟨w.heap.size, j * 4, none⟩ = some (.int .i64 0) ∧ w2.frozen? ⟨w.heap.size, j * 4, none⟩ = false := hcell 0 _ rfl
      obtain ⟨e1, z1⟩ : w2.cell? ⟨w.heap.size, j * 4 + 1, none⟩ = some (.string ⟨#[]⟩) ∧ w2.frozen? ⟨w.heap.size, j * 4 + 1, none⟩ = false := hcell 1 _ rfl
      obtain ⟨e2, z2⟩ : w2.cell? ⟨w.heap.size, j * 4 + 2, none⟩ = some (.int .i64 0) ∧ w2.frozen? ⟨w.heap.size, j * 4 + 2, none⟩ = false := hcell 2 _ rfl
      obtain ⟨e3, z3⟩ : w2.cell? ⟨w.heap.size, j * 4 + 3, none⟩ = some (.int .i64 0) ∧ w2.frozen? ⟨w.heap.size, j * 4 + 3, none⟩ = false := hcell 3 _ rfl
      have hbel2 := HB.out.trans (hb2.mono HB.out.size)
      have HP : Hid (layPendingS.own (setCells w2 w.heap.size (j * layPending.k) [.int .i64 x0, .string x1, .int .i64 x2, .int .i64 x3]) w.heap.size fp' [.slice (some ⟨w.heap.size, 0, none⟩) xs.length xs.length] (xs.take (j + 1) ++ List.replicate (xs.length - (j + 1)) (0, ⟨#[]⟩, 0, 0))) := by
        rw [HTA.out, List.append_assoc]
        exact hown4
      have HB3 := Lib.hid (hbel2.trans (hchg.below (by simp) hbel2.size))
      have HD := Lib.hid hd'
      clear hown3 hown4 hchg hbel2 hb2 hcell hm hjl hd' hbg hgl
      go_wp2_with fail
      go_roundw
      case rel => exact ⟨j + 1, fp', by omega, by go_num, HD.out, HP.out, HB3.out⟩
      case measure => simp [intOf]; omega
    · have hlt' : ¬ ((j : Int) < (xs.length : Int)) := by omega
      have hke : j = xs.length := by omega
      have hfin : xs.take j ++ List.replicate (xs.length - j) ((0, ⟨#[]⟩, 0, 0) : PendingD) = xs := by subst hke; simp
      have HO2 := HO.out
      rw [hfin] at HO2
      have HO3 := Lib.hid HO2
      clear HO2 HO
      go_wp2_with fail
      go_ret
      exact ⟨_, fp, rfl, hdup, HO3.out, HB.out⟩

set_option maxRecDepth 100000 in
set_option maxHeartbeats 1600000 in
theorem eqPendingS_same (v u : Value) (xs : List PendingD) (hl : xs.length ≤ 100000000) (w : World) (hv : layPendingS.rd w [v] xs) (hu : layPendingS.rd w [u] xs) :
    Calls Try.prog 33 #[v, u] w fun e w' => e = .returned (.bool true) ∧ Below w.heap.size w w' := by
  obtain ⟨ao, cp, rfl⟩ := rows_form hv
  obtain ⟨bo, dp, rfl⟩ := rows_form hu
  have HV := Lib.hid hv
  have HU := Lib.hid hu
  clear hv hu
  have K1 := eqPending_same
  go_enter Try.func33, Try.ntmps33
  go_wp2_with fail
  go_loopw [5] (fun c wr => ∃ j : Nat, j ≤ xs.length ∧ c = .int .i64 j ∧ Below w.heap.size w wr) (fun c _ => xs.length - (intOf c).toNat)
  case atStart => exact ⟨0, Nat.zero_le _, rfl, Below.refl _ _⟩
  case round =>
    obtain ⟨j, hj, rfl, hb2⟩ := hrel
    by_cases hlt : j < xs.length
    · have hlt' : (j : Int) < (xs.length : Int) := by omega
      have hx := List.getElem?_eq_getElem hlt
      obtain ⟨g, og, cs, rfl, hg, hr, hc⟩ := rows_elem (layPendingS.below HV.out hb2.drew) j _ hx
      obtain ⟨h, oh, ds, rfl, hh, hs, hd⟩ := rows_elem (layPendingS.below HU.out hb2.drew) j _ hx
      generalize xs[j] = x at hr hs
      rw [layPending_rd] at hr hs
      subst hr hs
      obtain ⟨x0, x1, x2, x3⟩ := x
      have E0 : Hid (wr.drew.cell? ⟨g, og + j * 4, none⟩ = some (.int .i64 x0) ∧ wr.drew.cell? ⟨g, og + j * 4 + 1, none⟩ = some (.string x1) ∧ wr.drew.cell? ⟨g, og + j * 4 + 2, none⟩ = some (.int .i64 x2) ∧ wr.drew.cell? ⟨g, og + j * 4 + 3, none⟩ = some (.int .i64 x3) ∧ wr.drew.cell? ⟨h, oh + j * 4, none⟩ = some (.int .i64 x0) ∧ wr.drew.cell? ⟨h, oh + j * 4 + 1, none⟩ = some (.string x1) ∧ wr.drew.cell? ⟨h, oh + j * 4 + 2, none⟩ = some (.int .i64 x2) ∧ wr.drew.cell? ⟨h, oh + j * 4 + 3, none⟩ = some (.int .i64 x3) ∧ Below w.heap.size w wr.drew) := ⟨hc 0 _ rfl, hc 1 _ rfl, hc 2 _ rfl, hc 3 _ rfl, hd 0 _ rfl, hd 1 _ rfl, hd 2 _ rfl, hd 3 _ rfl, hb2.drew⟩
      have K2 : Hid (∀ X : World, (X.cell? ⟨g, og + j * 4, none⟩ = some (.int .i64 x0) ∧ X.cell? ⟨g, og + j * 4 + 1, none⟩ = some (.string x1) ∧ X.cell? ⟨g, og + j * 4 + 2, none⟩ = some (.int .i64 x2) ∧ X.cell? ⟨g, og + j * 4 + 3, none⟩ = some (.int .i64 x3) ∧ X.cell? ⟨h, oh + j * 4, none⟩ = some (.int .i64 x0) ∧ X.cell? ⟨h, oh + j * 4 + 1, none⟩ = some (.string x1) ∧ X.cell? ⟨h, oh + j * 4 + 2, none⟩ = some (.int .i64 x2) ∧ X.cell? ⟨h, oh + j * 4 + 3, none⟩ = some (.int .i64 x3) ∧ Below w.heap.size w X) → Calls Try.prog 74 #[.agg #[.int .i64 x0, .string x1, .int .i64 x2, .int .i64 x3], .agg #[.int .i64 x0, .string x1, .int .i64 x2, .int .i64 x3]] X fun e Y => e = .returned (.bool true) ∧ (Y.cell? ⟨g, og + j * 4, none⟩ = some (.int .i64 x0) ∧ Y.cell? ⟨g, og + j * 4 + 1, none⟩ = some (.string x1) ∧ Y.cell? ⟨g, og + j * 4 + 2, none⟩ = some (.int .i64 x2) ∧ Y.cell? ⟨g, og + j * 4 + 3, none⟩ = some (.int .i64 x3) ∧ Y.cell? ⟨h, oh + j * 4, none⟩ = some (.int .i64 x0) ∧ Y.cell? ⟨h, oh + j * 4 + 1, none⟩ = some (.string x1) ∧ Y.cell? ⟨h, oh + j * 4 + 2, none⟩ = some (.int .i64 x2) ∧ Y.cell? ⟨h, oh + j * 4 + 3, none⟩ = some (.int .i64 x3) ∧ Below w.heap.size w Y)) := fun X hX => by
        refine (K1 x0 x1 x2 x3 X).mono ?_
        rintro e Y ⟨rfl, hb⟩
        obtain ⟨a0, a1, a2, a3, a4, a5, a6, a7, hbX⟩ := hX
        exact ⟨rfl, by rw [hb.cell (p := ⟨g, og + j * 4, none⟩) (World.block_lt_of_cell? _ _ a0)]; exact a0, by rw [hb.cell (p := ⟨g, og + j * 4 + 1, none⟩) (World.block_lt_of_cell? _ _ a1)]; exact a1, by rw [hb.cell (p := ⟨g, og + j * 4 + 2, none⟩) (World.block_lt_of_cell? _ _ a2)]; exact a2, by rw [hb.cell (p := ⟨g, og + j * 4 + 3, none⟩) (World.block_lt_of_cell? _ _ a3)]; exact a3, by rw [hb.cell (p := ⟨h, oh + j * 4, none⟩) (World.block_lt_of_cell? _ _ a4)]; exact a4, by rw [hb.cell (p := ⟨h, oh + j * 4 + 1, none⟩) (World.block_lt_of_cell? _ _ a5)]; exact a5, by rw [hb.cell (p := ⟨h, oh + j * 4 + 2, none⟩) (World.block_lt_of_cell? _ _ a6)]; exact a6, by rw [hb.cell (p := ⟨h, oh + j * 4 + 3, none⟩) (World.block_lt_of_cell? _ _ a7)]; exact a7, hbX.trans (hb.mono hbX.size)⟩
      clear hc hd hx K1 hb2
      go_wp2_with fail
      go_region_held3 (fun X => X.cell? ⟨g, og + j * 4, none⟩ = some (.int .i64 x0) ∧ X.cell? ⟨g, og + j * 4 + 1, none⟩ = some (.string x1) ∧ X.cell? ⟨g, og + j * 4 + 2, none⟩ = some (.int .i64 x2) ∧ X.cell? ⟨g, og + j * 4 + 3, none⟩ = some (.int .i64 x3) ∧ X.cell? ⟨h, oh + j * 4, none⟩ = some (.int .i64 x0) ∧ X.cell? ⟨h, oh + j * 4 + 1, none⟩ = some (.string x1) ∧ X.cell? ⟨h, oh + j * 4 + 2, none⟩ = some (.int .i64 x2) ∧ X.cell? ⟨h, oh + j * 4 + 3, none⟩ = some (.int .i64 x3) ∧ Below w.heap.size w X) (first | (with_reducible assumption) | (with_reducible exact E0.out)) (first | (go_at_call 74; refine (K2.out _ (by assumption)).mono ?_; rintro e v1 ⟨rfl, hS⟩))
      all_goals
        have HS := Lib.hid hS.2.2.2.2.2.2.2.2
        clear hS
        go_wp2_with fail
        go_roundw
        case rel => exact ⟨j + 1, by omega, by go_num, HS.out⟩
        case measure => simp [intOf]; omega
    · have hlt' : ¬ ((j : Int) < (xs.length : Int)) := by omega
      go_wp2_with fail
      go_ret
      exact ⟨rfl, hb2⟩

theorem markPending_eq (q : Int) (x : PendingD) : layPending.mark q x = ((q, markTxt (q + 1), q + 1 + 1, q + 1 + 1 + 1), q + 1 + 1 + 1 + 1) := rfl
theorem marksPending_num (k : Int) (xs : List PendingD) : (layPendingS.mark k xs).2 = k + 4 * (xs.length : Int) := by
  show (mkAll layPending k xs).2 = _
  induction xs generalizing k with
  | nil => simp [mkAll]
  | cons x xs ih =>
    show (mkAll layPending (layPending.mark k x).2 xs).2 = _
    rw [ih, markPending_eq]
    simp only [List.length_cons]
    omega
theorem marksPending_next (k : Int) (xs : List PendingD) (j : Nat) (x : PendingD) (hx : xs[j]? = some x) : (layPendingS.mark k (xs.take (j + 1))).1 = (layPendingS.mark k (xs.take j)).1 ++ [(layPending.mark (k + 4 * (j : Int)) x).1] := by
  have hj : j < xs.length := (List.getElem?_eq_some_iff.1 hx).1
  have e : xs.take (j + 1) = xs.take j ++ [x] := by rw [List.take_add_one, hx]; rfl
  have h2 := marksPending_num k (xs.take j)
  show (mkAll layPending k _).1 = (mkAll layPending k _).1 ++ _
  rw [e, mkAll_append]
  have h3 : (mkAll layPending k (xs.take j)).2 = k + 4 * (j : Int) := by
    have h4 : (mkAll layPending k (xs.take j)).2 = _ := h2
    rw [h4, List.length_take, Nat.min_eq_left (by omega)]
  rw [h3]
  rfl
theorem marksPending_get (k : Int) (xs : List PendingD) (j : Nat) (x : PendingD) (hx : xs[j]? = some x) : (layPendingS.mark k xs).1[j]? = some (layPending.mark (k + 4 * (j : Int)) x).1 := by
  have hj : j < xs.length := (List.getElem?_eq_some_iff.1 hx).1
  have h := marksPending_next k xs j x hx
  have e : xs = xs.take (j + 1) ++ xs.drop (j + 1) := (List.take_append_drop _ _).symm
  have e2 : (layPendingS.mark k xs).1 = (layPendingS.mark k (xs.take (j + 1))).1 ++ (mkAll layPending (layPendingS.mark k (xs.take (j + 1))).2 (xs.drop (j + 1))).1 := by
    conv => lhs; rw [e]
    show (mkAll layPending k _).1 = _
    rw [mkAll_append]
    rfl
  have hl : (layPendingS.mark k (xs.take j)).1.length = j := by
    show (mkAll layPending k _).1.length = j
    rw [mkAll_length, List.length_take]
    omega
  rw [e2, h, List.getElem?_append_left (by rw [List.length_append, hl]; simp), List.getElem?_append_right (by omega), hl, Nat.sub_self]
  rfl
set_option maxRecDepth 100000 in
set_option maxHeartbeats 1600000 in
theorem markPendingS_any (v : Value) (xs : List PendingD) (b : Nat) (fp : List Nat) (k : Int) (hk0 : 1 ≤ k) (hk1 : k ≤ 500000000) (hl : xs.length ≤ 10000000) (w : World) (hd : fp.Nodup) (ho : layPendingS.own w b fp [v] xs) :
    Calls Try.prog 37 #[v, .int .i64 k] w fun e w' => e = .returned (.int .i64 (k + 4 * (xs.length : Int))) ∧ layPendingS.own w' b fp [v] (layPendingS.mark k xs).1 ∧ Chg fp w w' := by
  obtain ⟨ao, cp, rfl⟩ := rows_form (layPendingS.read ho)
  have HO := Lib.hid ho
  have HDUP := Lib.hid hd
  clear ho hd
  have HC := Lib.hid markText_int
  go_enter Try.func37, Try.ntmps37
  go_wp2_with fail
  go_loopw [1, 5] (fun q c wr => ∃ j : Nat, j ≤ xs.length ∧ c = .int .i64 j ∧ q = .int .i64 (k + 4 * (j : Int)) ∧ layPendingS.own wr b fp [.slice ao xs.length cp] ((layPendingS.mark k (xs.take j)).1 ++ xs.drop j) ∧ Chg fp w wr) (fun _ c _ => xs.length - (intOf c).toNat)
  case atStart => exact ⟨0, Nat.zero_le _, rfl, by simp, by simpa [layPendingS, Lay.rows, mkAll] using HO.out, Chg.refl _ _⟩
  case round =>
    obtain ⟨j, hj, rfl, rfl, hown2, hg2⟩ := hrel
    have HO2 := Lib.hid hown2
    have HG := Lib.hid hg2
    clear hown2 hg2 HO
    by_cases hlt : j < xs.length
    · have hlt' : (j : Int) < (xs.length : Int) := by omega
      have hx := List.getElem?_eq_getElem hlt
      have HNEXT := Lib.hid (marksPending_next k xs j _ hx)
      have hdrop : xs.drop j = xs[j] :: xs.drop (j + 1) := List.drop_eq_getElem_cons hlt
      have hown3 := HO2.out
      rw [hdrop] at hown3
      generalize xs[j] = x at hown3 HNEXT
      obtain ⟨g, cap, f1, f2, f3, u1, c, u3, hv, rfl, Z⟩ := rows_open hown3 HDUP.out
      simp only [Value.slice.injEq] at hv
      obtain ⟨rfl, -, rfl⟩ := hv
      have hXl : (layPendingS.mark k (xs.take j)).1.length = j := by
        show (mkAll layPending k _).1.length = j
        rw [mkAll_length, List.length_take]
        omega
      obtain ⟨rfl, rfl⟩ := layPending_own.1 Z.mid
      have HXL := Lib.hid hXl
      obtain ⟨M, HM⟩ : ∃ l, Hid (l = (layPendingS.mark k (xs.take j)).1) := ⟨_, Lib.hid rfl⟩
      rw [← HM.out] at Z HXL HNEXT
      have ZZ := Lib.hid Z
      obtain ⟨x0, x1, x2, x3⟩ := x
      obtain ⟨q, hq, hq0, hq1⟩ : ∃ q : Int, k + 4 * (j : Int) = q ∧ 1 ≤ q ∧ q ≤ 600000000 := ⟨_, rfl, by omega, by omega⟩
      rw [hq] at HNEXT
      have HQ := Lib.hid hq
      rw [hq]
      clear hown3 hdrop Z hXl HO2 hx hq
      have hcell := fun t u hu => ZZ.out.cell t u hu
      rw [HXL.out] at hcell
      obtain ⟨d0, z0⟩ : wr.cell? ⟨g, j * 4, none⟩ = some (.int .i64 x0) ∧ wr.frozen? ⟨g, j * 4, none⟩ = false := hcell 0 _ rfl
      obtain ⟨d1, z1⟩ : wr.cell? ⟨g, j * 4 + 1, none⟩ = some (.string x1) ∧ wr.frozen? ⟨g, j * 4 + 1, none⟩ = false := hcell 1 _ rfl
      obtain ⟨d2, z2⟩ : wr.cell? ⟨g, j * 4 + 2, none⟩ = some (.int .i64 x2) ∧ wr.frozen? ⟨g, j * 4 + 2, none⟩ = false := hcell 2 _ rfl
      obtain ⟨d3, z3⟩ : wr.cell? ⟨g, j * 4 + 3, none⟩ = some (.int .i64 x3) ∧ wr.frozen? ⟨g, j * 4 + 3, none⟩ = false := hcell 3 _ rfl
      clear hcell
      have hst := ZZ.out.store [.int .i64 q] 0 (by simp) [] (q, x1, x2, x3) (layPending_own.2 ⟨rfl, rfl⟩) ZZ.out.dup
      rw [HXL.out] at hst
      replace ZZ := Lib.hid hst.1
      replace HG := Lib.hid (HG.out.trans (hst.2.sub (by simp)))
      clear hst
      go_wp2_with fail
      refine (HC.out (q + 1) (by omega) (by omega) _).mono ?_
      rintro e w1 ⟨rfl, hb⟩
      replace ZZ := Lib.hid (ZZ.out.next hb)
      replace HG := Lib.hid (HG.out.trans (Below.chg hb _))
      clear hb d0 z0 d1 z1 d2 z2 d3 z3
      have hcell := fun t u hu => ZZ.out.cell t u hu
      rw [HXL.out] at hcell
      obtain ⟨d0, z0⟩ : w1.cell? ⟨g, j * 4, none⟩ = some (.int .i64 q) ∧ w1.frozen? ⟨g, j * 4, none⟩ = false := hcell 0 _ rfl
      obtain ⟨d1, z1⟩ : w1.cell? ⟨g, j * 4 + 1, none⟩ = some (.string x1) ∧ w1.frozen? ⟨g, j * 4 + 1, none⟩ = false := hcell 1 _ rfl
      obtain ⟨d2, z2⟩ : w1.cell? ⟨g, j * 4 + 2, none⟩ = some (.int .i64 x2) ∧ w1.frozen? ⟨g, j * 4 + 2, none⟩ = false := hcell 2 _ rfl
      obtain ⟨d3, z3⟩ : w1.cell? ⟨g, j * 4 + 3, none⟩ = some (.int .i64 x3) ∧ w1.frozen? ⟨g, j * 4 + 3, none⟩ = false := hcell 3 _ rfl
      clear hcell
      have hst := ZZ.out.store [.string (markTxt (q + 1)), .int .i64 (q + 1 + 1), .int .i64 (q + 1 + 1 + 1)] 1 (by simp [setL]) [] (q, markTxt (q + 1), q + 1 + 1, q + 1 + 1 + 1) (layPending_own.2 ⟨rfl, rfl⟩) ZZ.out.dup
      rw [HXL.out] at hst
      replace ZZ := Lib.hid hst.1
      replace HG := Lib.hid (HG.out.trans (hst.2.sub (by simp)))
      clear hst
      have h3 := ZZ.out.shut
      have e4 : (M ++ (q, markTxt (q + 1), q + 1 + 1, q + 1 + 1 + 1) :: xs.drop (j + 1)).length = xs.length := by
        rw [List.length_append, HXL.out, List.length_cons, List.length_drop]
        omega
      have e5 : (layPendingS.mark k (xs.take (j + 1))).1 ++ xs.drop (j + 1) = M ++ (q, markTxt (q + 1), q + 1 + 1, q + 1 + 1 + 1) :: xs.drop (j + 1) := by
        rw [HNEXT.out, List.append_assoc]
        rfl
      rw [e4, ← e5] at h3
      have HP := Lib.hid h3
      clear h3 e4 e5 ZZ
      go_wp2_with fail
      go_roundw
      case rel => exact ⟨j + 1, by omega, by go_num, by have := HQ.out; go_num, HP.out, HG.out⟩
      case measure => simp [intOf]; omega
    · have hlt' : ¬ ((j : Int) < (xs.length : Int)) := by omega
      have hke : j = xs.length := by omega
      subst hke
      have HO3 := HO2.out
      rw [List.drop_length, List.append_nil, List.take_length] at HO3
      have HO4 := Lib.hid HO3
      clear HO3 HO2
      go_wp2_with fail
      go_ret
      exact ⟨rfl, HO4.out, HG.out⟩

set_option maxRecDepth 100000 in
set_option maxHeartbeats 1600000 in
theorem heldPendingS_any (v : Value) (xs : List PendingD) (k : Int) (hk0 : 1 ≤ k) (hk1 : k ≤ 500000000) (hl : xs.length ≤ 10000000) (w : World) (hr : layPendingS.rd w [v] (layPendingS.mark k xs).1) :
    Calls Try.prog 41 #[v, .int .i64 k] w fun e w' => e = .returned (.int .i64 (k + 4 * (xs.length : Int))) ∧ Below w.heap.size w w' := by
  obtain ⟨ao, cp, rfl⟩ := rows_form hr
  have hml : (layPendingS.mark k xs).1.length = xs.length := mkAll_length layPending xs k
  have HR := Lib.hid hr
  clear hr
  rw [hml] at HR ⊢
  have HC := Lib.hid markText_int
  go_enter Try.func41, Try.ntmps41
  go_wp2_with fail
  go_loopw [1, 5] (fun q c wr => ∃ j : Nat, j ≤ xs.length ∧ c = .int .i64 j ∧ q = .int .i64 (k + 4 * (j : Int)) ∧ Below w.heap.size w wr) (fun _ c _ => xs.length - (intOf c).toNat)
  case atStart => exact ⟨0, Nat.zero_le _, rfl, by simp, Below.refl _ _⟩
  case round =>
    obtain ⟨j, hj, rfl, rfl, hbr⟩ := hrel
    have HBR := Lib.hid hbr
    by_cases hlt : j < xs.length
    · have hlt' : (j : Int) < (xs.length : Int) := by omega
      obtain ⟨g, off, cs, rfl, hg, hr, hc⟩ := rows_elem (layPendingS.below HR.out hbr) j _ (marksPending_get k xs j _ (List.getElem?_eq_getElem hlt))
      obtain ⟨q, hq, hq0, hq1⟩ : ∃ q : Int, k + 4 * (j : Int) = q ∧ 1 ≤ q ∧ q ≤ 600000000 := ⟨_, rfl, by omega, by omega⟩
      rw [hq, markPending_eq, layPending_rd] at hr
      subst hr
      have E0 : Hid (wr.cell? ⟨g, off + j * 4, none⟩ = some (.int .i64 q) ∧ wr.cell? ⟨g, off + j * 4 + 1, none⟩ = some (.string (markTxt (q + 1))) ∧ wr.cell? ⟨g, off + j * 4 + 2, none⟩ = some (.int .i64 (q + 1 + 1)) ∧ wr.cell? ⟨g, off + j * 4 + 3, none⟩ = some (.int .i64 (q + 1 + 1 + 1)) ∧ Below w.heap.size w wr) := ⟨hc 0 _ rfl, hc 1 _ rfl, hc 2 _ rfl, hc 3 _ rfl, hbr⟩
      have HQ := Lib.hid hq
      rw [hq]
      clear hc hq hml hbr HBR
      obtain ⟨mt, HMT⟩ : ∃ b : ByteArray, Hid (b = markTxt (q + 1)) := ⟨_, Lib.hid rfl⟩
      rw [← HMT.out] at E0
      have E1 : Hid (wr.drew.cell? ⟨g, off + j * 4, none⟩ = some (.int .i64 q) ∧ wr.drew.cell? ⟨g, off + j * 4 + 1, none⟩ = some (.string mt) ∧ wr.drew.cell? ⟨g, off + j * 4 + 2, none⟩ = some (.int .i64 (q + 1 + 1)) ∧ wr.drew.cell? ⟨g, off + j * 4 + 3, none⟩ = some (.int .i64 (q + 1 + 1 + 1)) ∧ Below w.heap.size w wr.drew) := by
        obtain ⟨a0, a1, a2, a3, hB⟩ := E0.out
        exact ⟨a0, a1, a2, a3, hB.drew⟩
      have K2 : Hid (∀ X : World, (X.cell? ⟨g, off + j * 4, none⟩ = some (.int .i64 q) ∧ X.cell? ⟨g, off + j * 4 + 1, none⟩ = some (.string mt) ∧ X.cell? ⟨g, off + j * 4 + 2, none⟩ = some (.int .i64 (q + 1 + 1)) ∧ X.cell? ⟨g, off + j * 4 + 3, none⟩ = some (.int .i64 (q + 1 + 1 + 1)) ∧ Below w.heap.size w X) → Calls Try.prog 65 #[.int .i64 (q + 1)] X fun e Y => e = .returned (.string mt) ∧ (Y.cell? ⟨g, off + j * 4, none⟩ = some (.int .i64 q) ∧ Y.cell? ⟨g, off + j * 4 + 1, none⟩ = some (.string mt) ∧ Y.cell? ⟨g, off + j * 4 + 2, none⟩ = some (.int .i64 (q + 1 + 1)) ∧ Y.cell? ⟨g, off + j * 4 + 3, none⟩ = some (.int .i64 (q + 1 + 1 + 1)) ∧ Below w.heap.size w Y)) := fun X hX => by
        refine (HC.out (q + 1) (by omega) (by omega) X).mono ?_
        rintro e Y ⟨rfl, hb⟩
        obtain ⟨a0, a1, a2, a3, hbX⟩ := hX
        rw [HMT.out]
        exact ⟨rfl, by rw [← HMT.out]; exact ⟨(by rw [hb.cell (p := ⟨g, off + j * 4, none⟩) (World.block_lt_of_cell? _ _ a0)]; exact a0), (by rw [hb.cell (p := ⟨g, off + j * 4 + 1, none⟩) (World.block_lt_of_cell? _ _ a1)]; exact a1), (by rw [hb.cell (p := ⟨g, off + j * 4 + 2, none⟩) (World.block_lt_of_cell? _ _ a2)]; exact a2), (by rw [hb.cell (p := ⟨g, off + j * 4 + 3, none⟩) (World.block_lt_of_cell? _ _ a3)]; exact a3), hbX.trans (hb.mono hbX.size)⟩⟩
      have c0 : wr.cell? ⟨g, off + j * 4, none⟩ = some (.int .i64 q) := E0.out.1
      go_wp2_with fail
      go_region_held3 (fun X => X.cell? ⟨g, off + j * 4, none⟩ = some (.int .i64 q) ∧ X.cell? ⟨g, off + j * 4 + 1, none⟩ = some (.string mt) ∧ X.cell? ⟨g, off + j * 4 + 2, none⟩ = some (.int .i64 (q + 1 + 1)) ∧ X.cell? ⟨g, off + j * 4 + 3, none⟩ = some (.int .i64 (q + 1 + 1 + 1)) ∧ Below w.heap.size w X) (first | (with_reducible assumption) | (with_reducible exact E1.out)) (first | (go_at_call 65; refine (K2.out _ (by assumption)).mono ?_; rintro e v1 ⟨rfl, hS⟩))
      all_goals
        have HS := Lib.hid hS
        clear hS E0 E1 K2 c0
        have c2 := HS.out.2.2.1
        have c3 := HS.out.2.2.2.1
        go_wp2_with fail
        go_roundw
        case rel => exact ⟨j + 1, by omega, by go_num, by have := HQ.out; go_num, HS.out.2.2.2.2⟩
        case measure => simp [intOf]; omega
    · have hlt' : ¬ ((j : Int) < (xs.length : Int)) := by omega
      have hke : j = xs.length := by omega
      subst hke
      go_wp2_with fail
      go_ret
      exact ⟨rfl, HBR.out⟩

/-- Rows that are measured. -/
def FitsPending (xs : List PendingD) : Prop := xs.length ≤ 1048576 ∧ ∀ x ∈ xs, (x.2.1).size ≤ 1048576
def RoomPending (xs : List PendingD) : Prop := xs.length ≤ 9223372036854775807 ∧ ∀ x ∈ xs, (x.2.1).size ≤ 9223372036854775807
set_option maxRecDepth 100000 in
set_option maxHeartbeats 400000 in
theorem szPending_any (x0 : Int) (x1 : ByteArray) (x2 : Int) (x3 : Int) (left : Int) (h0 : 0 ≤ left) (h1 : left ≤ 1048576) (hl : x1.size ≤ 9223372036854775807) (w : World) :
    Calls Try.prog 76 #[.agg #[.int .i64 x0, .string x1, .int .i64 x2, .int .i64 x3], .int .i64 left] w fun e w' => e = .returned (.int .i64 (if left < (x1.size : Int) then -1 else left - (x1.size : Int))) ∧ Below w.heap.size w w' := by
  by_cases h : left < (x1.size : Int)
  · have h1 : left - (x1.size : Int) < 0 := by omega
    rw [if_pos h]
    go_enter Try.func76, Try.ntmps76
    go_wp2
    go_ret
    exact ⟨rfl, (Below.refl _ _).alloc (Nat.le_refl _) _⟩
  · have h1 : ¬ (left - (x1.size : Int) < 0) := by omega
    rw [if_neg h]
    go_enter Try.func76, Try.ntmps76
    go_wp2
    go_ret
    exact ⟨rfl, (Below.refl _ _).alloc (Nat.le_refl _) _⟩
set_option maxRecDepth 100000 in
set_option maxHeartbeats 800000 in
theorem szPendingS_any (v : Value) (xs : List PendingD) (left : Int) (h0 : 0 ≤ left) (h1 : left ≤ 1048576) (hR : RoomPending xs) (w : World) (h : layPendingS.rd w [v] xs) :
    Calls Try.prog 45 #[v, .int .i64 left] w fun e w' => SzEnd (FitsPending xs) left e ∧ Below w.heap.size w w' := by
  obtain ⟨ao, cp, rfl⟩ := rows_form h
  have HR := Lib.hid h
  have HRM := Lib.hid hR.2
  have hl := hR.1
  clear h hR
  by_cases hlen : left < (xs.length : Int)
  · have h2 : left - (xs.length : Int) < 0 := by omega
    go_enter Try.func45, Try.ntmps45
    go_wp2_with fail
    go_ret
    exact ⟨⟨_, rfl, .inl rfl⟩, Below.refl _ _⟩
  have h2 : ¬ (left - (xs.length : Int) < 0) := by omega
  go_enter Try.func45, Try.ntmps45
  go_wp2_with fail
  go_loopw [1, 5] (fun q c wr => ∃ (j : Nat) (r : Int), j ≤ xs.length ∧ c = .int .i64 j ∧ q = .int .i64 r ∧ 0 ≤ r ∧ r ≤ left ∧ Hid (∀ i, (hi : i < xs.length) → i < j → (xs[i].2.1).size ≤ 1048576) ∧ Below w.heap.size w wr) (fun _ c _ => xs.length - (intOf c).toNat)
  case atStart => exact ⟨0, _, Nat.zero_le _, rfl, rfl, by omega, by omega, fun i _ h => absurd h (by omega), Below.refl _ _⟩
  case round =>
    obtain ⟨j, r, hj, rfl, rfl, hr0, hr1, HA, hbr⟩ := hrel
    have HBR := Lib.hid hbr
    by_cases hlt : j < xs.length
    · have hlt' : (j : Int) < (xs.length : Int) := by omega
      have hx := List.getElem?_eq_getElem hlt
      have hsz := HRM.out _ (List.getElem_mem hlt)
      have HNX : Hid ((xs[j].2.1).size ≤ 1048576 → ∀ i, (hi : i < xs.length) → i < j + 1 → (xs[i].2.1).size ≤ 1048576) := fun hx i hi h => by
        rcases Nat.lt_or_ge i j with h2 | h2
        · exact HA.out i hi h2
        · have : i = j := by omega
          subst this
          exact hx
      obtain ⟨g, off, cs, rfl, hg, hr, hc⟩ := rows_elem (layPendingS.below HR.out hbr) j _ hx
      generalize xs[j] = x at hr hsz HNX
      rw [layPending_rd] at hr
      subst hr
      obtain ⟨x0, x1, x2, x3⟩ := x
      have c0 : wr.cell? ⟨g, off + j * 4, none⟩ = some (.int .i64 x0) := hc 0 _ rfl
      have c1 : wr.cell? ⟨g, off + j * 4 + 1, none⟩ = some (.string x1) := hc 1 _ rfl
      have c2 : wr.cell? ⟨g, off + j * 4 + 2, none⟩ = some (.int .i64 x2) := hc 2 _ rfl
      have c3 : wr.cell? ⟨g, off + j * 4 + 3, none⟩ = some (.int .i64 x3) := hc 3 _ rfl
      clear hc hx hbr
      simp only at hsz HNX
      by_cases hbig : r < (x1.size : Int)
      · have K := Lib.hid (szPending_any x0 x1 x2 x3 r hr0 (by omega) (by omega) wr)
        rw [if_pos hbig] at K
        go_wp2_with fail
        refine (K.out).mono ?_
        rintro e W ⟨rfl, hb⟩
        replace HBR := Lib.hid (HBR.out.trans (hb.mono HBR.out.size))
        clear hb K
        go_wp2_with fail
        go_ret
        exact ⟨⟨_, rfl, .inl rfl⟩, HBR.out⟩
      · have k1 : ¬ (r - (x1.size : Int) < 0) := by omega
        have HN2 := Lib.hid (HNX.out (by omega))
        have K := Lib.hid (szPending_any x0 x1 x2 x3 r hr0 (by omega) (by omega) wr)
        rw [if_neg hbig] at K
        go_wp2_with fail
        refine (K.out).mono ?_
        rintro e W ⟨rfl, hb⟩
        replace HBR := Lib.hid (HBR.out.trans (hb.mono HBR.out.size))
        clear hb K
        go_wp2_with fail
        go_roundw
        case rel => exact ⟨j + 1, _, by omega, by go_num, rfl, by omega, by omega, HN2, HBR.out⟩
        case measure => simp [intOf]; omega
    · have hlt' : ¬ ((j : Int) < (xs.length : Int)) := by omega
      have HALL : Hid (∀ x ∈ xs, (x.2.1).size ≤ 1048576) := fun x hx => by
        obtain ⟨i, hi, rfl⟩ := List.getElem_of_mem hx
        exact HA.out i hi (by omega)
      go_wp2_with fail
      go_ret
      exact ⟨⟨_, rfl, .inr ⟨hr0, by omega, by omega, HALL.out⟩⟩, HBR.out⟩

end Go.Proofs.Ythljmjbmmgligar
