/-
  Greeter as it lies; the laws' own functions over it and over rows of it.
-/
import Derived.Test.YtkjjdoadjhjmbauGreatDoorJ06
import Derived.Test.YtkjjdoadjhjmbauGreatDoorRows
import Derived.Deep.RegionHeld3
import Derived.BigQuiet
import Derived.Deep.QuietTactic
import Derived.Deep.DeepCutAuto
namespace Go.Proofs.YtkjjdoadjhjmbauGreatDoor
open Go.RowKit

abbrev GreeterD := Int × Int × Int × Int × Int × ByteArray × ByteArray
abbrev GreeterT : TypeId := 25
def layGreeter : Lay GreeterD := Lay.pair Lay.int (Lay.pair Lay.int (Lay.pair Lay.int (Lay.pair Lay.int (Lay.pair Lay.int (Lay.pair Lay.str Lay.str)))))
def layGreeterS : Lay (List GreeterD) := .rows GreeterT layGreeter

theorem layGreeter_rd {w : World} {cs : List Value} {x : GreeterD} : layGreeter.rd w cs x ↔ cs = [.int .i64 x.1, .int .i64 x.2.1, .int .i64 x.2.2.1, .int .i64 x.2.2.2.1, .int .i64 x.2.2.2.2.1, .string x.2.2.2.2.2.1, .string x.2.2.2.2.2.2] := by
  constructor
  · rintro ⟨c0, d0, rfl, rfl, ⟨c1, d1, rfl, rfl, ⟨c2, d2, rfl, rfl, ⟨c3, d3, rfl, rfl, ⟨c4, d4, rfl, rfl, ⟨c5, d5, rfl, rfl, rfl⟩⟩⟩⟩⟩⟩
    rfl
  · rintro rfl
    exact ⟨[_], [_, _, _, _, _, _], rfl, rfl, ⟨[_], [_, _, _, _, _], rfl, rfl, ⟨[_], [_, _, _, _], rfl, rfl, ⟨[_], [_, _, _], rfl, rfl, ⟨[_], [_, _], rfl, rfl, ⟨[_], [_], rfl, rfl, rfl⟩⟩⟩⟩⟩⟩

theorem layGreeter_own {w : World} {b : Nat} {f : List Nat} {cs : List Value} {x : GreeterD} : layGreeter.own w b f cs x ↔ f = [] ∧ cs = [.int .i64 x.1, .int .i64 x.2.1, .int .i64 x.2.2.1, .int .i64 x.2.2.2.1, .int .i64 x.2.2.2.2.1, .string x.2.2.2.2.2.1, .string x.2.2.2.2.2.2] := by
  constructor
  · rintro ⟨f0, g0, c0, d0, rfl, rfl, ⟨rfl, rfl⟩, ⟨f1, g1, c1, d1, rfl, rfl, ⟨rfl, rfl⟩, ⟨f2, g2, c2, d2, rfl, rfl, ⟨rfl, rfl⟩, ⟨f3, g3, c3, d3, rfl, rfl, ⟨rfl, rfl⟩, ⟨f4, g4, c4, d4, rfl, rfl, ⟨rfl, rfl⟩, ⟨f5, g5, c5, d5, rfl, rfl, ⟨rfl, rfl⟩, ⟨rfl, rfl⟩⟩⟩⟩⟩⟩⟩
    exact ⟨rfl, rfl⟩
  · rintro ⟨rfl, rfl⟩
    exact ⟨[], ([] ++ ([] ++ ([] ++ ([] ++ ([] ++ []))))), [_], [_, _, _, _, _, _], rfl, rfl, ⟨rfl, rfl⟩, ⟨[], ([] ++ ([] ++ ([] ++ ([] ++ [])))), [_], [_, _, _, _, _], rfl, rfl, ⟨rfl, rfl⟩, ⟨[], ([] ++ ([] ++ ([] ++ []))), [_], [_, _, _, _], rfl, rfl, ⟨rfl, rfl⟩, ⟨[], ([] ++ ([] ++ [])), [_], [_, _, _], rfl, rfl, ⟨rfl, rfl⟩, ⟨[], ([] ++ []), [_], [_, _], rfl, rfl, ⟨rfl, rfl⟩, ⟨[], [], [_], [_], rfl, rfl, ⟨rfl, rfl⟩, ⟨rfl, rfl⟩⟩⟩⟩⟩⟩⟩

theorem zeroGreeter (w : World) (b : Nat) : layGreeter.own w b [] [.int .i64 0, .int .i64 0, .int .i64 0, .int .i64 0, .int .i64 0, .string ⟨#[]⟩, .string ⟨#[]⟩] (0, 0, 0, 0, 0, ⟨#[]⟩, ⟨#[]⟩) := layGreeter_own.2 ⟨rfl, rfl⟩
theorem zeroGreeter_none (w : World) (b : Nat) (f : List Nat) (c : List Value) (h : layGreeter.own w b f c (0, 0, 0, 0, 0, ⟨#[]⟩, ⟨#[]⟩)) : f = [] := (layGreeter_own.1 h).1
theorem flatGreeter : Flat layGreeter := ⟨fun _ _ _ _ h => layGreeter_own.2 ⟨rfl, layGreeter_rd.1 h⟩, fun _ _ _ _ _ h => (layGreeter_own.1 h).1, fun _ _ _ _ h => layGreeter_rd.2 (layGreeter_rd.1 h)⟩

set_option maxRecDepth 100000 in
set_option maxHeartbeats 400000 in
theorem toGreeter_any (x0 : Int) (x1 : Int) (x2 : Int) (x3 : Int) (x4 : Int) (x5 : ByteArray) (x6 : ByteArray) (w : World) :
    Calls Tryz.prog 7 #[.agg #[.int .i64 x0, .int .i64 x1, .int .i64 x2, .int .i64 x3, .int .i64 x4, .string x5, .string x6]] w fun e w' => e = .returned (.agg #[.int .i64 x0, .int .i64 x1, .int .i64 x2, .int .i64 x3, .int .i64 x4, .string x5, .string x6]) ∧ Below w.heap.size w w' := by
  go_enter Tryz.func7, Tryz.ntmps7
  go_wp2_with fail
  refine bodyPost_ret (v := .agg #[.int .i64 x0, .int .i64 x1, .int .i64 x2, .int .i64 x3, .int .i64 x4, .string x5, .string x6]) (by simp [results, Tryz.results7, go_sem]) rfl ⟨rfl, ?_⟩
  exact (((Below.refl w.heap.size w).alloc (Nat.le_refl _) _).alloc (by simp) _).alloc (by simp; omega) _

set_option maxRecDepth 100000 in
set_option maxHeartbeats 400000 in
theorem eqGreeter_same (x0 : Int) (x1 : Int) (x2 : Int) (x3 : Int) (x4 : Int) (x5 : ByteArray) (x6 : ByteArray) (w : World) :
    Calls Tryz.prog 9 #[.agg #[.int .i64 x0, .int .i64 x1, .int .i64 x2, .int .i64 x3, .int .i64 x4, .string x5, .string x6], .agg #[.int .i64 x0, .int .i64 x1, .int .i64 x2, .int .i64 x3, .int .i64 x4, .string x5, .string x6]] w fun e w' => e = .returned (.bool true) ∧ Below w.heap.size w w' := by
  go_enter Tryz.func9, Tryz.ntmps9
  go_wp2_with fail
  go_ret
  exact ⟨rfl, ((Below.refl _ _).alloc (Nat.le_refl _) _).alloc (by simp) _⟩

set_option maxRecDepth 100000 in
set_option maxHeartbeats 1600000 in
theorem eqGreeterS_same (v u : Value) (xs : List GreeterD) (hl : xs.length ≤ 100000000) (w : World) (hv : layGreeterS.rd w [v] xs) (hu : layGreeterS.rd w [u] xs) :
    Calls Tryz.prog 15 #[v, u] w fun e w' => e = .returned (.bool true) ∧ Below w.heap.size w w' := by
  obtain ⟨ao, cp, rfl⟩ := rows_form hv
  obtain ⟨bo, dp, rfl⟩ := rows_form hu
  have HV := Lib.hid hv
  have HU := Lib.hid hu
  clear hv hu
  have K1 := eqGreeter_same
  go_enter Tryz.func15, Tryz.ntmps15
  go_wp2_with fail
  go_loopw [5] (fun c wr => ∃ j : Nat, j ≤ xs.length ∧ c = .int .i64 j ∧ Below w.heap.size w wr) (fun c _ => xs.length - (intOf c).toNat)
  case atStart => exact ⟨0, Nat.zero_le _, rfl, Below.refl _ _⟩
  case round =>
    obtain ⟨j, hj, rfl, hb2⟩ := hrel
    by_cases hlt : j < xs.length
    · have hlt' : (j : Int) < (xs.length : Int) := by omega
      have hx := List.getElem?_eq_getElem hlt
      obtain ⟨g, og, cs, rfl, hg, hr, hc⟩ := rows_elem (layGreeterS.below HV.out hb2.drew) j _ hx
      obtain ⟨h, oh, ds, rfl, hh, hs, hd⟩ := rows_elem (layGreeterS.below HU.out hb2.drew) j _ hx
      generalize xs[j] = x at hr hs
      rw [layGreeter_rd] at hr hs
      subst hr hs
      obtain ⟨x0, x1, x2, x3, x4, x5, x6⟩ := x
      have E0 : Hid (wr.drew.cell? ⟨g, og + j * 7, none⟩ = some (.int .i64 x0) ∧ wr.drew.cell? ⟨g, og + j * 7 + 1, none⟩ = some (.int .i64 x1) ∧ wr.drew.cell? ⟨g, og + j * 7 + 2, none⟩ = some (.int .i64 x2) ∧ wr.drew.cell? ⟨g, og + j * 7 + 3, none⟩ = some (.int .i64 x3) ∧ wr.drew.cell? ⟨g, og + j * 7 + 4, none⟩ = some (.int .i64 x4) ∧ wr.drew.cell? ⟨g, og + j * 7 + 5, none⟩ = some (.string x5) ∧ wr.drew.cell? ⟨g, og + j * 7 + 6, none⟩ = some (.string x6) ∧ wr.drew.cell? ⟨h, oh + j * 7, none⟩ = some (.int .i64 x0) ∧ wr.drew.cell? ⟨h, oh + j * 7 + 1, none⟩ = some (.int .i64 x1) ∧ wr.drew.cell? ⟨h, oh + j * 7 + 2, none⟩ = some (.int .i64 x2) ∧ wr.drew.cell? ⟨h, oh + j * 7 + 3, none⟩ = some (.int .i64 x3) ∧ wr.drew.cell? ⟨h, oh + j * 7 + 4, none⟩ = some (.int .i64 x4) ∧ wr.drew.cell? ⟨h, oh + j * 7 + 5, none⟩ = some (.string x5) ∧ wr.drew.cell? ⟨h, oh + j * 7 + 6, none⟩ = some (.string x6) ∧ Below w.heap.size w wr.drew) := ⟨hc 0 _ rfl, hc 1 _ rfl, hc 2 _ rfl, hc 3 _ rfl, hc 4 _ rfl, hc 5 _ rfl, hc 6 _ rfl, hd 0 _ rfl, hd 1 _ rfl, hd 2 _ rfl, hd 3 _ rfl, hd 4 _ rfl, hd 5 _ rfl, hd 6 _ rfl, hb2.drew⟩
      have K2 : Hid (∀ X : World, (X.cell? ⟨g, og + j * 7, none⟩ = some (.int .i64 x0) ∧ X.cell? ⟨g, og + j * 7 + 1, none⟩ = some (.int .i64 x1) ∧ X.cell? ⟨g, og + j * 7 + 2, none⟩ = some (.int .i64 x2) ∧ X.cell? ⟨g, og + j * 7 + 3, none⟩ = some (.int .i64 x3) ∧ X.cell? ⟨g, og + j * 7 + 4, none⟩ = some (.int .i64 x4) ∧ X.cell? ⟨g, og + j * 7 + 5, none⟩ = some (.string x5) ∧ X.cell? ⟨g, og + j * 7 + 6, none⟩ = some (.string x6) ∧ X.cell? ⟨h, oh + j * 7, none⟩ = some (.int .i64 x0) ∧ X.cell? ⟨h, oh + j * 7 + 1, none⟩ = some (.int .i64 x1) ∧ X.cell? ⟨h, oh + j * 7 + 2, none⟩ = some (.int .i64 x2) ∧ X.cell? ⟨h, oh + j * 7 + 3, none⟩ = some (.int .i64 x3) ∧ X.cell? ⟨h, oh + j * 7 + 4, none⟩ = some (.int .i64 x4) ∧ X.cell? ⟨h, oh + j * 7 + 5, none⟩ = some (.string x5) ∧ X.cell? ⟨h, oh + j * 7 + 6, none⟩ = some (.string x6) ∧ Below w.heap.size w X) → Calls Tryz.prog 9 #[.agg #[.int .i64 x0, .int .i64 x1, .int .i64 x2, .int .i64 x3, .int .i64 x4, .string x5, .string x6], .agg #[.int .i64 x0, .int .i64 x1, .int .i64 x2, .int .i64 x3, .int .i64 x4, .string x5, .string x6]] X fun e Y => e = .returned (.bool true) ∧ (Y.cell? ⟨g, og + j * 7, none⟩ = some (.int .i64 x0) ∧ Y.cell? ⟨g, og + j * 7 + 1, none⟩ = some (.int .i64 x1) ∧ Y.cell? ⟨g, og + j * 7 + 2, none⟩ = some (.int .i64 x2) ∧ Y.cell? ⟨g, og + j * 7 + 3, none⟩ = some (.int .i64 x3) ∧ Y.cell? ⟨g, og + j * 7 + 4, none⟩ = some (.int .i64 x4) ∧ Y.cell? ⟨g, og + j * 7 + 5, none⟩ = some (.string x5) ∧ Y.cell? ⟨g, og + j * 7 + 6, none⟩ = some (.string x6) ∧ Y.cell? ⟨h, oh + j * 7, none⟩ = some (.int .i64 x0) ∧ Y.cell? ⟨h, oh + j * 7 + 1, none⟩ = some (.int .i64 x1) ∧ Y.cell? ⟨h, oh + j * 7 + 2, none⟩ = some (.int .i64 x2) ∧ Y.cell? ⟨h, oh + j * 7 + 3, none⟩ = some (.int .i64 x3) ∧ Y.cell? ⟨h, oh + j * 7 + 4, none⟩ = some (.int .i64 x4) ∧ Y.cell? ⟨h, oh + j * 7 + 5, none⟩ = some (.string x5) ∧ Y.cell? ⟨h, oh + j * 7 + 6, none⟩ = some (.string x6) ∧ Below w.heap.size w Y)) := fun X hX => by
        refine (K1 x0 x1 x2 x3 x4 x5 x6 X).mono ?_
        rintro e Y ⟨rfl, hb⟩
        obtain ⟨a0, a1, a2, a3, a4, a5, a6, a7, a8, a9, a10, a11, a12, a13, hbX⟩ := hX
        exact ⟨rfl, by rw [hb.cell (p := ⟨g, og + j * 7, none⟩) (World.block_lt_of_cell? _ _ a0)]; exact a0, by rw [hb.cell (p := ⟨g, og + j * 7 + 1, none⟩) (World.block_lt_of_cell? _ _ a1)]; exact a1, by rw [hb.cell (p := ⟨g, og + j * 7 + 2, none⟩) (World.block_lt_of_cell? _ _ a2)]; exact a2, by rw [hb.cell (p := ⟨g, og + j * 7 + 3, none⟩) (World.block_lt_of_cell? _ _ a3)]; exact a3, by rw [hb.cell (p := ⟨g, og + j * 7 + 4, none⟩) (World.block_lt_of_cell? _ _ a4)]; exact a4, by rw [hb.cell (p := ⟨g, og + j * 7 + 5, none⟩) (World.block_lt_of_cell? _ _ a5)]; exact a5, by rw [hb.cell (p := ⟨g, og + j * 7 + 6, none⟩) (World.block_lt_of_cell? _ _ a6)]; exact a6, by rw [hb.cell (p := ⟨h, oh + j * 7, none⟩) (World.block_lt_of_cell? _ _ a7)]; exact a7, by rw [hb.cell (p := ⟨h, oh + j * 7 + 1, none⟩) (World.block_lt_of_cell? _ _ a8)]; exact a8, by rw [hb.cell (p := ⟨h, oh + j * 7 + 2, none⟩) (World.block_lt_of_cell? _ _ a9)]; exact a9, by rw [hb.cell (p := ⟨h, oh + j * 7 + 3, none⟩) (World.block_lt_of_cell? _ _ a10)]; exact a10, by rw [hb.cell (p := ⟨h, oh + j * 7 + 4, none⟩) (World.block_lt_of_cell? _ _ a11)]; exact a11, by rw [hb.cell (p := ⟨h, oh + j * 7 + 5, none⟩) (World.block_lt_of_cell? _ _ a12)]; exact a12, by rw [hb.cell (p := ⟨h, oh + j * 7 + 6, none⟩) (World.block_lt_of_cell? _ _ a13)]; exact a13, hbX.trans (hb.mono hbX.size)⟩
      clear hc hd hx K1 hb2
      go_wp2_with fail
      go_region_held3 (fun X => X.cell? ⟨g, og + j * 7, none⟩ = some (.int .i64 x0) ∧ X.cell? ⟨g, og + j * 7 + 1, none⟩ = some (.int .i64 x1) ∧ X.cell? ⟨g, og + j * 7 + 2, none⟩ = some (.int .i64 x2) ∧ X.cell? ⟨g, og + j * 7 + 3, none⟩ = some (.int .i64 x3) ∧ X.cell? ⟨g, og + j * 7 + 4, none⟩ = some (.int .i64 x4) ∧ X.cell? ⟨g, og + j * 7 + 5, none⟩ = some (.string x5) ∧ X.cell? ⟨g, og + j * 7 + 6, none⟩ = some (.string x6) ∧ X.cell? ⟨h, oh + j * 7, none⟩ = some (.int .i64 x0) ∧ X.cell? ⟨h, oh + j * 7 + 1, none⟩ = some (.int .i64 x1) ∧ X.cell? ⟨h, oh + j * 7 + 2, none⟩ = some (.int .i64 x2) ∧ X.cell? ⟨h, oh + j * 7 + 3, none⟩ = some (.int .i64 x3) ∧ X.cell? ⟨h, oh + j * 7 + 4, none⟩ = some (.int .i64 x4) ∧ X.cell? ⟨h, oh + j * 7 + 5, none⟩ = some (.string x5) ∧ X.cell? ⟨h, oh + j * 7 + 6, none⟩ = some (.string x6) ∧ Below w.heap.size w X) (first | (with_reducible assumption) | (with_reducible exact E0.out)) (first | (go_at_call 9; refine (K2.out _ (by assumption)).mono ?_; rintro e v1 ⟨rfl, hS⟩))
      all_goals
        have HS := Lib.hid hS.2.2.2.2.2.2.2.2.2.2.2.2.2.2
        clear hS
        go_wp2_with fail
        go_roundw
        case rel => exact ⟨j + 1, by omega, by go_num, HS.out⟩
        case measure => simp [intOf]; omega
    · have hlt' : ¬ ((j : Int) < (xs.length : Int)) := by omega
      go_wp2_with fail
      go_ret
      exact ⟨rfl, hb2⟩

theorem markGreeter_eq (q : Int) (x : GreeterD) : layGreeter.mark q x = ((q, q + 1, q + 1 + 1, q + 1 + 1 + 1, q + 1 + 1 + 1 + 1, markTxt (q + 1 + 1 + 1 + 1 + 1), markTxt (q + 1 + 1 + 1 + 1 + 1 + 1)), q + 1 + 1 + 1 + 1 + 1 + 1 + 1) := rfl
theorem marksGreeter_num (k : Int) (xs : List GreeterD) : (layGreeterS.mark k xs).2 = k + 7 * (xs.length : Int) := by
  show (mkAll layGreeter k xs).2 = _
  induction xs generalizing k with
  | nil => simp [mkAll]
  | cons x xs ih =>
    show (mkAll layGreeter (layGreeter.mark k x).2 xs).2 = _
    rw [ih, markGreeter_eq]
    simp only [List.length_cons]
    omega
theorem marksGreeter_next (k : Int) (xs : List GreeterD) (j : Nat) (x : GreeterD) (hx : xs[j]? = some x) : (layGreeterS.mark k (xs.take (j + 1))).1 = (layGreeterS.mark k (xs.take j)).1 ++ [(layGreeter.mark (k + 7 * (j : Int)) x).1] := by
  have hj : j < xs.length := (List.getElem?_eq_some_iff.1 hx).1
  have e : xs.take (j + 1) = xs.take j ++ [x] := by rw [List.take_add_one, hx]; rfl
  have h2 := marksGreeter_num k (xs.take j)
  show (mkAll layGreeter k _).1 = (mkAll layGreeter k _).1 ++ _
  rw [e, mkAll_append]
  have h3 : (mkAll layGreeter k (xs.take j)).2 = k + 7 * (j : Int) := by
    have h4 : (mkAll layGreeter k (xs.take j)).2 = _ := h2
    rw [h4, List.length_take, Nat.min_eq_left (by omega)]
  rw [h3]
  rfl
theorem marksGreeter_get (k : Int) (xs : List GreeterD) (j : Nat) (x : GreeterD) (hx : xs[j]? = some x) : (layGreeterS.mark k xs).1[j]? = some (layGreeter.mark (k + 7 * (j : Int)) x).1 := by
  have hj : j < xs.length := (List.getElem?_eq_some_iff.1 hx).1
  have h := marksGreeter_next k xs j x hx
  have e : xs = xs.take (j + 1) ++ xs.drop (j + 1) := (List.take_append_drop _ _).symm
  have e2 : (layGreeterS.mark k xs).1 = (layGreeterS.mark k (xs.take (j + 1))).1 ++ (mkAll layGreeter (layGreeterS.mark k (xs.take (j + 1))).2 (xs.drop (j + 1))).1 := by
    conv => lhs; rw [e]
    show (mkAll layGreeter k _).1 = _
    rw [mkAll_append]
    rfl
  have hl : (layGreeterS.mark k (xs.take j)).1.length = j := by
    show (mkAll layGreeter k _).1.length = j
    rw [mkAll_length, List.length_take]
    omega
  rw [e2, h, List.getElem?_append_left (by rw [List.length_append, hl]; simp), List.getElem?_append_right (by omega), hl, Nat.sub_self]
  rfl
set_option maxRecDepth 100000 in
set_option maxHeartbeats 1600000 in
theorem markGreeterS_any (v : Value) (xs : List GreeterD) (b : Nat) (fp : List Nat) (k : Int) (hk0 : 1 ≤ k) (hk1 : k ≤ 500000000) (hl : xs.length ≤ 10000000) (w : World) (hd : fp.Nodup) (ho : layGreeterS.own w b fp [v] xs) :
    Calls Tryz.prog 20 #[v, .int .i64 k] w fun e w' => e = .returned (.int .i64 (k + 7 * (xs.length : Int))) ∧ layGreeterS.own w' b fp [v] (layGreeterS.mark k xs).1 ∧ Chg fp w w' := by
  obtain ⟨ao, cp, rfl⟩ := rows_form (layGreeterS.read ho)
  have HO := Lib.hid ho
  have HDUP := Lib.hid hd
  clear ho hd
  have HC := Lib.hid markText_int
  go_enter Tryz.func20, Tryz.ntmps20
  go_wp2_with fail
  go_loopw [1, 5] (fun q c wr => ∃ j : Nat, j ≤ xs.length ∧ c = .int .i64 j ∧ q = .int .i64 (k + 7 * (j : Int)) ∧ layGreeterS.own wr b fp [.slice ao xs.length cp] ((layGreeterS.mark k (xs.take j)).1 ++ xs.drop j) ∧ Chg fp w wr) (fun _ c _ => xs.length - (intOf c).toNat)
  case atStart => exact ⟨0, Nat.zero_le _, rfl, by simp, by simpa [layGreeterS, Lay.rows, mkAll] using HO.out, Chg.refl _ _⟩
  case round =>
    obtain ⟨j, hj, rfl, rfl, hown2, hg2⟩ := hrel
    have HO2 := Lib.hid hown2
    have HG := Lib.hid hg2
    clear hown2 hg2 HO
    by_cases hlt : j < xs.length
    · have hlt' : (j : Int) < (xs.length : Int) := by omega
      have hx := List.getElem?_eq_getElem hlt
      have HNEXT := Lib.hid (marksGreeter_next k xs j _ hx)
      have hdrop : xs.drop j = xs[j] :: xs.drop (j + 1) := List.drop_eq_getElem_cons hlt
      have hown3 := HO2.out
      rw [hdrop] at hown3
      generalize xs[j] = x at hown3 HNEXT
      obtain ⟨g, cap, f1, f2, f3, u1, c, u3, hv, rfl, Z⟩ := rows_open hown3 HDUP.out
      simp only [Value.slice.injEq] at hv
      obtain ⟨rfl, -, rfl⟩ := hv
      have hXl : (layGreeterS.mark k (xs.take j)).1.length = j := by
        show (mkAll layGreeter k _).1.length = j
        rw [mkAll_length, List.length_take]
        omega
      obtain ⟨rfl, rfl⟩ := layGreeter_own.1 Z.mid
      have HXL := Lib.hid hXl
      obtain ⟨M, HM⟩ : ∃ l, Hid (l = (layGreeterS.mark k (xs.take j)).1) := ⟨_, Lib.hid rfl⟩
      rw [← HM.out] at Z HXL HNEXT
      have ZZ := Lib.hid Z
      obtain ⟨x0, x1, x2, x3, x4, x5, x6⟩ := x
      obtain ⟨q, hq, hq0, hq1⟩ : ∃ q : Int, k + 7 * (j : Int) = q ∧ 1 ≤ q ∧ q ≤ 600000000 := ⟨_, rfl, by omega, by omega⟩
      rw [hq] at HNEXT
      have HQ := Lib.hid hq
      rw [hq]
      clear hown3 hdrop Z hXl HO2 hx hq
      have hcell := fun t u hu => ZZ.out.cell t u hu
      rw [HXL.out] at hcell
      obtain ⟨d0, z0⟩ : wr.cell? ⟨g, j * 7, none⟩ = some (.int .i64 x0) ∧ wr.frozen? ⟨g, j * 7, none⟩ = false := hcell 0 _ rfl
      obtain ⟨d1, z1⟩ : wr.cell? ⟨g, j * 7 + 1, none⟩ = some (.int .i64 x1) ∧ wr.frozen? ⟨g, j * 7 + 1, none⟩ = false := hcell 1 _ rfl
      obtain ⟨d2, z2⟩ : wr.cell? ⟨g, j * 7 + 2, none⟩ = some (.int .i64 x2) ∧ wr.frozen? ⟨g, j * 7 + 2, none⟩ = false := hcell 2 _ rfl
      obtain ⟨d3, z3⟩ : wr.cell? ⟨g, j * 7 + 3, none⟩ = some (.int .i64 x3) ∧ wr.frozen? ⟨g, j * 7 + 3, none⟩ = false := hcell 3 _ rfl
      obtain ⟨d4, z4⟩ : wr.cell? ⟨g, j * 7 + 4, none⟩ = some (.int .i64 x4) ∧ wr.frozen? ⟨g, j * 7 + 4, none⟩ = false := hcell 4 _ rfl
      obtain ⟨d5, z5⟩ : wr.cell? ⟨g, j * 7 + 5, none⟩ = some (.string x5) ∧ wr.frozen? ⟨g, j * 7 + 5, none⟩ = false := hcell 5 _ rfl
      obtain ⟨d6, z6⟩ : wr.cell? ⟨g, j * 7 + 6, none⟩ = some (.string x6) ∧ wr.frozen? ⟨g, j * 7 + 6, none⟩ = false := hcell 6 _ rfl
      clear hcell
      have hst := ZZ.out.store [.int .i64 q, .int .i64 (q + 1), .int .i64 (q + 1 + 1), .int .i64 (q + 1 + 1 + 1), .int .i64 (q + 1 + 1 + 1 + 1)] 0 (by simp) [] (q, q + 1, q + 1 + 1, q + 1 + 1 + 1, q + 1 + 1 + 1 + 1, x5, x6) (layGreeter_own.2 ⟨rfl, rfl⟩) ZZ.out.dup
      rw [HXL.out] at hst
      replace ZZ := Lib.hid hst.1
      replace HG := Lib.hid (HG.out.trans (hst.2.sub (by simp)))
      clear hst
      go_wp2_with fail
      refine (HC.out (q + 1 + 1 + 1 + 1 + 1) (by omega) (by omega) _).mono ?_
      rintro e w1 ⟨rfl, hb⟩
      replace ZZ := Lib.hid (ZZ.out.next hb)
      replace HG := Lib.hid (HG.out.trans (Below.chg hb _))
      clear hb d0 z0 d1 z1 d2 z2 d3 z3 d4 z4 d5 z5 d6 z6
      have hcell := fun t u hu => ZZ.out.cell t u hu
      rw [HXL.out] at hcell
      obtain ⟨d0, z0⟩ : w1.cell? ⟨g, j * 7, none⟩ = some (.int .i64 q) ∧ w1.frozen? ⟨g, j * 7, none⟩ = false := hcell 0 _ rfl
      obtain ⟨d1, z1⟩ : w1.cell? ⟨g, j * 7 + 1, none⟩ = some (.int .i64 (q + 1)) ∧ w1.frozen? ⟨g, j * 7 + 1, none⟩ = false := hcell 1 _ rfl
      obtain ⟨d2, z2⟩ : w1.cell? ⟨g, j * 7 + 2, none⟩ = some (.int .i64 (q + 1 + 1)) ∧ w1.frozen? ⟨g, j * 7 + 2, none⟩ = false := hcell 2 _ rfl
      obtain ⟨d3, z3⟩ : w1.cell? ⟨g, j * 7 + 3, none⟩ = some (.int .i64 (q + 1 + 1 + 1)) ∧ w1.frozen? ⟨g, j * 7 + 3, none⟩ = false := hcell 3 _ rfl
      obtain ⟨d4, z4⟩ : w1.cell? ⟨g, j * 7 + 4, none⟩ = some (.int .i64 (q + 1 + 1 + 1 + 1)) ∧ w1.frozen? ⟨g, j * 7 + 4, none⟩ = false := hcell 4 _ rfl
      obtain ⟨d5, z5⟩ : w1.cell? ⟨g, j * 7 + 5, none⟩ = some (.string x5) ∧ w1.frozen? ⟨g, j * 7 + 5, none⟩ = false := hcell 5 _ rfl
      obtain ⟨d6, z6⟩ : w1.cell? ⟨g, j * 7 + 6, none⟩ = some (.string x6) ∧ w1.frozen? ⟨g, j * 7 + 6, none⟩ = false := hcell 6 _ rfl
      clear hcell
      have hst := ZZ.out.store [.string (markTxt (q + 1 + 1 + 1 + 1 + 1))] 5 (by simp [setL]) [] (q, q + 1, q + 1 + 1, q + 1 + 1 + 1, q + 1 + 1 + 1 + 1, markTxt (q + 1 + 1 + 1 + 1 + 1), x6) (layGreeter_own.2 ⟨rfl, rfl⟩) ZZ.out.dup
      rw [HXL.out] at hst
      replace ZZ := Lib.hid hst.1
      replace HG := Lib.hid (HG.out.trans (hst.2.sub (by simp)))
      clear hst
      go_wp2_with fail
      refine (HC.out (q + 1 + 1 + 1 + 1 + 1 + 1) (by omega) (by omega) _).mono ?_
      rintro e w2 ⟨rfl, hb⟩
      replace ZZ := Lib.hid (ZZ.out.next hb)
      replace HG := Lib.hid (HG.out.trans (Below.chg hb _))
      clear hb d0 z0 d1 z1 d2 z2 d3 z3 d4 z4 d5 z5 d6 z6
      have hcell := fun t u hu => ZZ.out.cell t u hu
      rw [HXL.out] at hcell
      obtain ⟨d0, z0⟩ : w2.cell? ⟨g, j * 7, none⟩ = some (.int .i64 q) ∧ w2.frozen? ⟨g, j * 7, none⟩ = false := hcell 0 _ rfl
      obtain ⟨d1, z1⟩ : w2.cell? ⟨g, j * 7 + 1, none⟩ = some (.int .i64 (q + 1)) ∧ w2.frozen? ⟨g, j * 7 + 1, none⟩ = false := hcell 1 _ rfl
      obtain ⟨d2, z2⟩ : w2.cell? ⟨g, j * 7 + 2, none⟩ = some (.int .i64 (q + 1 + 1)) ∧ w2.frozen? ⟨g, j * 7 + 2, none⟩ = false := hcell 2 _ rfl
      obtain ⟨d3, z3⟩ : w2.cell? ⟨g, j * 7 + 3, none⟩ = some (.int .i64 (q + 1 + 1 + 1)) ∧ w2.frozen? ⟨g, j * 7 + 3, none⟩ = false := hcell 3 _ rfl
      obtain ⟨d4, z4⟩ : w2.cell? ⟨g, j * 7 + 4, none⟩ = some (.int .i64 (q + 1 + 1 + 1 + 1)) ∧ w2.frozen? ⟨g, j * 7 + 4, none⟩ = false := hcell 4 _ rfl
      obtain ⟨d5, z5⟩ : w2.cell? ⟨g, j * 7 + 5, none⟩ = some (.string (markTxt (q + 1 + 1 + 1 + 1 + 1))) ∧ w2.frozen? ⟨g, j * 7 + 5, none⟩ = false := hcell 5 _ rfl
      obtain ⟨d6, z6⟩ : w2.cell? ⟨g, j * 7 + 6, none⟩ = some (.string x6) ∧ w2.frozen? ⟨g, j * 7 + 6, none⟩ = false := hcell 6 _ rfl
      clear hcell
      have hst := ZZ.out.store [.string (markTxt (q + 1 + 1 + 1 + 1 + 1 + 1))] 6 (by simp [setL]) [] (q, q + 1, q + 1 + 1, q + 1 + 1 + 1, q + 1 + 1 + 1 + 1, markTxt (q + 1 + 1 + 1 + 1 + 1), markTxt (q + 1 + 1 + 1 + 1 + 1 + 1)) (layGreeter_own.2 ⟨rfl, rfl⟩) ZZ.out.dup
      rw [HXL.out] at hst
      replace ZZ := Lib.hid hst.1
      replace HG := Lib.hid (HG.out.trans (hst.2.sub (by simp)))
      clear hst
      have h3 := ZZ.out.shut
      have e4 : (M ++ (q, q + 1, q + 1 + 1, q + 1 + 1 + 1, q + 1 + 1 + 1 + 1, markTxt (q + 1 + 1 + 1 + 1 + 1), markTxt (q + 1 + 1 + 1 + 1 + 1 + 1)) :: xs.drop (j + 1)).length = xs.length := by
        rw [List.length_append, HXL.out, List.length_cons, List.length_drop]
        omega
      have e5 : (layGreeterS.mark k (xs.take (j + 1))).1 ++ xs.drop (j + 1) = M ++ (q, q + 1, q + 1 + 1, q + 1 + 1 + 1, q + 1 + 1 + 1 + 1, markTxt (q + 1 + 1 + 1 + 1 + 1), markTxt (q + 1 + 1 + 1 + 1 + 1 + 1)) :: xs.drop (j + 1) := by
        rw [HNEXT.out, List.append_assoc]
        rfl
      rw [e4, ← e5] at h3
      have HP := Lib.hid h3
      clear h3 e4 e5 ZZ
      go_wp2_with fail
      go_roundw
      case rel => exact ⟨j + 1, by omega, by go_num, by have := HQ.out; go_num, HP.out, HG.out⟩
      case measure => simp [intOf]; omega
    · have hlt' : ¬ ((j : Int) < (xs.length : Int)) := by omega
      have hke : j = xs.length := by omega
      subst hke
      have HO3 := HO2.out
      rw [List.drop_length, List.append_nil, List.take_length] at HO3
      have HO4 := Lib.hid HO3
      clear HO3 HO2
      go_wp2_with fail
      go_ret
      exact ⟨rfl, HO4.out, HG.out⟩

set_option maxRecDepth 100000 in
set_option maxHeartbeats 1600000 in
theorem heldGreeterS_any (v : Value) (xs : List GreeterD) (k : Int) (hk0 : 1 ≤ k) (hk1 : k ≤ 500000000) (hl : xs.length ≤ 10000000) (w : World) (hr : layGreeterS.rd w [v] (layGreeterS.mark k xs).1) :
    Calls Tryz.prog 21 #[v, .int .i64 k] w fun e w' => e = .returned (.int .i64 (k + 7 * (xs.length : Int))) ∧ Below w.heap.size w w' := by
  obtain ⟨ao, cp, rfl⟩ := rows_form hr
  have hml : (layGreeterS.mark k xs).1.length = xs.length := mkAll_length layGreeter xs k
  have HR := Lib.hid hr
  clear hr
  rw [hml] at HR ⊢
  have HC := Lib.hid markText_int
  go_enter Tryz.func21, Tryz.ntmps21
  go_wp2_with fail
  go_loopw [1, 5] (fun q c wr => ∃ j : Nat, j ≤ xs.length ∧ c = .int .i64 j ∧ q = .int .i64 (k + 7 * (j : Int)) ∧ Below w.heap.size w wr) (fun _ c _ => xs.length - (intOf c).toNat)
  case atStart => exact ⟨0, Nat.zero_le _, rfl, by simp, Below.refl _ _⟩
  case round =>
    obtain ⟨j, hj, rfl, rfl, hbr⟩ := hrel
    have HBR := Lib.hid hbr
    by_cases hlt : j < xs.length
    · have hlt' : (j : Int) < (xs.length : Int) := by omega
      obtain ⟨g, off, cs, rfl, hg, hr, hc⟩ := rows_elem (layGreeterS.below HR.out hbr) j _ (marksGreeter_get k xs j _ (List.getElem?_eq_getElem hlt))
      obtain ⟨q, hq, hq0, hq1⟩ : ∃ q : Int, k + 7 * (j : Int) = q ∧ 1 ≤ q ∧ q ≤ 600000000 := ⟨_, rfl, by omega, by omega⟩
      rw [hq, markGreeter_eq, layGreeter_rd] at hr
      subst hr
      have E0 : Hid (wr.cell? ⟨g, off + j * 7, none⟩ = some (.int .i64 q) ∧ wr.cell? ⟨g, off + j * 7 + 1, none⟩ = some (.int .i64 (q + 1)) ∧ wr.cell? ⟨g, off + j * 7 + 2, none⟩ = some (.int .i64 (q + 1 + 1)) ∧ wr.cell? ⟨g, off + j * 7 + 3, none⟩ = some (.int .i64 (q + 1 + 1 + 1)) ∧ wr.cell? ⟨g, off + j * 7 + 4, none⟩ = some (.int .i64 (q + 1 + 1 + 1 + 1)) ∧ wr.cell? ⟨g, off + j * 7 + 5, none⟩ = some (.string (markTxt (q + 1 + 1 + 1 + 1 + 1))) ∧ wr.cell? ⟨g, off + j * 7 + 6, none⟩ = some (.string (markTxt (q + 1 + 1 + 1 + 1 + 1 + 1))) ∧ Below w.heap.size w wr) := ⟨hc 0 _ rfl, hc 1 _ rfl, hc 2 _ rfl, hc 3 _ rfl, hc 4 _ rfl, hc 5 _ rfl, hc 6 _ rfl, hbr⟩
      have HQ := Lib.hid hq
      rw [hq]
      clear hc hq hml hbr HBR
      obtain ⟨mt, HMT⟩ : ∃ b : ByteArray, Hid (b = markTxt (q + 1 + 1 + 1 + 1 + 1)) := ⟨_, Lib.hid rfl⟩
      rw [← HMT.out] at E0
      have E1 : Hid (wr.drew.cell? ⟨g, off + j * 7, none⟩ = some (.int .i64 q) ∧ wr.drew.cell? ⟨g, off + j * 7 + 1, none⟩ = some (.int .i64 (q + 1)) ∧ wr.drew.cell? ⟨g, off + j * 7 + 2, none⟩ = some (.int .i64 (q + 1 + 1)) ∧ wr.drew.cell? ⟨g, off + j * 7 + 3, none⟩ = some (.int .i64 (q + 1 + 1 + 1)) ∧ wr.drew.cell? ⟨g, off + j * 7 + 4, none⟩ = some (.int .i64 (q + 1 + 1 + 1 + 1)) ∧ wr.drew.cell? ⟨g, off + j * 7 + 5, none⟩ = some (.string mt) ∧ wr.drew.cell? ⟨g, off + j * 7 + 6, none⟩ = some (.string (markTxt (q + 1 + 1 + 1 + 1 + 1 + 1))) ∧ Below w.heap.size w wr.drew) := by
        obtain ⟨a0, a1, a2, a3, a4, a5, a6, hB⟩ := E0.out
        exact ⟨a0, a1, a2, a3, a4, a5, a6, hB.drew⟩
      have K2 : Hid (∀ X : World, (X.cell? ⟨g, off + j * 7, none⟩ = some (.int .i64 q) ∧ X.cell? ⟨g, off + j * 7 + 1, none⟩ = some (.int .i64 (q + 1)) ∧ X.cell? ⟨g, off + j * 7 + 2, none⟩ = some (.int .i64 (q + 1 + 1)) ∧ X.cell? ⟨g, off + j * 7 + 3, none⟩ = some (.int .i64 (q + 1 + 1 + 1)) ∧ X.cell? ⟨g, off + j * 7 + 4, none⟩ = some (.int .i64 (q + 1 + 1 + 1 + 1)) ∧ X.cell? ⟨g, off + j * 7 + 5, none⟩ = some (.string mt) ∧ X.cell? ⟨g, off + j * 7 + 6, none⟩ = some (.string (markTxt (q + 1 + 1 + 1 + 1 + 1 + 1))) ∧ Below w.heap.size w X) → Calls Tryz.prog 40 #[.int .i64 (q + 1 + 1 + 1 + 1 + 1)] X fun e Y => e = .returned (.string mt) ∧ (Y.cell? ⟨g, off + j * 7, none⟩ = some (.int .i64 q) ∧ Y.cell? ⟨g, off + j * 7 + 1, none⟩ = some (.int .i64 (q + 1)) ∧ Y.cell? ⟨g, off + j * 7 + 2, none⟩ = some (.int .i64 (q + 1 + 1)) ∧ Y.cell? ⟨g, off + j * 7 + 3, none⟩ = some (.int .i64 (q + 1 + 1 + 1)) ∧ Y.cell? ⟨g, off + j * 7 + 4, none⟩ = some (.int .i64 (q + 1 + 1 + 1 + 1)) ∧ Y.cell? ⟨g, off + j * 7 + 5, none⟩ = some (.string mt) ∧ Y.cell? ⟨g, off + j * 7 + 6, none⟩ = some (.string (markTxt (q + 1 + 1 + 1 + 1 + 1 + 1))) ∧ Below w.heap.size w Y)) := fun X hX => by
        refine (HC.out (q + 1 + 1 + 1 + 1 + 1) (by omega) (by omega) X).mono ?_
        rintro e Y ⟨rfl, hb⟩
        obtain ⟨a0, a1, a2, a3, a4, a5, a6, hbX⟩ := hX
        rw [HMT.out]
        exact ⟨rfl, by rw [← HMT.out]; exact ⟨(by rw [hb.cell (p := ⟨g, off + j * 7, none⟩) (World.block_lt_of_cell? _ _ a0)]; exact a0), (by rw [hb.cell (p := ⟨g, off + j * 7 + 1, none⟩) (World.block_lt_of_cell? _ _ a1)]; exact a1), (by rw [hb.cell (p := ⟨g, off + j * 7 + 2, none⟩) (World.block_lt_of_cell? _ _ a2)]; exact a2), (by rw [hb.cell (p := ⟨g, off + j * 7 + 3, none⟩) (World.block_lt_of_cell? _ _ a3)]; exact a3), (by rw [hb.cell (p := ⟨g, off + j * 7 + 4, none⟩) (World.block_lt_of_cell? _ _ a4)]; exact a4), (by rw [hb.cell (p := ⟨g, off + j * 7 + 5, none⟩) (World.block_lt_of_cell? _ _ a5)]; exact a5), (by rw [hb.cell (p := ⟨g, off + j * 7 + 6, none⟩) (World.block_lt_of_cell? _ _ a6)]; exact a6), hbX.trans (hb.mono hbX.size)⟩⟩
      have c0 : wr.cell? ⟨g, off + j * 7, none⟩ = some (.int .i64 q) := E0.out.1
      have c1 : wr.cell? ⟨g, off + j * 7 + 1, none⟩ = some (.int .i64 (q + 1)) := E0.out.2.1
      have c2 : wr.cell? ⟨g, off + j * 7 + 2, none⟩ = some (.int .i64 (q + 1 + 1)) := E0.out.2.2.1
      have c3 : wr.cell? ⟨g, off + j * 7 + 3, none⟩ = some (.int .i64 (q + 1 + 1 + 1)) := E0.out.2.2.2.1
      have c4 : wr.cell? ⟨g, off + j * 7 + 4, none⟩ = some (.int .i64 (q + 1 + 1 + 1 + 1)) := E0.out.2.2.2.2.1
      go_wp2_with fail
      go_region_held3 (fun X => X.cell? ⟨g, off + j * 7, none⟩ = some (.int .i64 q) ∧ X.cell? ⟨g, off + j * 7 + 1, none⟩ = some (.int .i64 (q + 1)) ∧ X.cell? ⟨g, off + j * 7 + 2, none⟩ = some (.int .i64 (q + 1 + 1)) ∧ X.cell? ⟨g, off + j * 7 + 3, none⟩ = some (.int .i64 (q + 1 + 1 + 1)) ∧ X.cell? ⟨g, off + j * 7 + 4, none⟩ = some (.int .i64 (q + 1 + 1 + 1 + 1)) ∧ X.cell? ⟨g, off + j * 7 + 5, none⟩ = some (.string mt) ∧ X.cell? ⟨g, off + j * 7 + 6, none⟩ = some (.string (markTxt (q + 1 + 1 + 1 + 1 + 1 + 1))) ∧ Below w.heap.size w X) (first | (with_reducible assumption) | (with_reducible exact E1.out)) (first | (go_at_call 40; refine (K2.out _ (by assumption)).mono ?_; rintro e v1 ⟨rfl, hS⟩))
      all_goals
        have HS := Lib.hid hS
        clear hS E0 E1 K2 c0 c1 c2 c3 c4
        rw [HMT.out] at HS
        have E0 := HS
        clear HS
        obtain ⟨mu, HMU⟩ : ∃ b : ByteArray, Hid (b = markTxt (q + 1 + 1 + 1 + 1 + 1 + 1)) := ⟨_, Lib.hid rfl⟩
        rw [← HMU.out] at E0
        have E1 : Hid (v1.drew.cell? ⟨g, off + j * 7, none⟩ = some (.int .i64 q) ∧ v1.drew.cell? ⟨g, off + j * 7 + 1, none⟩ = some (.int .i64 (q + 1)) ∧ v1.drew.cell? ⟨g, off + j * 7 + 2, none⟩ = some (.int .i64 (q + 1 + 1)) ∧ v1.drew.cell? ⟨g, off + j * 7 + 3, none⟩ = some (.int .i64 (q + 1 + 1 + 1)) ∧ v1.drew.cell? ⟨g, off + j * 7 + 4, none⟩ = some (.int .i64 (q + 1 + 1 + 1 + 1)) ∧ v1.drew.cell? ⟨g, off + j * 7 + 5, none⟩ = some (.string (markTxt (q + 1 + 1 + 1 + 1 + 1))) ∧ v1.drew.cell? ⟨g, off + j * 7 + 6, none⟩ = some (.string mu) ∧ Below w.heap.size w v1.drew) := by
          obtain ⟨a0, a1, a2, a3, a4, a5, a6, hB⟩ := E0.out
          exact ⟨a0, a1, a2, a3, a4, a5, a6, hB.drew⟩
        have K2 : Hid (∀ X : World, (X.cell? ⟨g, off + j * 7, none⟩ = some (.int .i64 q) ∧ X.cell? ⟨g, off + j * 7 + 1, none⟩ = some (.int .i64 (q + 1)) ∧ X.cell? ⟨g, off + j * 7 + 2, none⟩ = some (.int .i64 (q + 1 + 1)) ∧ X.cell? ⟨g, off + j * 7 + 3, none⟩ = some (.int .i64 (q + 1 + 1 + 1)) ∧ X.cell? ⟨g, off + j * 7 + 4, none⟩ = some (.int .i64 (q + 1 + 1 + 1 + 1)) ∧ X.cell? ⟨g, off + j * 7 + 5, none⟩ = some (.string (markTxt (q + 1 + 1 + 1 + 1 + 1))) ∧ X.cell? ⟨g, off + j * 7 + 6, none⟩ = some (.string mu) ∧ Below w.heap.size w X) → Calls Tryz.prog 40 #[.int .i64 (q + 1 + 1 + 1 + 1 + 1 + 1)] X fun e Y => e = .returned (.string mu) ∧ (Y.cell? ⟨g, off + j * 7, none⟩ = some (.int .i64 q) ∧ Y.cell? ⟨g, off + j * 7 + 1, none⟩ = some (.int .i64 (q + 1)) ∧ Y.cell? ⟨g, off + j * 7 + 2, none⟩ = some (.int .i64 (q + 1 + 1)) ∧ Y.cell? ⟨g, off + j * 7 + 3, none⟩ = some (.int .i64 (q + 1 + 1 + 1)) ∧ Y.cell? ⟨g, off + j * 7 + 4, none⟩ = some (.int .i64 (q + 1 + 1 + 1 + 1)) ∧ Y.cell? ⟨g, off + j * 7 + 5, none⟩ = some (.string (markTxt (q + 1 + 1 + 1 + 1 + 1))) ∧ Y.cell? ⟨g, off + j * 7 + 6, none⟩ = some (.string mu) ∧ Below w.heap.size w Y)) := fun X hX => by
          refine (HC.out (q + 1 + 1 + 1 + 1 + 1 + 1) (by omega) (by omega) X).mono ?_
          rintro e Y ⟨rfl, hb⟩
          obtain ⟨a0, a1, a2, a3, a4, a5, a6, hbX⟩ := hX
          rw [HMU.out]
          exact ⟨rfl, by rw [← HMU.out]; exact ⟨(by rw [hb.cell (p := ⟨g, off + j * 7, none⟩) (World.block_lt_of_cell? _ _ a0)]; exact a0), (by rw [hb.cell (p := ⟨g, off + j * 7 + 1, none⟩) (World.block_lt_of_cell? _ _ a1)]; exact a1), (by rw [hb.cell (p := ⟨g, off + j * 7 + 2, none⟩) (World.block_lt_of_cell? _ _ a2)]; exact a2), (by rw [hb.cell (p := ⟨g, off + j * 7 + 3, none⟩) (World.block_lt_of_cell? _ _ a3)]; exact a3), (by rw [hb.cell (p := ⟨g, off + j * 7 + 4, none⟩) (World.block_lt_of_cell? _ _ a4)]; exact a4), (by rw [hb.cell (p := ⟨g, off + j * 7 + 5, none⟩) (World.block_lt_of_cell? _ _ a5)]; exact a5), (by rw [hb.cell (p := ⟨g, off + j * 7 + 6, none⟩) (World.block_lt_of_cell? _ _ a6)]; exact a6), hbX.trans (hb.mono hbX.size)⟩⟩
        have c0 : v1.cell? ⟨g, off + j * 7, none⟩ = some (.int .i64 q) := E0.out.1
        have c1 : v1.cell? ⟨g, off + j * 7 + 1, none⟩ = some (.int .i64 (q + 1)) := E0.out.2.1
        have c2 : v1.cell? ⟨g, off + j * 7 + 2, none⟩ = some (.int .i64 (q + 1 + 1)) := E0.out.2.2.1
        have c3 : v1.cell? ⟨g, off + j * 7 + 3, none⟩ = some (.int .i64 (q + 1 + 1 + 1)) := E0.out.2.2.2.1
        have c4 : v1.cell? ⟨g, off + j * 7 + 4, none⟩ = some (.int .i64 (q + 1 + 1 + 1 + 1)) := E0.out.2.2.2.2.1
        have c5 : v1.cell? ⟨g, off + j * 7 + 5, none⟩ = some (.string (markTxt (q + 1 + 1 + 1 + 1 + 1))) := E0.out.2.2.2.2.2.1
        go_wp2_with fail
        go_region_held3 (fun X => X.cell? ⟨g, off + j * 7, none⟩ = some (.int .i64 q) ∧ X.cell? ⟨g, off + j * 7 + 1, none⟩ = some (.int .i64 (q + 1)) ∧ X.cell? ⟨g, off + j * 7 + 2, none⟩ = some (.int .i64 (q + 1 + 1)) ∧ X.cell? ⟨g, off + j * 7 + 3, none⟩ = some (.int .i64 (q + 1 + 1 + 1)) ∧ X.cell? ⟨g, off + j * 7 + 4, none⟩ = some (.int .i64 (q + 1 + 1 + 1 + 1)) ∧ X.cell? ⟨g, off + j * 7 + 5, none⟩ = some (.string (markTxt (q + 1 + 1 + 1 + 1 + 1))) ∧ X.cell? ⟨g, off + j * 7 + 6, none⟩ = some (.string mu) ∧ Below w.heap.size w X) (first | (with_reducible assumption) | (with_reducible exact E1.out)) (first | (go_at_call 40; refine (K2.out _ (by assumption)).mono ?_; rintro e v2 ⟨rfl, hS⟩))
        all_goals
          have HS := Lib.hid hS
          clear hS E0 E1 K2 c0 c1 c2 c3 c4 c5
          go_wp2_with fail
          go_roundw
          case rel => exact ⟨j + 1, by omega, by go_num, by have := HQ.out; go_num, HS.out.2.2.2.2.2.2.2⟩
          case measure => simp [intOf]; omega
    · have hlt' : ¬ ((j : Int) < (xs.length : Int)) := by omega
      have hke : j = xs.length := by omega
      subst hke
      go_wp2_with fail
      go_ret
      exact ⟨rfl, HBR.out⟩

abbrev LGrT : TypeId := 23
/-- Greeters that are measured. -/
def FitsGreeter (x5 x6 : ByteArray) : Prop := x5.size ≤ 1048576 ∧ x6.size ≤ 1048576
set_option maxRecDepth 100000 in
set_option maxHeartbeats 800000 in
theorem szGreeter_any (x0 x1 x2 x3 x4 : Int) (x5 x6 : ByteArray) (left : Int) (h0 : 0 ≤ left) (h1 : left ≤ 1048576) (r5 : x5.size ≤ 9223372036854775807) (r6 : x6.size ≤ 9223372036854775807) (w : World) :
    Calls Tryz.prog 5 #[.agg #[.int .i64 x0, .int .i64 x1, .int .i64 x2, .int .i64 x3, .int .i64 x4, .string x5, .string x6], .int .i64 left] w fun e w' => SzEnd (FitsGreeter x5 x6) left e ∧ Below w.heap.size w w' := by
  have A0 := Lib.hid (VarA.new w LGrT #[.int .i64 x0, .int .i64 x1, .int .i64 x2, .int .i64 x3, .int .i64 x4, .string x5, .string x6])
  have B0 := Lib.hid ((Below.refl w.heap.size w).alloc (Nat.le_refl _) (.cells #[.int .i64 x0, .int .i64 x1, .int .i64 x2, .int .i64 x3, .int .i64 x4, .string x5, .string x6] LGrT))
  go_enter Tryz.func5, Tryz.ntmps5
  go_upto_region 1 with fail
  generalize w.alloc (.cells #[.int .i64 x0, .int .i64 x1, .int .i64 x2, .int .i64 x3, .int .i64 x4, .string x5, .string x6] LGrT) = Y0 at *
  have c5 : Y0.cell? ⟨w.heap.size, 5, none⟩ = some (.string x5) := A0.out.cell 5
  have c6 : Y0.cell? ⟨w.heap.size, 6, none⟩ = some (.string x6) := A0.out.cell 6
  by_cases hb : left < (x5.size : Int)
  · have k1 : left - (x5.size : Int) < 0 := by omega
    go_wp2_with fail
    go_ret
    exact ⟨⟨_, rfl, .inl rfl⟩, B0.out⟩
  have k1 : ¬ (left - (x5.size : Int) < 0) := by omega
  by_cases hc : left - (x5.size : Int) < (x6.size : Int)
  · have k2 : left - (x5.size : Int) - (x6.size : Int) < 0 := by omega
    go_wp2_with fail
    go_ret
    exact ⟨⟨_, rfl, .inl rfl⟩, B0.out⟩
  have k2 : ¬ (left - (x5.size : Int) - (x6.size : Int) < 0) := by omega
  go_wp2_with fail
  go_ret
  exact ⟨⟨_, rfl, .inr ⟨by omega, by omega, by omega, by omega⟩⟩, B0.out⟩

end Go.Proofs.YtkjjdoadjhjmbauGreatDoor
