/-
  An element of a row taken out, where only new blocks are made; marks that are texts; measured rows.
  Greeter as it lies; the laws' own functions over it and over rows of it.
-/
import Derived.Test.YtkjjdoadjhjmbatJ09
import Derived.Test.YtkjjdoadjhjmbatRows
import Derived.Deep.RegionHeld3
import Derived.BigQuiet
import Derived.Deep.QuietTactic
import Derived.Deep.DeepCutAuto
namespace Go.Proofs.Ytkjjdoadjhjmbat
open Go.RowKit

theorem Zip.next {α : Type} {e : TypeId} {A : Lay α} {w w' : World} {b g cap : Nat} {f1 f2 f3 : List Nat} {u1 c u3 : List Value} {X : List α} {x : α} {Y : List α} (h : Zip e A w b g cap f1 f2 f3 u1 c u3 X x Y) (hb : Below w.heap.size w w') : Zip e A w' b g cap f1 f2 f3 u1 c u3 X x Y :=
  ⟨ownsRow_keep h.row (hb.block g h.lt.2), ownAll_keep A h.left (fun i hi => hb.block i (ownAll_blocks A h.left i hi).2), A.next h.mid hb, ownAll_keep A h.right (fun i hi => hb.block i (ownAll_blocks A h.right i hi).2), h.dup⟩
theorem markText_int (z : Int) (h1 : 1 ≤ z) (h2 : z ≤ 1000000000) (w : World) :
    Calls Try.prog 52 #[.int .i64 z] w fun e w' => e = .returned (.string (markTxt z)) ∧ Below w.heap.size w w' := by
  obtain ⟨n, rfl⟩ := Int.eq_ofNat_of_zero_le (show 0 ≤ z by omega)
  have h := markText_any n (by omega) (by omega) w
  unfold mark at h
  rw [digs_pos n (by omega)] at h
  exact h
/-- What is left, or -1. -/
def SzEnd (P : Prop) (left : Int) (e : Ending) : Prop := ∃ r : Int, e = .returned (.int .i64 r) ∧ (r = -1 ∨ (0 ≤ r ∧ r ≤ left ∧ P))

end Go.Proofs.Ytkjjdoadjhjmbat
namespace Go.Proofs.Ytkjjdoadjhjmbat
open Go.RowKit

abbrev GreeterD := Int × Int × Int × Int × Int × ByteArray × ByteArray
abbrev GreeterT : TypeId := 36
def layGreeter : Lay GreeterD := Lay.pair Lay.int (Lay.pair Lay.int (Lay.pair Lay.int (Lay.pair Lay.int (Lay.pair Lay.int (Lay.pair Lay.str Lay.str)))))
def layGreeterS : Lay (List GreeterD) := .rows GreeterT layGreeter

theorem layGreeter_rd {w : World} {cs : List Value} {x : GreeterD} : layGreeter.rd w cs x ↔ cs = [.int .i64 x.1, .int .i64 x.2.1, .int .i64 x.2.2.1, .int .i64 x.2.2.2.1, .int .i64 x.2.2.2.2.1, .string x.2.2.2.2.2.1, .string x.2.2.2.2.2.2] := by
  constructor
  · rintro ⟨c0, d0, rfl, rfl, ⟨c1, d1, rfl, rfl, ⟨c2, d2, rfl, rfl, ⟨c3, d3, rfl, rfl, ⟨c4, d4, rfl, rfl, ⟨c5, d5, rfl, rfl, rfl⟩⟩⟩⟩⟩⟩
    rfl
  · rintro rfl
    exact ⟨[_], [_, _, _, _, _, _], rfl, rfl, ⟨[_], [_, _, _, _, _], rfl, rfl, ⟨[_], [_, _, _, _], rfl, rfl, ⟨[_], [_, _, _], rfl, rfl, ⟨[_], [_, _], rfl, rfl, ⟨[_], [_], rfl, rfl, rfl⟩⟩⟩⟩⟩⟩

theorem layGreeter_own {w : World} {b : Nat} {f : List Nat} {cs : List Value} {x : GreeterD} : layGreeter.own w b f cs x ↔ f = [] ∧ cs = [.int .i64 x.1, .int .i64 x.2.1, .int .i64 x.2.2.1, .int .i64 x.2.2.2.1, .int .i64 x.2.2.2.2.1, .string x.2.2.2.2.2.1, .string x.2.2.2.2.2.2] := by
  constructor
  · rintro ⟨f0, g0, c0, d0, rfl, rfl, ⟨rfl, rfl⟩, ⟨f1, g1, c1, d1, rfl, rfl, ⟨rfl, rfl⟩, ⟨f2, g2, c2, d2, rfl, rfl, ⟨rfl, rfl⟩, ⟨f3, g3, c3, d3, rfl, rfl, ⟨rfl, rfl⟩, ⟨f4, g4, c4, d4, rfl, rfl, ⟨rfl, rfl⟩, ⟨f5, g5, c5, d5, rfl, rfl, ⟨rfl, rfl⟩, ⟨rfl, rfl⟩⟩⟩⟩⟩⟩⟩
    exact ⟨rfl, rfl⟩
  · rintro ⟨rfl, rfl⟩
    exact ⟨[], ([] ++ ([] ++ ([] ++ ([] ++ ([] ++ []))))), [_], [_, _, _, _, _, _], rfl, rfl, ⟨rfl, rfl⟩, ⟨[], ([] ++ ([] ++ ([] ++ ([] ++ [])))), [_], [_, _, _, _, _], rfl, rfl, ⟨rfl, rfl⟩, ⟨[], ([] ++ ([] ++ ([] ++ []))), [_], [_, _, _, _], rfl, rfl, ⟨rfl, rfl⟩, ⟨[], ([] ++ ([] ++ [])), [_], [_, _, _], rfl, rfl, ⟨rfl, rfl⟩, ⟨[], ([] ++ []), [_], [_, _], rfl, rfl, ⟨rfl, rfl⟩, ⟨[], [], [_], [_], rfl, rfl, ⟨rfl, rfl⟩, ⟨rfl, rfl⟩⟩⟩⟩⟩⟩⟩

theorem zeroGreeter (w : World) (b : Nat) : layGreeter.own w b [] [.int .i64 0, .int .i64 0, .int .i64 0, .int .i64 0, .int .i64 0, .string ⟨#[]⟩, .string ⟨#[]⟩] (0, 0, 0, 0, 0, ⟨#[]⟩, ⟨#[]⟩) := layGreeter_own.2 ⟨rfl, rfl⟩
theorem zeroGreeter_none (w : World) (b : Nat) (f : List Nat) (c : List Value) (h : layGreeter.own w b f c (0, 0, 0, 0, 0, ⟨#[]⟩, ⟨#[]⟩)) : f = [] := (layGreeter_own.1 h).1
theorem flatGreeter : Flat layGreeter := ⟨fun _ _ _ _ h => layGreeter_own.2 ⟨rfl, layGreeter_rd.1 h⟩, fun _ _ _ _ _ h => (layGreeter_own.1 h).1, fun _ _ _ _ h => layGreeter_rd.2 (layGreeter_rd.1 h)⟩

set_option maxRecDepth 100000 in
set_option maxHeartbeats 400000 in
theorem toGreeter_any (x0 : Int) (x1 : Int) (x2 : Int) (x3 : Int) (x4 : Int) (x5 : ByteArray) (x6 : ByteArray) (w : World) :
    Calls Try.prog 15 #[.agg #[.int .i64 x0, .int .i64 x1, .int .i64 x2, .int .i64 x3, .int .i64 x4, .string x5, .string x6]] w fun e w' => e = .returned (.agg #[.int .i64 x0, .int .i64 x1, .int .i64 x2, .int .i64 x3, .int .i64 x4, .string x5, .string x6]) ∧ Below w.heap.size w w' := by
  go_enter Try.func15, Try.ntmps15
  go_wp2_with fail
  refine bodyPost_ret (v := .agg #[.int .i64 x0, .int .i64 x1, .int .i64 x2, .int .i64 x3, .int .i64 x4, .string x5, .string x6]) (by simp [results, Try.results15, go_sem]) rfl ⟨rfl, ?_⟩
  exact (((Below.refl w.heap.size w).alloc (Nat.le_refl _) _).alloc (by simp) _).alloc (by simp; omega) _

set_option maxRecDepth 100000 in
set_option maxHeartbeats 400000 in
theorem eqGreeter_same (x0 : Int) (x1 : Int) (x2 : Int) (x3 : Int) (x4 : Int) (x5 : ByteArray) (x6 : ByteArray) (w : World) :
    Calls Try.prog 17 #[.agg #[.int .i64 x0, .int .i64 x1, .int .i64 x2, .int .i64 x3, .int .i64 x4, .string x5, .string x6], .agg #[.int .i64 x0, .int .i64 x1, .int .i64 x2, .int .i64 x3, .int .i64 x4, .string x5, .string x6]] w fun e w' => e = .returned (.bool true) ∧ Below w.heap.size w w' := by
  go_enter Try.func17, Try.ntmps17
  go_wp2_with fail
  go_ret
  exact ⟨rfl, ((Below.refl _ _).alloc (Nat.le_refl _) _).alloc (by simp) _⟩

theorem markGreeter_eq (q : Int) (x : GreeterD) : layGreeter.mark q x = ((q, q + 1, q + 1 + 1, q + 1 + 1 + 1, q + 1 + 1 + 1 + 1, markTxt (q + 1 + 1 + 1 + 1 + 1), markTxt (q + 1 + 1 + 1 + 1 + 1 + 1)), q + 1 + 1 + 1 + 1 + 1 + 1 + 1) := rfl
theorem marksGreeter_num (k : Int) (xs : List GreeterD) : (layGreeterS.mark k xs).2 = k + 7 * (xs.length : Int) := by
  show (mkAll layGreeter k xs).2 = _
  induction xs generalizing k with
  | nil => simp [mkAll]
  | cons x xs ih =>
    show (mkAll layGreeter (layGreeter.mark k x).2 xs).2 = _
    rw [ih, markGreeter_eq]
    simp only [List.length_cons]
    omega
theorem marksGreeter_next (k : Int) (xs : List GreeterD) (j : Nat) (x : GreeterD) (hx : xs[j]? = some x) : (layGreeterS.mark k (xs.take (j + 1))).1 = (layGreeterS.mark k (xs.take j)).1 ++ [(layGreeter.mark (k + 7 * (j : Int)) x).1] := by
  have hj : j < xs.length := (List.getElem?_eq_some_iff.1 hx).1
  have e : xs.take (j + 1) = xs.take j ++ [x] := by rw [List.take_add_one, hx]; rfl
  have h2 := marksGreeter_num k (xs.take j)
  show (mkAll layGreeter k _).1 = (mkAll layGreeter k _).1 ++ _
  rw [e, mkAll_append]
  have h3 : (mkAll layGreeter k (xs.take j)).2 = k + 7 * (j : Int) := by
    have h4 : (mkAll layGreeter k (xs.take j)).2 = _ := h2
    rw [h4, List.length_take, Nat.min_eq_left (by omega)]
  rw [h3]
  rfl
theorem marksGreeter_get (k : Int) (xs : List GreeterD) (j : Nat) (x : GreeterD) (hx : xs[j]? = some x) : (layGreeterS.mark k xs).1[j]? = some (layGreeter.mark (k + 7 * (j : Int)) x).1 := by
  have hj : j < xs.length := (List.getElem?_eq_some_iff.1 hx).1
  have h := marksGreeter_next k xs j x hx
  have e : xs = xs.take (j + 1) ++ xs.drop (j + 1) := (List.take_append_drop _ _).symm
  have e2 : (layGreeterS.mark k xs).1 = (layGreeterS.mark k (xs.take (j + 1))).1 ++ (mkAll layGreeter (layGreeterS.mark k (xs.take (j + 1))).2 (xs.drop (j + 1))).1 := by
    conv => lhs; rw [e]
    show (mkAll layGreeter k _).1 = _
    rw [mkAll_append]
    rfl
  have hl : (layGreeterS.mark k (xs.take j)).1.length = j := by
    show (mkAll layGreeter k _).1.length = j
    rw [mkAll_length, List.length_take]
    omega
  rw [e2, h, List.getElem?_append_left (by rw [List.length_append, hl]; simp), List.getElem?_append_right (by omega), hl, Nat.sub_self]
  rfl
abbrev LGrT : TypeId := 34
/-- Greeters that are measured. -/
def FitsGreeter (x5 x6 : ByteArray) : Prop := x5.size ≤ 1048576 ∧ x6.size ≤ 1048576
set_option maxRecDepth 100000 in
set_option maxHeartbeats 800000 in
theorem szGreeter_any (x0 x1 x2 x3 x4 : Int) (x5 x6 : ByteArray) (left : Int) (h0 : 0 ≤ left) (h1 : left ≤ 1048576) (r5 : x5.size ≤ 9223372036854775807) (r6 : x6.size ≤ 9223372036854775807) (w : World) :
    Calls Try.prog 13 #[.agg #[.int .i64 x0, .int .i64 x1, .int .i64 x2, .int .i64 x3, .int .i64 x4, .string x5, .string x6], .int .i64 left] w fun e w' => SzEnd (FitsGreeter x5 x6) left e ∧ Below w.heap.size w w' := by
  have A0 := Lib.hid (VarA.new w LGrT #[.int .i64 x0, .int .i64 x1, .int .i64 x2, .int .i64 x3, .int .i64 x4, .string x5, .string x6])
  have B0 := Lib.hid ((Below.refl w.heap.size w).alloc (Nat.le_refl _) (.cells #[.int .i64 x0, .int .i64 x1, .int .i64 x2, .int .i64 x3, .int .i64 x4, .string x5, .string x6] LGrT))
  go_enter Try.func13, Try.ntmps13
  go_upto_region 1 with fail
  generalize w.alloc (.cells #[.int .i64 x0, .int .i64 x1, .int .i64 x2, .int .i64 x3, .int .i64 x4, .string x5, .string x6] LGrT) = Y0 at *
  have c5 : Y0.cell? ⟨w.heap.size, 5, none⟩ = some (.string x5) := A0.out.cell 5
  have c6 : Y0.cell? ⟨w.heap.size, 6, none⟩ = some (.string x6) := A0.out.cell 6
  by_cases hb : left < (x5.size : Int)
  · have k1 : left - (x5.size : Int) < 0 := by omega
    go_wp2_with fail
    go_ret
    exact ⟨⟨_, rfl, .inl rfl⟩, B0.out⟩
  have k1 : ¬ (left - (x5.size : Int) < 0) := by omega
  by_cases hc : left - (x5.size : Int) < (x6.size : Int)
  · have k2 : left - (x5.size : Int) - (x6.size : Int) < 0 := by omega
    go_wp2_with fail
    go_ret
    exact ⟨⟨_, rfl, .inl rfl⟩, B0.out⟩
  have k2 : ¬ (left - (x5.size : Int) - (x6.size : Int) < 0) := by omega
  go_wp2_with fail
  go_ret
  exact ⟨⟨_, rfl, .inr ⟨by omega, by omega, by omega, by omega⟩⟩, B0.out⟩

end Go.Proofs.Ytkjjdoadjhjmbat
