/-
  An element of a row taken out, where only new blocks are made; marks that are texts; measured rows.
  Greeter as it lies; the laws' own functions over it and over rows of it.
  The program's copy of a greeter, its Transcript, and a Role in one byte.
-/
import Derived.Test.YtkjjdoadjhjmbatDoorJ09
import Derived.Test.YtkjjdoadjhjmbatDoorRows
import Derived.Deep.RegionHeld3
import Derived.BigQuiet
import Derived.Deep.QuietTactic
import Derived.Deep.DeepCutAuto
import Derived.Test.YtkjjdoadjhjmbatDoorJ05
namespace Go.Proofs.YtkjjdoadjhjmbatDoor
open Go.RowKit

theorem Zip.next {α : Type} {e : TypeId} {A : Lay α} {w w' : World} {b g cap : Nat} {f1 f2 f3 : List Nat} {u1 c u3 : List Value} {X : List α} {x : α} {Y : List α} (h : Zip e A w b g cap f1 f2 f3 u1 c u3 X x Y) (hb : Below w.heap.size w w') : Zip e A w' b g cap f1 f2 f3 u1 c u3 X x Y :=
  ⟨ownsRow_keep h.row (hb.block g h.lt.2), ownAll_keep A h.left (fun i hi => hb.block i (ownAll_blocks A h.left i hi).2), A.next h.mid hb, ownAll_keep A h.right (fun i hi => hb.block i (ownAll_blocks A h.right i hi).2), h.dup⟩
theorem markText_int (z : Int) (h1 : 1 ≤ z) (h2 : z ≤ 1000000000) (w : World) :
    Calls Tryd.prog 52 #[.int .i64 z] w fun e w' => e = .returned (.string (markTxt z)) ∧ Below w.heap.size w w' := by
  obtain ⟨n, rfl⟩ := Int.eq_ofNat_of_zero_le (show 0 ≤ z by omega)
  have h := markText_any n (by omega) (by omega) w
  unfold mark at h
  rw [digs_pos n (by omega)] at h
  exact h
/-- What is left, or -1. -/
def SzEnd (P : Prop) (left : Int) (e : Ending) : Prop := ∃ r : Int, e = .returned (.int .i64 r) ∧ (r = -1 ∨ (0 ≤ r ∧ r ≤ left ∧ P))

end Go.Proofs.YtkjjdoadjhjmbatDoor
namespace Go.Proofs.YtkjjdoadjhjmbatDoor
open Go.RowKit

abbrev GreeterD := Int × Int × Int × Int × Int × ByteArray × ByteArray
abbrev GreeterT : TypeId := 31
def layGreeter : Lay GreeterD := Lay.pair Lay.int (Lay.pair Lay.int (Lay.pair Lay.int (Lay.pair Lay.int (Lay.pair Lay.int (Lay.pair Lay.str Lay.str)))))
def layGreeterS : Lay (List GreeterD) := .rows GreeterT layGreeter

theorem layGreeter_rd {w : World} {cs : List Value} {x : GreeterD} : layGreeter.rd w cs x ↔ cs = [.int .i64 x.1, .int .i64 x.2.1, .int .i64 x.2.2.1, .int .i64 x.2.2.2.1, .int .i64 x.2.2.2.2.1, .string x.2.2.2.2.2.1, .string x.2.2.2.2.2.2] := by
  constructor
  · rintro ⟨c0, d0, rfl, rfl, ⟨c1, d1, rfl, rfl, ⟨c2, d2, rfl, rfl, ⟨c3, d3, rfl, rfl, ⟨c4, d4, rfl, rfl, ⟨c5, d5, rfl, rfl, rfl⟩⟩⟩⟩⟩⟩
    rfl
  · rintro rfl
    exact ⟨[_], [_, _, _, _, _, _], rfl, rfl, ⟨[_], [_, _, _, _, _], rfl, rfl, ⟨[_], [_, _, _, _], rfl, rfl, ⟨[_], [_, _, _], rfl, rfl, ⟨[_], [_, _], rfl, rfl, ⟨[_], [_], rfl, rfl, rfl⟩⟩⟩⟩⟩⟩

theorem layGreeter_own {w : World} {b : Nat} {f : List Nat} {cs : List Value} {x : GreeterD} : layGreeter.own w b f cs x ↔ f = [] ∧ cs = [.int .i64 x.1, .int .i64 x.2.1, .int .i64 x.2.2.1, .int .i64 x.2.2.2.1, .int .i64 x.2.2.2.2.1, .string x.2.2.2.2.2.1, .string x.2.2.2.2.2.2] := by
  constructor
  · rintro ⟨f0, g0, c0, d0, rfl, rfl, ⟨rfl, rfl⟩, ⟨f1, g1, c1, d1, rfl, rfl, ⟨rfl, rfl⟩, ⟨f2, g2, c2, d2, rfl, rfl, ⟨rfl, rfl⟩, ⟨f3, g3, c3, d3, rfl, rfl, ⟨rfl, rfl⟩, ⟨f4, g4, c4, d4, rfl, rfl, ⟨rfl, rfl⟩, ⟨f5, g5, c5, d5, rfl, rfl, ⟨rfl, rfl⟩, ⟨rfl, rfl⟩⟩⟩⟩⟩⟩⟩
    exact ⟨rfl, rfl⟩
  · rintro ⟨rfl, rfl⟩
    exact ⟨[], ([] ++ ([] ++ ([] ++ ([] ++ ([] ++ []))))), [_], [_, _, _, _, _, _], rfl, rfl, ⟨rfl, rfl⟩, ⟨[], ([] ++ ([] ++ ([] ++ ([] ++ [])))), [_], [_, _, _, _, _], rfl, rfl, ⟨rfl, rfl⟩, ⟨[], ([] ++ ([] ++ ([] ++ []))), [_], [_, _, _, _], rfl, rfl, ⟨rfl, rfl⟩, ⟨[], ([] ++ ([] ++ [])), [_], [_, _, _], rfl, rfl, ⟨rfl, rfl⟩, ⟨[], ([] ++ []), [_], [_, _], rfl, rfl, ⟨rfl, rfl⟩, ⟨[], [], [_], [_], rfl, rfl, ⟨rfl, rfl⟩, ⟨rfl, rfl⟩⟩⟩⟩⟩⟩⟩

theorem zeroGreeter (w : World) (b : Nat) : layGreeter.own w b [] [.int .i64 0, .int .i64 0, .int .i64 0, .int .i64 0, .int .i64 0, .string ⟨#[]⟩, .string ⟨#[]⟩] (0, 0, 0, 0, 0, ⟨#[]⟩, ⟨#[]⟩) := layGreeter_own.2 ⟨rfl, rfl⟩
theorem zeroGreeter_none (w : World) (b : Nat) (f : List Nat) (c : List Value) (h : layGreeter.own w b f c (0, 0, 0, 0, 0, ⟨#[]⟩, ⟨#[]⟩)) : f = [] := (layGreeter_own.1 h).1
theorem flatGreeter : Flat layGreeter := ⟨fun _ _ _ _ h => layGreeter_own.2 ⟨rfl, layGreeter_rd.1 h⟩, fun _ _ _ _ _ h => (layGreeter_own.1 h).1, fun _ _ _ _ h => layGreeter_rd.2 (layGreeter_rd.1 h)⟩

set_option maxRecDepth 100000 in
set_option maxHeartbeats 400000 in
theorem toGreeter_any (x0 : Int) (x1 : Int) (x2 : Int) (x3 : Int) (x4 : Int) (x5 : ByteArray) (x6 : ByteArray) (w : World) :
    Calls Tryd.prog 16 #[.agg #[.int .i64 x0, .int .i64 x1, .int .i64 x2, .int .i64 x3, .int .i64 x4, .string x5, .string x6]] w fun e w' => e = .returned (.agg #[.int .i64 x0, .int .i64 x1, .int .i64 x2, .int .i64 x3, .int .i64 x4, .string x5, .string x6]) ∧ Below w.heap.size w w' := by
  go_enter Tryd.func16, Tryd.ntmps16
  go_wp2_with fail
  refine bodyPost_ret (v := .agg #[.int .i64 x0, .int .i64 x1, .int .i64 x2, .int .i64 x3, .int .i64 x4, .string x5, .string x6]) (by simp [results, Tryd.results16, go_sem]) rfl ⟨rfl, ?_⟩
  exact (((Below.refl w.heap.size w).alloc (Nat.le_refl _) _).alloc (by simp) _).alloc (by simp; omega) _

set_option maxRecDepth 100000 in
set_option maxHeartbeats 400000 in
theorem eqGreeter_same (x0 : Int) (x1 : Int) (x2 : Int) (x3 : Int) (x4 : Int) (x5 : ByteArray) (x6 : ByteArray) (w : World) :
    Calls Tryd.prog 13 #[.agg #[.int .i64 x0, .int .i64 x1, .int .i64 x2, .int .i64 x3, .int .i64 x4, .string x5, .string x6], .agg #[.int .i64 x0, .int .i64 x1, .int .i64 x2, .int .i64 x3, .int .i64 x4, .string x5, .string x6]] w fun e w' => e = .returned (.bool true) ∧ Below w.heap.size w w' := by
  go_enter Tryd.func13, Tryd.ntmps13
  go_wp2_with fail
  go_ret
  exact ⟨rfl, ((Below.refl _ _).alloc (Nat.le_refl _) _).alloc (by simp) _⟩

theorem markGreeter_eq (q : Int) (x : GreeterD) : layGreeter.mark q x = ((q, q + 1, q + 1 + 1, q + 1 + 1 + 1, q + 1 + 1 + 1 + 1, markTxt (q + 1 + 1 + 1 + 1 + 1), markTxt (q + 1 + 1 + 1 + 1 + 1 + 1)), q + 1 + 1 + 1 + 1 + 1 + 1 + 1) := rfl
theorem marksGreeter_num (k : Int) (xs : List GreeterD) : (layGreeterS.mark k xs).2 = k + 7 * (xs.length : Int) := by
  show (mkAll layGreeter k xs).2 = _
  induction xs generalizing k with
  | nil => simp [mkAll]
  | cons x xs ih =>
    show (mkAll layGreeter (layGreeter.mark k x).2 xs).2 = _
    rw [ih, markGreeter_eq]
    simp only [List.length_cons]
    omega
theorem marksGreeter_next (k : Int) (xs : List GreeterD) (j : Nat) (x : GreeterD) (hx : xs[j]? = some x) : (layGreeterS.mark k (xs.take (j + 1))).1 = (layGreeterS.mark k (xs.take j)).1 ++ [(layGreeter.mark (k + 7 * (j : Int)) x).1] := by
  have hj : j < xs.length := (List.getElem?_eq_some_iff.1 hx).1
  have e : xs.take (j + 1) = xs.take j ++ [x] := by rw [List.take_add_one, hx]; rfl
  have h2 := marksGreeter_num k (xs.take j)
  show (mkAll layGreeter k _).1 = (mkAll layGreeter k _).1 ++ _
  rw [e, mkAll_append]
  have h3 : (mkAll layGreeter k (xs.take j)).2 = k + 7 * (j : Int) := by
    have h4 : (mkAll layGreeter k (xs.take j)).2 = _ := h2
    rw [h4, List.length_take, Nat.min_eq_left (by omega)]
  rw [h3]
  rfl
theorem marksGreeter_get (k : Int) (xs : List GreeterD) (j : Nat) (x : GreeterD) (hx : xs[j]? = some x) : (layGreeterS.mark k xs).1[j]? = some (layGreeter.mark (k + 7 * (j : Int)) x).1 := by
  have hj : j < xs.length := (List.getElem?_eq_some_iff.1 hx).1
  have h := marksGreeter_next k xs j x hx
  have e : xs = xs.take (j + 1) ++ xs.drop (j + 1) := (List.take_append_drop _ _).symm
  have e2 : (layGreeterS.mark k xs).1 = (layGreeterS.mark k (xs.take (j + 1))).1 ++ (mkAll layGreeter (layGreeterS.mark k (xs.take (j + 1))).2 (xs.drop (j + 1))).1 := by
    conv => lhs; rw [e]
    show (mkAll layGreeter k _).1 = _
    rw [mkAll_append]
    rfl
  have hl : (layGreeterS.mark k (xs.take j)).1.length = j := by
    show (mkAll layGreeter k _).1.length = j
    rw [mkAll_length, List.length_take]
    omega
  rw [e2, h, List.getElem?_append_left (by rw [List.length_append, hl]; simp), List.getElem?_append_right (by omega), hl, Nat.sub_self]
  rfl
abbrev LGrT : TypeId := 36
/-- Greeters that are measured. -/
def FitsGreeter (x5 x6 : ByteArray) : Prop := x5.size ≤ 1048576 ∧ x6.size ≤ 1048576
set_option maxRecDepth 100000 in
set_option maxHeartbeats 800000 in
theorem szGreeter_any (x0 x1 x2 x3 x4 : Int) (x5 x6 : ByteArray) (left : Int) (h0 : 0 ≤ left) (h1 : left ≤ 1048576) (r5 : x5.size ≤ 9223372036854775807) (r6 : x6.size ≤ 9223372036854775807) (w : World) :
    Calls Tryd.prog 14 #[.agg #[.int .i64 x0, .int .i64 x1, .int .i64 x2, .int .i64 x3, .int .i64 x4, .string x5, .string x6], .int .i64 left] w fun e w' => SzEnd (FitsGreeter x5 x6) left e ∧ Below w.heap.size w w' := by
  have A0 := Lib.hid (VarA.new w LGrT #[.int .i64 x0, .int .i64 x1, .int .i64 x2, .int .i64 x3, .int .i64 x4, .string x5, .string x6])
  have B0 := Lib.hid ((Below.refl w.heap.size w).alloc (Nat.le_refl _) (.cells #[.int .i64 x0, .int .i64 x1, .int .i64 x2, .int .i64 x3, .int .i64 x4, .string x5, .string x6] LGrT))
  go_enter Tryd.func14, Tryd.ntmps14
  go_upto_region 1 with fail
  generalize w.alloc (.cells #[.int .i64 x0, .int .i64 x1, .int .i64 x2, .int .i64 x3, .int .i64 x4, .string x5, .string x6] LGrT) = Y0 at *
  have c5 : Y0.cell? ⟨w.heap.size, 5, none⟩ = some (.string x5) := A0.out.cell 5
  have c6 : Y0.cell? ⟨w.heap.size, 6, none⟩ = some (.string x6) := A0.out.cell 6
  by_cases hb : left < (x5.size : Int)
  · have k1 : left - (x5.size : Int) < 0 := by omega
    go_wp2_with fail
    go_ret
    exact ⟨⟨_, rfl, .inl rfl⟩, B0.out⟩
  have k1 : ¬ (left - (x5.size : Int) < 0) := by omega
  by_cases hc : left - (x5.size : Int) < (x6.size : Int)
  · have k2 : left - (x5.size : Int) - (x6.size : Int) < 0 := by omega
    go_wp2_with fail
    go_ret
    exact ⟨⟨_, rfl, .inl rfl⟩, B0.out⟩
  have k2 : ¬ (left - (x5.size : Int) - (x6.size : Int) < 0) := by omega
  go_wp2_with fail
  go_ret
  exact ⟨⟨_, rfl, .inr ⟨by omega, by omega, by omega, by omega⟩⟩, B0.out⟩

end Go.Proofs.YtkjjdoadjhjmbatDoor
namespace Go.Proofs.YtkjjdoadjhjmbatDoor
open Go.RowKit

/-- What the library's Clone gives. -/
def CloneG : Prop := ∀ (s : ByteArray) (w : World), s.size ≤ 100000000 → Calls Tryd.prog 98 #[.string s] w fun e w' => e = .returned (.string s) ∧ Below w.heap.size w w'
theorem ret_t {a b : ByteArray} (h : a = b) : Ending.returned (.string b) = .returned (.string a) := by rw [h]

set_option maxRecDepth 100000 in
set_option maxHeartbeats 800000 in
theorem implTranscript_any (HG : CloneG) (x0 x1 x2 x3 x4 : Int) (x5 x6 : ByteArray) (h5 : x5.size ≤ 10000000) (h6 : x6.size ≤ 10000000) (w : World) :
    Calls Tryd.prog 68 #[.agg #[.int .i64 x0, .int .i64 x1, .int .i64 x2, .int .i64 x3, .int .i64 x4, .string x5, .string x6]] w fun e w' => e = .returned (.string (transB x0 x5 x6)) ∧ Below w.heap.size w w' := by
  have A0 := Lib.hid (VarA.new w GreeterT #[.int .i64 x0, .int .i64 x1, .int .i64 x2, .int .i64 x3, .int .i64 x4, .string x5, .string x6])
  have B0 := Lib.hid ((Below.refl w.heap.size w).alloc (Nat.le_refl _) (.cells #[.int .i64 x0, .int .i64 x1, .int .i64 x2, .int .i64 x3, .int .i64 x4, .string x5, .string x6] GreeterT))
  have s1 : ¬ (9223372036854775807 < x5.size + x6.size) := by omega
  have s2 : ¬ (9223372036854775807 < x6.size + x5.size) := by omega
  obtain ⟨t, HT⟩ : ∃ t, Hid (transB x0 x5 x6 = t) := ⟨_, Lib.hid rfl⟩
  rw [HT.out]
  have zt : t.size ≤ 100000000 := by rw [← HT.out, trans_size]; omega
  go_enter Tryd.func68, Tryd.ntmps68
  go_upto_region 1 with fail
  generalize w.alloc (.cells #[.int .i64 x0, .int .i64 x1, .int .i64 x2, .int .i64 x3, .int .i64 x4, .string x5, .string x6] GreeterT) = Y0 at *
  have c0 : Y0.cell? ⟨w.heap.size, 0, none⟩ = some (.int .i64 x0) := A0.out.cell 0
  have c5 : Y0.cell? ⟨w.heap.size, 5, none⟩ = some (.string x5) := A0.out.cell 5
  have c6 : Y0.cell? ⟨w.heap.size, 6, none⟩ = some (.string x6) := A0.out.cell 6
  have KC := Lib.hid (HG t Y0 zt)
  clear zt h5 h6
  by_cases hr : x0 = 1
  · have k1 : (x0 == 1) = true := by rw [beq_iff_eq]; exact hr
    have HE : Hid (x5 ++ x6 = t) := Lib.hid (by rw [← HT.out]; unfold transB; rw [if_pos hr])
    clear hr
    go_wp2_with fail
    rw [HE.out]
    refine KC.out.mono ?_
    rintro e Y ⟨rfl, hb⟩
    go_wp2_with fail
    go_ret
    exact ⟨rfl, B0.out.trans (hb.mono B0.out.size)⟩
  · have k1 : (x0 == 1) = false := by rw [beq_eq_false_iff_ne]; exact hr
    have HE : Hid (x6 ++ x5 = t) := Lib.hid (by rw [← HT.out]; unfold transB; rw [if_neg hr])
    clear hr
    go_wp2_with fail
    rw [HE.out]
    refine KC.out.mono ?_
    rintro e Y ⟨rfl, hb⟩
    go_wp2_with fail
    go_ret
    exact ⟨rfl, B0.out.trans (hb.mono B0.out.size)⟩

/-- A greeter is handed back. -/
def GreeterEnd (x0 x1 x2 x3 x4 : Int) (x5 x6 : ByteArray) (X : World) (e : Ending) (Y : World) : Prop := e = .returned (.agg #[.int .i64 x0, .int .i64 x1, .int .i64 x2, .int .i64 x3, .int .i64 x4, .string x5, .string x6]) ∧ Below X.heap.size X Y

/-- The greeter and the result in their variables. -/
structure GR (w : World) (x0 x1 x2 x3 x4 : Int) (x5 x6 : ByteArray) (X : World) : Prop where
  g : VarA w.heap.size GreeterT #[.int .i64 x0, .int .i64 x1, .int .i64 x2, .int .i64 x3, .int .i64 x4, .string x5, .string x6] X
  r : VarA (w.heap.size + 1) GreeterT #[.int .i64 0, .int .i64 0, .int .i64 0, .int .i64 0, .int .i64 0, .string ⟨#[]⟩, .string ⟨#[]⟩] X
  below : Below w.heap.size w X
section
variable {w : World} {x0 x1 x2 x3 x4 : Int} {x5 x6 : ByteArray} {X Y : World}
theorem GR.new : GR w x0 x1 x2 x3 x4 x5 x6 ((w.alloc (.cells #[.int .i64 x0, .int .i64 x1, .int .i64 x2, .int .i64 x3, .int .i64 x4, .string x5, .string x6] GreeterT)).alloc (.cells #[.int .i64 0, .int .i64 0, .int .i64 0, .int .i64 0, .int .i64 0, .string ⟨#[]⟩, .string ⟨#[]⟩] GreeterT)) := by
  have h2 := VarA.new (w.alloc (.cells #[.int .i64 x0, .int .i64 x1, .int .i64 x2, .int .i64 x3, .int .i64 x4, .string x5, .string x6] GreeterT)) GreeterT #[.int .i64 0, .int .i64 0, .int .i64 0, .int .i64 0, .int .i64 0, .string ⟨#[]⟩, .string ⟨#[]⟩]
  rw [show (w.alloc (.cells #[.int .i64 x0, .int .i64 x1, .int .i64 x2, .int .i64 x3, .int .i64 x4, .string x5, .string x6] GreeterT)).heap.size = w.heap.size + 1 by simp] at h2
  exact ⟨(VarA.new w GreeterT #[.int .i64 x0, .int .i64 x1, .int .i64 x2, .int .i64 x3, .int .i64 x4, .string x5, .string x6]).alloc _, h2, ((Below.refl w.heap.size w).alloc (Nat.le_refl _) _).alloc (by simp) _⟩
theorem GR.next (h : GR w x0 x1 x2 x3 x4 x5 x6 X) (hb : Below X.heap.size X Y) : GR w x0 x1 x2 x3 x4 x5 x6 Y := ⟨h.g.next hb, h.r.next hb, h.below.trans (hb.mono h.below.size)⟩
theorem GR.mine (h : GR w x0 x1 x2 x3 x4 x5 x6 X) (t : ByteArray) : GR w x0 x1 x2 x3 x4 t x6 (X.setCell ⟨w.heap.size, 5, none⟩ (.string t)) := ⟨h.g.set 5 _, h.r.off 5 _ (by omega), h.below.setCell (p := ⟨w.heap.size, 5, none⟩) (Nat.le_refl _) _⟩
theorem GR.yours (h : GR w x0 x1 x2 x3 x4 x5 x6 X) (t : ByteArray) : GR w x0 x1 x2 x3 x4 x5 t (X.setCell ⟨w.heap.size, 6, none⟩ (.string t)) := ⟨h.g.set 6 _, h.r.off 6 _ (by omega), h.below.setCell (p := ⟨w.heap.size, 6, none⟩) (Nat.le_refl _) _⟩
end
section
variable {X w : World} {G base : Nat} {T : TypeId} {q0 q1 q2 q3 q4 q5 q6 : Value}
theorem VarA.set7 (h : VarA G T #[q0, q1, q2, q3, q4, q5, q6] X) (u0 u1 u2 u3 u4 u5 u6 : Value) : VarA G T #[u0, u1, u2, u3, u4, u5, u6] (((((((X.setCell ⟨G, 0, none⟩ u0).setCell ⟨G, 1, none⟩ u1).setCell ⟨G, 2, none⟩ u2).setCell ⟨G, 3, none⟩ u3).setCell ⟨G, 4, none⟩ u4).setCell ⟨G, 5, none⟩ u5).setCell ⟨G, 6, none⟩ u6) := by
  have h0 : VarA G T #[u0, q1, q2, q3, q4, q5, q6] (X.setCell ⟨G, 0, none⟩ u0) := h.set 0 u0
  have h1 : VarA G T #[u0, u1, q2, q3, q4, q5, q6] ((X.setCell ⟨G, 0, none⟩ u0).setCell ⟨G, 1, none⟩ u1) := h0.set 1 u1
  have h2 : VarA G T #[u0, u1, u2, q3, q4, q5, q6] (((X.setCell ⟨G, 0, none⟩ u0).setCell ⟨G, 1, none⟩ u1).setCell ⟨G, 2, none⟩ u2) := h1.set 2 u2
  have h3 : VarA G T #[u0, u1, u2, u3, q4, q5, q6] ((((X.setCell ⟨G, 0, none⟩ u0).setCell ⟨G, 1, none⟩ u1).setCell ⟨G, 2, none⟩ u2).setCell ⟨G, 3, none⟩ u3) := h2.set 3 u3
  have h4 : VarA G T #[u0, u1, u2, u3, u4, q5, q6] (((((X.setCell ⟨G, 0, none⟩ u0).setCell ⟨G, 1, none⟩ u1).setCell ⟨G, 2, none⟩ u2).setCell ⟨G, 3, none⟩ u3).setCell ⟨G, 4, none⟩ u4) := h3.set 4 u4
  have h5 : VarA G T #[u0, u1, u2, u3, u4, u5, q6] ((((((X.setCell ⟨G, 0, none⟩ u0).setCell ⟨G, 1, none⟩ u1).setCell ⟨G, 2, none⟩ u2).setCell ⟨G, 3, none⟩ u3).setCell ⟨G, 4, none⟩ u4).setCell ⟨G, 5, none⟩ u5) := h4.set 5 u5
  exact h5.set 6 u6
theorem below_set7 (h : Below base w X) (hG : base ≤ G) (u0 u1 u2 u3 u4 u5 u6 : Value) : Below base w (((((((X.setCell ⟨G, 0, none⟩ u0).setCell ⟨G, 1, none⟩ u1).setCell ⟨G, 2, none⟩ u2).setCell ⟨G, 3, none⟩ u3).setCell ⟨G, 4, none⟩ u4).setCell ⟨G, 5, none⟩ u5).setCell ⟨G, 6, none⟩ u6) :=
  ((((((h.setCell (p := ⟨G, 0, none⟩) hG _).setCell (p := ⟨G, 1, none⟩) hG _).setCell (p := ⟨G, 2, none⟩) hG _).setCell (p := ⟨G, 3, none⟩) hG _).setCell (p := ⟨G, 4, none⟩) hG _).setCell (p := ⟨G, 5, none⟩) hG _).setCell (p := ⟨G, 6, none⟩) hG _
end

set_option maxRecDepth 100000 in
set_option maxHeartbeats 800000 in
theorem roleByte_any (n : Int) (w : World) :
    Calls Tryd.prog 69 #[.int .i64 n] w fun e w' => e = .returned (.string (oneB n)) ∧ Below w.heap.size w w' := by
  have hb := byteZ_nat n
  have hr := run_string_one (P := Tryd.prog) w 81 9 5 Tryd.underlying81 Tryd.underlying5 Tryd.underlying9 (byteZ n)
  have HO : Hid (oneB n = ⟨#[byteZ n]⟩) := Lib.hid rfl
  generalize byteZ n = b at hb hr HO
  have hb2 := b.toNat_lt
  have h4 : IntKind.u8.wrap n = (b.toNat : Int) := by rw [IntKind.wrap_u8]; omega
  clear hb
  go_enter Tryd.func69, Tryd.ntmps69
  go_wp2_with fail
  go_ret
  exact ⟨ret_t HO.out, (Below.refl _ _).alloc (Nat.le_refl _) _⟩

end Go.Proofs.YtkjjdoadjhjmbatDoor
