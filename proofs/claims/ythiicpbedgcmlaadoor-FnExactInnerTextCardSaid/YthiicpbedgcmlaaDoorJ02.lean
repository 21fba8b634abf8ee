/-
  Rows of records: slices whose elements have several cells; no program is spoken of here.
  Rows of records as arguments and as what is written into; no program is spoken of here.
  The given InnerOk, InnerText and ReadInner.
  What the law on inner packets asks of the program; inner packets compared as values.
-/
import Derived.Test.YthiicpbedgcmlaaDoorJ01
import Derived.Deep.Slices
import Derived.Laws.OwnMore
import Derived.OwnWalk
import Derived.Deep.RegionHeld3
import Derived.Deep.DeepCutAuto
import Derived.Laws.StructEq
namespace Go.Proofs.YthiicpbedgcmlaaDoor
open Go.RowKit

/-- How a record lies in cells. -/
structure Rec (α : Type) where
  k : Nat
  enc : α → List Value
  len : ∀ x, (enc x).length = k
  one : ∀ x, ∀ u ∈ enc x, u.oneCell' = true
  pos : 0 < k

section
variable {α : Type} (R : Rec α)

theorem Rec.flat_length (xs : List α) : (xs.flatMap R.enc).length = xs.length * R.k := by
  induction xs with
  | nil => simp
  | cons x xs ih => rw [List.flatMap_cons, List.length_append, R.len, ih, List.length_cons, Nat.add_mul, Nat.one_mul, Nat.add_comm]
theorem Rec.flat_get (xs : List α) (j t : Nat) (x : α) (hx : xs[j]? = some x) (ht : t < R.k) : (xs.flatMap R.enc)[R.k * j + t]? = (R.enc x)[t]? := by
  induction xs generalizing j with
  | nil => simp at hx
  | cons y ys ih =>
    rw [List.flatMap_cons]
    cases j with
    | zero =>
      simp at hx
      subst hx
      rw [List.getElem?_append_left (by rw [R.len]; omega)]
      simp
    | succ j =>
      have e : R.k * (j + 1) + t = (R.enc y).length + (R.k * j + t) := by rw [R.len, Nat.mul_add, Nat.mul_one]; omega
      rw [e, List.getElem?_append_right (by omega), Nat.add_sub_cancel_left]
      exact ih j (by simpa using hx)

/-- The slice value v is nil or the call's own (from block 'base' on), and holds these records. -/
def OwnR (w : World) (base : Nat) (e : TypeId) (v : Value) (xs : List α) : Prop := w.ownsRow base e R.k v xs.length (xs.flatMap R.enc)
variable {R}

theorem OwnR.nil (w : World) (base : Nat) (e : TypeId) : OwnR R w base e (.slice none 0 0) [] := ⟨by simp, .inl ⟨rfl, rfl⟩⟩
theorem OwnR.alloc {w : World} {base : Nat} {e : TypeId} {v : Value} {xs : List α} (h : OwnR R w base e v xs) (o : Obj) : OwnR R (w.alloc o) base e v xs := World.ownsRow.alloc h o
theorem OwnR.lower {w : World} {base base' : Nat} {e : TypeId} {v : Value} {xs : List α} (h : OwnR R w base e v xs) (hb : base' ≤ base) : OwnR R w base' e v xs := by
  refine ⟨h.1, ?_⟩
  rcases h.2 with h | ⟨g, cap, cur, h1, h2, h3⟩
  · exact .inl h
  · exact .inr ⟨g, cap, cur, h1, Nat.le_trans hb h2, h3⟩
theorem OwnR.below {w w' : World} {base : Nat} {e : TypeId} {v : Value} {xs : List α} (h : OwnR R w base e v xs) (hb : Below w.heap.size w w') : OwnR R w' base e v xs := by
  refine ⟨h.1, ?_⟩
  rcases h.2 with h | ⟨g, cap, cur, h1, h2, h3, h4⟩
  · exact .inl h
  · exact .inr ⟨g, cap, cur, h1, h2, by rw [hb.block g (lt_of_block h3)]; exact h3, h4⟩
theorem OwnR.only {c : Nat} {w w' : World} {base : Nat} {e : TypeId} {v : Value} {xs : List α} (h : OwnR R w base e v xs) (ho : Only c w w') (hc : c < base) : OwnR R w' base e v xs := by
  refine ⟨h.1, ?_⟩
  rcases h.2 with hn | ⟨g, cap, cur, hv, hb, hg, rest⟩
  · exact .inl hn
  · exact .inr ⟨g, cap, cur, hv, hb, by rw [ho.block g (lt_of_block hg) (by omega)]; exact hg, rest⟩
variable (R) in
/-- A slice that can be read: nil, or its records lie in one block, from its head on. -/
def RowR (w : World) (v : Value) (xs : List α) : Prop := (v = .slice none 0 0 ∧ xs = []) ∨ ∃ g cap, v = .slice (some ⟨g, 0, none⟩) xs.length cap ∧ g < w.heap.size ∧ ∀ j t x, xs[j]? = some x → t < R.k → w.cell? ⟨g, R.k * j + t, none⟩ = (R.enc x)[t]?
theorem OwnR.row {w : World} {base : Nat} {e : TypeId} {v : Value} {xs : List α} (h : OwnR R w base e v xs) : RowR R w v xs := by
  have h' : w.ownsRow base e R.k v xs.length (xs.flatMap R.enc) := h
  rcases h'.2 with ⟨rfl, h0⟩ | ⟨g, cap, cur, rfl, hb, hh, _, _, _, _⟩
  · exact .inl ⟨rfl, List.length_eq_zero_iff.1 h0⟩
  · refine .inr ⟨g, cap, rfl, lt_of_block hh, fun j t x hx ht => ?_⟩
    have hj : j < xs.length := (List.getElem?_eq_some_iff.1 hx).1
    have hlt : R.k * j + t < xs.length * R.k := by
      have h1 : R.k * j + R.k ≤ R.k * xs.length := by rw [← Nat.mul_succ]; exact Nat.mul_le_mul_left _ hj
      rw [Nat.mul_comm xs.length]
      omega
    rw [h'.cellAt _ hlt]
    exact R.flat_get xs j t x hx ht
theorem RowR.below {w w' : World} {v : Value} {xs : List α} (h : RowR R w v xs) (hb : Below w.heap.size w w') : RowR R w' v xs := by
  rcases h with h | ⟨g, cap, hv, h3, h4⟩
  · exact .inl h
  · exact .inr ⟨g, cap, hv, Nat.lt_of_lt_of_le h3 hb.size, fun j t x hx ht => by rw [hb.cell (p := ⟨g, R.k * j + t, none⟩) h3]; exact h4 j t x hx ht⟩
end
end Go.Proofs.YthiicpbedgcmlaaDoor
namespace Go.Proofs.YthiicpbedgcmlaaDoor
open Go.RowKit

/-- A variable of some cells in a block of its own. -/
structure VarA (r : Nat) (t : TypeId) (cs : Array Value) (X : World) : Prop where
  row : X.heap[r]? = some (.cells cs t (0, 0))
theorem VarA.next {r : Nat} {t : TypeId} {cs : Array Value} {X Y : World} (h : VarA r t cs X) (hb : Below X.heap.size X Y) : VarA r t cs Y := ⟨by rw [hb.block r (lt_of_block h.row)]; exact h.row⟩
theorem VarA.drew {r : Nat} {t : TypeId} {cs : Array Value} {X : World} (h : VarA r t cs X) : VarA r t cs X.drew := ⟨h.row⟩
theorem VarA.cell {r : Nat} {t : TypeId} {cs : Array Value} {X : World} (h : VarA r t cs X) (j : Nat) : X.cell? ⟨r, j, none⟩ = cs[j]? := by rw [cell_of_row X r j _ t (0, 0) h.row]
theorem VarA.free {r : Nat} {t : TypeId} {cs : Array Value} {X : World} (h : VarA r t cs X) (j : Nat) : X.frozen? ⟨r, j, none⟩ = false := frozen_of_row X r j _ t h.row
theorem VarA.set {r : Nat} {t : TypeId} {cs : Array Value} {X : World} (h : VarA r t cs X) (j : Nat) (v : Value) : VarA r t (cs.setIfInBounds j v) (X.setCell ⟨r, j, none⟩ v) := ⟨heap_setCell_same X r j cs t v h.row⟩
theorem VarA.only {r q : Nat} {t : TypeId} {cs : Array Value} {X Y : World} (h : VarA r t cs X) (ho : Only q X Y) (hr : r ≠ q) : VarA r t cs Y := ⟨by rw [ho.block r (lt_of_block h.row) hr]; exact h.row⟩
theorem VarA.off {r q : Nat} {t : TypeId} {cs : Array Value} {X : World} (h : VarA r t cs X) (j : Nat) (v : Value) (hr : r ≠ q) : VarA r t cs (X.setCell ⟨q, j, none⟩ v) := h.only (Only.setCell j v) hr
theorem VarA.new (w : World) (t : TypeId) (cs : Array Value) : VarA w.heap.size t cs (w.alloc (.cells cs t)) := ⟨heap_alloc_new w _⟩
theorem VarA.lt {r : Nat} {t : TypeId} {cs : Array Value} {X : World} (h : VarA r t cs X) : r < X.heap.size := lt_of_block h.row
theorem VarA.alloc {r : Nat} {t : TypeId} {cs : Array Value} {X : World} (h : VarA r t cs X) (o : Obj) : VarA r t cs (X.alloc o) := h.next ((Below.refl _ _).alloc (Nat.le_refl _) o)

/-- Several cells of one block, one behind another. -/
def setCells (w : World) (g off : Nat) : List Value → World
  | [] => w
  | v :: vs => setCells (w.setCell ⟨g, off, none⟩ v) g (off + 1) vs
def setL (xs : List Value) (off : Nat) : List Value → List Value
  | [] => xs
  | v :: vs => setL (xs.set off v) (off + 1) vs
theorem setL_mid (vs ys A B : List Value) (h : ys.length = vs.length) : setL (A ++ ys ++ B) A.length vs = A ++ vs ++ B := by
  induction vs generalizing ys A with
  | nil =>
    have : ys = [] := List.length_eq_zero_iff.1 h
    subst this
    rfl
  | cons v vs ih =>
    match ys, h with
    | y :: ys, h =>
      have h1 : ys.length = vs.length := by simpa using h
      have e : (A ++ y :: ys ++ B).set A.length v = (A ++ [v]) ++ ys ++ B := by
        rw [List.append_assoc, List.set_append_right _ _ (Nat.le_refl _)]
        simp
      show setL ((A ++ y :: ys ++ B).set A.length v) (A.length + 1) vs = A ++ v :: vs ++ B
      rw [e]
      have e2 : A.length + 1 = (A ++ [v]).length := by simp
      rw [e2, ih ys (A ++ [v]) h1]
      simp

section
variable {α : Type} {R : Rec α}

theorem Rec.setL_flat (l : List α) (j : Nat) (x : α) (hj : j < l.length) : setL (l.flatMap R.enc) (R.k * j) (R.enc x) = (l.set j x).flatMap R.enc := by
  have e : l = l.take j ++ l[j] :: l.drop (j + 1) := by rw [List.getElem_cons_drop, List.take_append_drop]
  have e1 : l.flatMap R.enc = (l.take j).flatMap R.enc ++ R.enc l[j] ++ (l.drop (j + 1)).flatMap R.enc := by
    conv => lhs; rw [e]
    rw [List.flatMap_append, List.flatMap_cons, List.append_assoc]
  have e2 : (l.set j x).flatMap R.enc = (l.take j).flatMap R.enc ++ R.enc x ++ (l.drop (j + 1)).flatMap R.enc := by
    rw [List.set_eq_take_append_cons_drop, if_pos hj, List.flatMap_append, List.flatMap_cons, List.append_assoc]
  have e3 : R.k * j = ((l.take j).flatMap R.enc).length := by rw [R.flat_length, List.length_take, Nat.min_eq_left (by omega), Nat.mul_comm]
  rw [e1, e2, e3]
  exact setL_mid _ _ _ _ (by rw [R.len, R.len])

theorem grown_trans {w w1 w2 : World} {r : Option Nat} (h : w.grownBy w1 r) (k : w1.grownBy w2 r) : w.grownBy w2 r :=
  ⟨k.os.trans h.os, k.tape.trans h.tape, k.output.trans h.output, Nat.le_trans h.size k.size, fun i hi hc => (k.block i (Nat.lt_of_lt_of_le hi h.size) hc).trans (h.block i hi hc)⟩
theorem ownsRow_setCells {w : World} {base : Nat} {e : TypeId} {size g n cap : Nat} {xs : List Value} (vs : List Value) (off : Nat) (h : w.ownsRow base e size (.slice (some ⟨g, 0, none⟩) n cap) n xs) :
    (setCells w g off vs).ownsRow base e size (.slice (some ⟨g, 0, none⟩) n cap) n (setL xs off vs) ∧ w.grownBy (setCells w g off vs) (some g) := by
  induction vs generalizing w xs off with
  | nil => exact ⟨h, World.grownBy.refl w _⟩
  | cons v vs ih =>
    have h1 := h.stored off v
    have h2 := ih (off + 1) h1.1
    exact ⟨h2.1, grown_trans h1.2 h2.2⟩

/-- One record of a row is written. -/
theorem OwnR.put {w : World} {base : Nat} {e : TypeId} {g cap : Nat} {l : List α} (h : OwnR R w base e (.slice (some ⟨g, 0, none⟩) l.length cap) l) (j : Nat) (x : α) (hj : j < l.length) :
    OwnR R (setCells w g (R.k * j) (R.enc x)) base e (.slice (some ⟨g, 0, none⟩) l.length cap) (l.set j x) ∧ w.grownBy (setCells w g (R.k * j) (R.enc x)) (some g) := by
  have h1 := ownsRow_setCells (R.enc x) (R.k * j) h
  rw [R.setL_flat l j x hj] at h1
  refine ⟨?_, h1.2⟩
  unfold OwnR
  rw [List.length_set]
  exact h1.1

/-- The row is no other's. -/
theorem OwnR.kept {w w' : World} {base : Nat} {e : TypeId} {v : Value} {l : List α} {r : Option Nat} (h : OwnR R w base e v l) (hg : w.grownBy w' r) (hne : v.ownBlock = none ∨ v.ownBlock ≠ r) : OwnR R w' base e v l := World.ownsRow.kept h hg hne
theorem OwnR.lt {w : World} {base : Nat} {e : TypeId} {v : Value} {l : List α} (h : OwnR R w base e v l) : ∀ k, v.ownBlock = some k → base ≤ k ∧ k < w.heap.size := World.ownsRow.lt h

variable (R) in
/-- An argument that is a row of records: at whatever place of its block it begins. -/
def SrcR (w : World) (a : Option Addr) (xs : List α) : Prop := xs = [] ∨ ∃ b off, a = some ⟨b, off, none⟩ ∧ b < w.heap.size ∧ ∀ j t x, xs[j]? = some x → t < R.k → w.cell? ⟨b, off + (R.k * j + t), none⟩ = (R.enc x)[t]?
theorem SrcR.below {w w' : World} {a : Option Addr} {xs : List α} (h : SrcR R w a xs) (hb : Below w.heap.size w w') : SrcR R w' a xs := by
  rcases h with h | ⟨b, off, ha, hl, hc⟩
  · exact .inl h
  · exact .inr ⟨b, off, ha, Nat.lt_of_lt_of_le hl hb.size, fun j t x hx ht => by rw [hb.cell (p := ⟨b, off + (R.k * j + t), none⟩) hl]; exact hc j t x hx ht⟩
end
end Go.Proofs.YthiicpbedgcmlaaDoor
namespace Go.Proofs.YthiicpbedgcmlaaDoor
open Go.RowKit

abbrev InnerT : TypeId := 25

set_option maxRecDepth 100000 in
set_option maxHeartbeats 800000 in
theorem specInnerOk_bool (a b : Int) (t : ByteArray) (c : Bool) (hc : c = true ↔ InnerP a b t) (w : World) :
    Calls Tryd.prog 13 #[.agg #[.int .i64 a, .int .i64 b, .string t]] w fun e w' => e = .returned (.bool c) ∧ Below w.heap.size w w' := by
  have HF : Hid (¬ InnerP a b t → c = false) := Lib.hid (fun h => Bool.eq_false_iff.2 fun e => h (hc.1 e))
  have HC := Lib.hid hc
  have A0 := Lib.hid (VarA.new w InnerT #[.int .i64 a, .int .i64 b, .string t])
  have B0 := Lib.hid ((Below.refl w.heap.size w).alloc (Nat.le_refl _) (.cells #[.int .i64 a, .int .i64 b, .string t] InnerT))
  clear hc
  go_enter Tryd.func13, Tryd.ntmps13
  go_upto_region 1 with fail
  generalize w.alloc (.cells #[.int .i64 a, .int .i64 b, .string t] InnerT) = Y at *
  have c0 : Y.cell? ⟨w.heap.size, 0, none⟩ = some (.int .i64 a) := A0.out.cell 0
  have c1 : Y.cell? ⟨w.heap.size, 1, none⟩ = some (.int .i64 b) := A0.out.cell 1
  have c2 : Y.cell? ⟨w.heap.size, 2, none⟩ = some (.string t) := A0.out.cell 2
  by_cases ha : 0 ≤ a ∧ a ≤ 4294967295
  rotate_left
  · obtain rfl := HF.out (fun h => ha h.1)
    have K := Lib.hid (specAddrOk_no a (by omega))
    clear HF HC ha
    go_wp2_with fail
    refine (K.out _).mono ?_
    rintro e w1 ⟨rfl, rfl⟩
    go_wp2_with fail
    go_ret
    exact ⟨rfl, B0.out⟩
  have K := Lib.hid (specAddrOk_yes a ha.1 ha.2)
  by_cases hb : 0 ≤ b ∧ b ≤ 4294967295
  rotate_left
  · obtain rfl := HF.out (fun h => hb h.2.1)
    have K2 := Lib.hid (specAddrOk_no b (by omega))
    clear HF HC ha hb
    go_wp2_with fail
    refine (K.out _).mono ?_
    rintro e w1 ⟨rfl, rfl⟩
    go_wp2_with fail
    refine (K2.out _).mono ?_
    rintro e w1 ⟨rfl, rfl⟩
    go_wp2_with fail
    go_ret
    exact ⟨rfl, B0.out⟩
  have K2 := Lib.hid (specAddrOk_yes b hb.1 hb.2)
  have hd : decide ((t.size : Int) ≤ 100) = c := by
    cases c with
    | true => exact decide_eq_true (by have := (HC.out.1 rfl).2.2; omega)
    | false => exact decide_eq_false (fun h => by have := HC.out.2 ⟨ha, hb, by omega⟩; cases this)
  clear HF HC ha hb
  go_wp2_with fail
  refine (K.out _).mono ?_
  rintro e w1 ⟨rfl, rfl⟩
  go_wp2_with fail
  refine (K2.out _).mono ?_
  rintro e w1 ⟨rfl, rfl⟩
  go_wp2_with fail
  go_ret
  exact ⟨rfl, B0.out⟩

set_option maxRecDepth 100000 in
set_option maxHeartbeats 1600000 in
theorem specInnerText_any (a b : Int) (t s : ByteArray) (ok : Bool) (h : InnerTextIs a b t s ok) (w : World) :
    Calls Tryd.prog 17 #[.agg #[.int .i64 a, .int .i64 b, .string t]] w fun e w' => e = .returned (.tuple #[.string s, .bool ok]) ∧ Below w.heap.size w w' := by
  have A0 := Lib.hid (VarA.new w InnerT #[.int .i64 a, .int .i64 b, .string t])
  have B0 := Lib.hid ((Below.refl w.heap.size w).alloc (Nat.le_refl _) (.cells #[.int .i64 a, .int .i64 b, .string t] InnerT))
  go_enter Tryd.func17, Tryd.ntmps17
  go_upto_region 1 with fail
  generalize w.alloc (.cells #[.int .i64 a, .int .i64 b, .string t] InnerT) = Y at *
  have c0 : Y.cell? ⟨w.heap.size, 0, none⟩ = some (.int .i64 a) := A0.out.cell 0
  have c1 : Y.cell? ⟨w.heap.size, 1, none⟩ = some (.int .i64 b) := A0.out.cell 1
  have c2 : Y.cell? ⟨w.heap.size, 2, none⟩ = some (.string t) := A0.out.cell 2
  rcases h with ⟨rfl, hp, hs⟩ | ⟨rfl, hp, rfl⟩
  · have K := Lib.hid (specInnerOk_bool a b t true ⟨fun _ => hp, fun _ => rfl⟩ Y)
    obtain ⟨m, rfl⟩ := Int.eq_ofNat_of_zero_le hp.1.1
    obtain ⟨n, rfl⟩ := Int.eq_ofNat_of_zero_le hp.2.1.1
    have hm : m < 4294967296 := by have := hp.1; omega
    have hn : n < 4294967296 := by have := hp.2.1; omega
    have hz := hp.2.2
    rw [Int.toNat_natCast, Int.toNat_natCast] at hs
    unfold innerT fourB at hs
    clear hp
    have HS := Lib.hid hs
    clear hs
    go_wp2_with fail
    refine (K.out).mono ?_
    rintro e X ⟨rfl, hb⟩
    replace A0 := Lib.hid (A0.out.next hb)
    replace B0 := Lib.hid (B0.out.trans (hb.mono B0.out.size))
    clear hb K c0 c1 c2
    have l1 : ¬ 9223372036854775807 < (four m).length + (four n).length := by rw [four_length, four_length]; omega
    have l2 : ¬ 9223372036854775807 < (four m).length + (four n).length + t.size := by rw [four_length, four_length]; omega
    have SS : ∀ Z : World, Below X.heap.size X Z → Z.cell? ⟨w.heap.size, 0, none⟩ = some (.int .i64 (m : Int)) ∧ Z.cell? ⟨w.heap.size, 1, none⟩ = some (.int .i64 (n : Int)) ∧ Z.cell? ⟨w.heap.size, 2, none⟩ = some (.string t) ∧ Below X.heap.size X Z := fun Z hZ => ⟨(A0.out.next hZ).cell 0, (A0.out.next hZ).cell 1, (A0.out.next hZ).cell 2, hZ⟩
    have S0 := SS X.drew (Below.refl _ _).drew
    have KN : Hid (∀ (k : Nat) (Z : World), k < 4294967296 → (Z.cell? ⟨w.heap.size, 0, none⟩ = some (.int .i64 (m : Int)) ∧ Z.cell? ⟨w.heap.size, 1, none⟩ = some (.int .i64 (n : Int)) ∧ Z.cell? ⟨w.heap.size, 2, none⟩ = some (.string t) ∧ Below X.heap.size X Z) → Calls Tryd.prog 32 #[.int .i64 (k : Int)] Z fun e Y => e = .returned (.string ⟨(four k).toArray⟩) ∧ (Y.cell? ⟨w.heap.size, 0, none⟩ = some (.int .i64 (m : Int)) ∧ Y.cell? ⟨w.heap.size, 1, none⟩ = some (.int .i64 (n : Int)) ∧ Y.cell? ⟨w.heap.size, 2, none⟩ = some (.string t) ∧ Below X.heap.size X Y)) := Lib.hid (fun k Z hk hZ => (specNumberText_yes k hk Z).mono fun e Y h => ⟨h.1, SS Y (hZ.2.2.2.trans (h.2.mono hZ.2.2.2.size))⟩)
    clear SS
    go_wp2_with fail
    go_region_held3 (fun Z => Z.cell? ⟨w.heap.size, 0, none⟩ = some (.int .i64 (m : Int)) ∧ Z.cell? ⟨w.heap.size, 1, none⟩ = some (.int .i64 (n : Int)) ∧ Z.cell? ⟨w.heap.size, 2, none⟩ = some (.string t) ∧ Below X.heap.size X Z) (first | (with_reducible assumption)) (first | (go_at_call 32; refine (KN.out _ _ (by assumption) (by assumption)).mono ?_; rintro e v1 ⟨rfl, hS⟩))
    all_goals
      have B := Lib.hid (B0.out.trans (hS.2.2.2.mono B0.out.size))
      clear hS
      go_wp2_with fail
      go_ret2
      exact ⟨by rw [HS.out]; rfl, B.out⟩
  · have K := Lib.hid (specInnerOk_bool a b t false ⟨fun e => (by cases e), fun e => absurd e hp⟩ Y)
    clear hp
    go_wp2_with fail
    refine (K.out).mono ?_
    rintro e X ⟨rfl, hb⟩
    have B := Lib.hid (B0.out.trans (hb.mono B0.out.size))
    clear hb K
    go_wp2_with fail
    go_ret2
    exact ⟨rfl, B.out⟩

/-- What ReadInner hands back. -/
def ReadEnd (a b : Int) (t : ByteArray) (ok : Bool) (w : World) (e : Ending) (w' : World) : Prop := e = .returned (.tuple #[.agg #[.int .i64 a, .int .i64 b, .string t], .bool ok]) ∧ Below w.heap.size w w'

end Go.Proofs.YthiicpbedgcmlaaDoor
namespace Go.Proofs.YthiicpbedgcmlaaDoor
open Go.RowKit

/-- The program's contracts; L is what the worlds must hold. -/
structure InnerFns (L : World → Prop) : Prop where
  stays : ∀ X Y : World, L X → Below X.heap.size X Y → L Y
  ok : ∀ (a b : Int) (t : ByteArray) (c : Bool), (c = true ↔ InnerP a b t) → t.size ≤ 1048576 → ∀ X : World, L X → Calls Tryd.prog 14 #[.agg #[.int .i64 a, .int .i64 b, .string t]] X fun e Y => e = .returned (.bool c) ∧ Below X.heap.size X Y
  text : ∀ (a b : Int) (t s : ByteArray) (c : Bool), InnerTextIs a b t s c → t.size ≤ 1048576 → ∀ X : World, L X → Calls Tryd.prog 9 #[.agg #[.int .i64 a, .int .i64 b, .string t]] X fun e Y => e = .returned (.tuple #[.string s, .bool c]) ∧ Below X.heap.size X Y
  read : ∀ (s : ByteArray) (a b : Int) (t : ByteArray) (c : Bool), ReadInnerIs s a b t c → s.size ≤ 1048576 → ∀ X : World, L X → Calls Tryd.prog 10 #[.string s] X (ReadEnd a b t c X)

end Go.Proofs.YthiicpbedgcmlaaDoor
