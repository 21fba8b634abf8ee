/-
  Rows of records: slices whose elements have several cells; no program is spoken of here.
  Rows of records as arguments and as what is written into; no program is spoken of here.
  Plain mathematics of figures: two for each byte, and back; no program is spoken of here.
-/
import Derived.Test.YtoaifgblbfdncaaDoorJ01
import Derived.Deep.Slices
import Derived.Laws.OwnMore
import Derived.OwnWalk
import Derived.WalkKit
namespace Go.Proofs.YtoaifgblbfdncaaDoor
open Go.RowKit

/-- How a record lies in cells. -/
structure Rec (α : Type) where
  k : Nat
  enc : α → List Value
  len : ∀ x, (enc x).length = k
  one : ∀ x, ∀ u ∈ enc x, u.oneCell' = true
  pos : 0 < k

/-- What is told of a type of records, in parts. -/
theorem info_rec {P : Program} {t : TypeId} {n b : Nat} (h : (P.info? t).map (fun i => (i.zero.map (·.cells.size), i.size, i.bytes)) = some (some n, n, b)) : ∃ (i : TypeInfo) (z : Value), P.info? t = some i ∧ i.zero = some z ∧ z.cells.size = n ∧ i.size = n ∧ i.bytes = b := by
  cases hi : P.info? t with
  | none => simp [hi] at h
  | some i =>
    simp [hi] at h
    obtain ⟨⟨z, hz, hn⟩, hs, hb⟩ := h
    exact ⟨i, z, rfl, hz, hn, hs, hb⟩
theorem filter_take {α : Type} (p : α → Bool) (xs : List α) (k : Nat) (h : k < xs.length) : (xs.take (k + 1)).filter p = (xs.take k).filter p ++ (if p xs[k] = true then [xs[k]] else []) := by
  rw [List.take_add_one, List.getElem?_eq_getElem h, List.filter_append]
  congr 1
  show List.filter p [xs[k]] = _
  rw [List.filter_cons]
  split <;> simp_all

section
variable {α : Type} (R : Rec α)

theorem Rec.flat_length (xs : List α) : (xs.flatMap R.enc).length = xs.length * R.k := by
  induction xs with
  | nil => simp
  | cons x xs ih => rw [List.flatMap_cons, List.length_append, R.len, ih, List.length_cons, Nat.add_mul, Nat.one_mul, Nat.add_comm]
theorem Rec.flat_get (xs : List α) (j t : Nat) (x : α) (hx : xs[j]? = some x) (ht : t < R.k) : (xs.flatMap R.enc)[R.k * j + t]? = (R.enc x)[t]? := by
  induction xs generalizing j with
  | nil => simp at hx
  | cons y ys ih =>
    rw [List.flatMap_cons]
    cases j with
    | zero =>
      simp at hx
      subst hx
      rw [List.getElem?_append_left (by rw [R.len]; omega)]
      simp
    | succ j =>
      have e : R.k * (j + 1) + t = (R.enc y).length + (R.k * j + t) := by rw [R.len, Nat.mul_add, Nat.mul_one]; omega
      rw [e, List.getElem?_append_right (by omega), Nat.add_sub_cancel_left]
      exact ih j (by simpa using hx)

/-- The slice value v is nil or the call's own (from block 'base' on), and holds these records. -/
def OwnR (w : World) (base : Nat) (e : TypeId) (v : Value) (xs : List α) : Prop := w.ownsRow base e R.k v xs.length (xs.flatMap R.enc)
variable {R}

theorem OwnR.nil (w : World) (base : Nat) (e : TypeId) : OwnR R w base e (.slice none 0 0) [] := ⟨by simp, .inl ⟨rfl, rfl⟩⟩
theorem OwnR.lit (w : World) (base : Nat) (e : TypeId) (hb : base ≤ w.heap.size) : OwnR R (w.alloc (.cells #[] e)) base e (.slice (some ⟨w.heap.size, 0, none⟩) 0 0) [] :=
  World.ownsRow_lit w #[] 0 hb (by decide) (by simp)
theorem OwnR.alloc {w : World} {base : Nat} {e : TypeId} {v : Value} {xs : List α} (h : OwnR R w base e v xs) (o : Obj) : OwnR R (w.alloc o) base e v xs := World.ownsRow.alloc h o
theorem OwnR.lower {w : World} {base base' : Nat} {e : TypeId} {v : Value} {xs : List α} (h : OwnR R w base e v xs) (hb : base' ≤ base) : OwnR R w base' e v xs := by
  refine ⟨h.1, ?_⟩
  rcases h.2 with h | ⟨g, cap, cur, h1, h2, h3⟩
  · exact .inl h
  · exact .inr ⟨g, cap, cur, h1, Nat.le_trans hb h2, h3⟩
theorem OwnR.below {w w' : World} {base : Nat} {e : TypeId} {v : Value} {xs : List α} (h : OwnR R w base e v xs) (hb : Below w.heap.size w w') : OwnR R w' base e v xs := by
  refine ⟨h.1, ?_⟩
  rcases h.2 with h | ⟨g, cap, cur, h1, h2, h3, h4⟩
  · exact .inl h
  · exact .inr ⟨g, cap, cur, h1, h2, by rw [hb.block g (lt_of_block h3)]; exact h3, h4⟩
theorem OwnR.only {c : Nat} {w w' : World} {base : Nat} {e : TypeId} {v : Value} {xs : List α} (h : OwnR R w base e v xs) (ho : Only c w w') (hc : c < base) : OwnR R w' base e v xs := by
  refine ⟨h.1, ?_⟩
  rcases h.2 with hn | ⟨g, cap, cur, hv, hb, hg, rest⟩
  · exact .inl hn
  · exact .inr ⟨g, cap, cur, hv, hb, by rw [ho.block g (lt_of_block hg) (by omega)]; exact hg, rest⟩
/-- The shape of an owned row of records, and its cells. -/
theorem OwnR.form {w : World} {base : Nat} {e : TypeId} {v : Value} {xs : List α} (h : OwnR R w base e v xs) : ∃ ao cap, v = .slice ao xs.length cap ∧
    (0 < xs.length → ∃ g, ao = some ⟨g, 0, none⟩ ∧ base ≤ g ∧ g < w.heap.size ∧ ∀ j t x, xs[j]? = some x → t < R.k → w.cell? ⟨g, R.k * j + t, none⟩ = (R.enc x)[t]? ∧ w.frozen? ⟨g, R.k * j + t, none⟩ = false) := by
  have h' : w.ownsRow base e R.k v xs.length (xs.flatMap R.enc) := h
  rcases h'.2 with ⟨rfl, h0⟩ | ⟨g, cap, cur, rfl, hb, hh, _, _, _, _⟩
  · exact ⟨none, 0, by rw [h0], fun hp => by omega⟩
  · refine ⟨_, cap, rfl, fun _ => ⟨g, rfl, hb, lt_of_block hh, fun j t x hx ht => ⟨?_, h'.frozenAt _⟩⟩⟩
    have hj : j < xs.length := (List.getElem?_eq_some_iff.1 hx).1
    have hlt : R.k * j + t < xs.length * R.k := by
      have h1 : R.k * j + R.k ≤ R.k * xs.length := by rw [← Nat.mul_succ]; exact Nat.mul_le_mul_left _ hj
      rw [Nat.mul_comm xs.length]
      omega
    rw [h'.cellAt _ hlt]
    exact R.flat_get xs j t x hx ht

variable (R) in
/-- A slice that can be read: nil, or its records lie in one block, from its head on. -/
def RowR (w : World) (v : Value) (xs : List α) : Prop := (v = .slice none 0 0 ∧ xs = []) ∨ ∃ g cap, v = .slice (some ⟨g, 0, none⟩) xs.length cap ∧ g < w.heap.size ∧ ∀ j t x, xs[j]? = some x → t < R.k → w.cell? ⟨g, R.k * j + t, none⟩ = (R.enc x)[t]?
theorem OwnR.row {w : World} {base : Nat} {e : TypeId} {v : Value} {xs : List α} (h : OwnR R w base e v xs) : RowR R w v xs := by
  have h' : w.ownsRow base e R.k v xs.length (xs.flatMap R.enc) := h
  rcases h'.2 with ⟨rfl, h0⟩ | ⟨g, cap, cur, rfl, hb, hh, _, _, _, _⟩
  · exact .inl ⟨rfl, List.length_eq_zero_iff.1 h0⟩
  · refine .inr ⟨g, cap, rfl, lt_of_block hh, fun j t x hx ht => ?_⟩
    have hj : j < xs.length := (List.getElem?_eq_some_iff.1 hx).1
    have hlt : R.k * j + t < xs.length * R.k := by
      have h1 : R.k * j + R.k ≤ R.k * xs.length := by rw [← Nat.mul_succ]; exact Nat.mul_le_mul_left _ hj
      rw [Nat.mul_comm xs.length]
      omega
    rw [h'.cellAt _ hlt]
    exact R.flat_get xs j t x hx ht
theorem RowR.below {w w' : World} {v : Value} {xs : List α} (h : RowR R w v xs) (hb : Below w.heap.size w w') : RowR R w' v xs := by
  rcases h with h | ⟨g, cap, hv, h3, h4⟩
  · exact .inl h
  · exact .inr ⟨g, cap, hv, Nat.lt_of_lt_of_le h3 hb.size, fun j t x hx ht => by rw [hb.cell (p := ⟨g, R.k * j + t, none⟩) h3]; exact h4 j t x hx ht⟩
theorem RowR.form {w : World} {v : Value} {xs : List α} (h : RowR R w v xs) : ∃ ao cap, v = .slice ao xs.length cap ∧ (0 < xs.length → ∃ g, ao = some ⟨g, 0, none⟩ ∧ g < w.heap.size ∧ ∀ j t x, xs[j]? = some x → t < R.k → w.cell? ⟨g, R.k * j + t, none⟩ = (R.enc x)[t]?) := by
  rcases h with ⟨rfl, rfl⟩ | ⟨g, cap, hv, h3, h4⟩
  · exact ⟨none, 0, rfl, fun h => absurd h (by simp)⟩
  · exact ⟨_, cap, hv, fun _ => ⟨g, rfl, h3, h4⟩⟩
/-- The cells of a row that can be read, one by one. -/
theorem Rec.flat_cells {w : World} {g : Nat} {xs : List α} (h : ∀ j t x, xs[j]? = some x → t < R.k → w.cell? ⟨g, R.k * j + t, none⟩ = (R.enc x)[t]?) (i : Nat) (u : Value) (hu : (xs.flatMap R.enc)[i]? = some u) : w.cell? ⟨g, i, none⟩ = some u := by
  have hi : i < xs.length * R.k := by rw [← R.flat_length xs]; exact (List.getElem?_eq_some_iff.1 hu).1
  have hk := R.pos
  have hj : i / R.k < xs.length := (Nat.div_lt_iff_lt_mul hk).2 hi
  have hx : xs[i / R.k]? = some xs[i / R.k] := List.getElem?_eq_getElem hj
  have ht : i % R.k < R.k := Nat.mod_lt _ hk
  have e : R.k * (i / R.k) + i % R.k = i := Nat.div_add_mod i R.k
  have h1 := h _ _ _ hx ht
  have h2 := R.flat_get xs _ _ _ hx ht
  rw [e] at h1 h2
  rw [h1, ← h2, hu]

/-- 'append(out, list...)': out a row of records of the call's own, list one that can be read. -/
theorem wpList_copyR {P : Program} (w : World) {ops : Array Oper} {rest : List Oper} {o : Oper} {a : Act} {Q : Exit → Act → World → Prop} (hgd : o.guard = none) (s x : Operand) (t : TypeId)
    (ho : o.op = .call { callee := .builtin .append, args := #[s, x], argTypes := #[t, t] })
    (base : Nat) (e : TypeId) (i : TypeInfo) (z : Value) (bytes : Nat) (ht : P.underlying t = some (.slice e)) (hi : P.info? e = some i) (hz : i.zero = some z)
    (hsize : i.size = R.k) (hby : i.bytes = bytes) (hzs : z.cells.size = R.k) (hb1 : bytes ≤ 1000) (v : Value) (xs : List α) (hs : a.eval s = v) (hown : OwnR R w base e v xs)
    (g cap : Nat) (ys : List α) (hx : a.eval x = .slice (some ⟨g, 0, none⟩) ys.length cap) (hys : ∀ j t x, ys[j]? = some x → t < R.k → w.cell? ⟨g, R.k * j + t, none⟩ = (R.enc x)[t]?)
    (hlen : xs.length + ys.length ≤ 1000000000) (hbase : base ≤ w.heap.size)
    (h : ∀ v' w', OwnR R w' base e v' (xs ++ ys) → Below base w w' → wpList P ops Q rest (a.put o.dst v') w') :
    wpList P ops Q (o :: rest) a w := by
  refine wpList_append_own w hgd s x t ho base e i z R.k bytes ht hi hz hsize hby hzs R.pos v xs.length (xs.flatMap R.enc) hs hown ⟨g, 0, none⟩ ys.length cap (ys.flatMap R.enc) hx (R.flat_length ys) ?_ ?_ (by unfold maxLen; omega) ?_ hbase ?_
  · intro j u hj
    have e1 : (⟨g, 0, none⟩ : Addr).add j = ⟨g, j, none⟩ := by unfold Addr.add; split <;> simp_all
    rw [e1]
    exact Rec.flat_cells hys j u hj
  · intro u hu
    obtain ⟨y, _, hy⟩ := List.mem_flatMap.1 hu
    exact R.one y u hy
  · have h1 : (xs.length + ys.length) * bytes ≤ 1000000000 * 1000 := Nat.mul_le_mul hlen hb1
    omega
  · intro v' w' h1 h2 _
    refine h v' w' ?_ ?_
    · unfold OwnR
      rw [List.length_append, List.flatMap_append]
      exact h1
    · exact (Below.refl base w).grown h2 hbase (fun k hk => (World.ownsRow.lt hown k hk).1)

/-- 'out = append(out, x)': out a row of records of the call's own. -/
theorem wpList_pushR {P : Program} (w : World) {ops : Array Oper} {rest : List Oper} {o : Oper} {a : Act} {Q : Exit → Act → World → Prop} (hgd : o.guard = none) (s x : Operand) (t : TypeId)
    (ho : o.op = .call { callee := .builtin .append, args := #[s, x], argTypes := #[t, t] })
    (base : Nat) (e : TypeId) (i : TypeInfo) (z : Value) (bytes : Nat) (ht : P.underlying t = some (.slice e)) (hi : P.info? e = some i) (hz : i.zero = some z)
    (hsize : i.size = R.k) (hby : i.bytes = bytes) (hzs : z.cells.size = R.k) (hb1 : bytes ≤ 1000) (v : Value) (xs : List α) (hs : a.eval s = v) (hown : OwnR R w base e v xs)
    (y : α) (cs : Array Value) (hcs : cs.toList = R.enc y) (hx : a.eval x = .slice (some ⟨w.heap.size, 0, none⟩) 1 1)
    (hlen : xs.length + 1 ≤ 1000000000) (hbase : base ≤ w.heap.size)
    (h : ∀ v' w', OwnR R w' base e v' (xs ++ [y]) → Below base w w' → wpList P ops Q rest (a.put o.dst v') w') :
    wpList P ops Q (o :: rest) a (w.alloc (.cells cs e)) := by
  refine wpList_append_own (w.alloc (.cells cs e)) hgd s x t ho base e i z R.k bytes ht hi hz hsize hby hzs R.pos v xs.length (xs.flatMap R.enc) hs (World.ownsRow.alloc hown _) ⟨w.heap.size, 0, none⟩ 1 1 (R.enc y) hx (by rw [R.len, Nat.one_mul]) ?_ (R.one y) (by unfold maxLen; omega) ?_ (by simp; omega) ?_
  · intro j u hj
    have e1 : (⟨w.heap.size, 0, none⟩ : Addr).add j = ⟨w.heap.size, j, none⟩ := by unfold Addr.add; split <;> simp_all
    rw [e1, cell_of_row (w.alloc (.cells cs e)) w.heap.size j cs e (0, 0) (heap_alloc_new w _)]
    rw [← hcs] at hj
    simpa using hj
  · have h1 : (xs.length + 1) * bytes ≤ 1000000000 * 1000 := Nat.mul_le_mul hlen hb1
    omega
  · intro v' w' h1 h2 _
    refine h v' w' ?_ ?_
    · unfold OwnR
      rw [List.length_append, List.flatMap_append, List.flatMap_cons, List.flatMap_nil, List.append_nil]
      exact h1
    · exact ((Below.refl base w).alloc hbase _).grown h2 (by simp; omega) (fun k hk => (World.ownsRow.lt hown k hk).1)

end
end Go.Proofs.YtoaifgblbfdncaaDoor
namespace Go.Proofs.YtoaifgblbfdncaaDoor
open Go.RowKit

/-- A variable of some cells in a block of its own. -/
structure VarA (r : Nat) (t : TypeId) (cs : Array Value) (X : World) : Prop where
  row : X.heap[r]? = some (.cells cs t (0, 0))
theorem VarA.next {r : Nat} {t : TypeId} {cs : Array Value} {X Y : World} (h : VarA r t cs X) (hb : Below X.heap.size X Y) : VarA r t cs Y := ⟨by rw [hb.block r (lt_of_block h.row)]; exact h.row⟩
theorem VarA.drew {r : Nat} {t : TypeId} {cs : Array Value} {X : World} (h : VarA r t cs X) : VarA r t cs X.drew := ⟨h.row⟩
theorem VarA.cell {r : Nat} {t : TypeId} {cs : Array Value} {X : World} (h : VarA r t cs X) (j : Nat) : X.cell? ⟨r, j, none⟩ = cs[j]? := by rw [cell_of_row X r j _ t (0, 0) h.row]
theorem VarA.free {r : Nat} {t : TypeId} {cs : Array Value} {X : World} (h : VarA r t cs X) (j : Nat) : X.frozen? ⟨r, j, none⟩ = false := frozen_of_row X r j _ t h.row
theorem VarA.set {r : Nat} {t : TypeId} {cs : Array Value} {X : World} (h : VarA r t cs X) (j : Nat) (v : Value) : VarA r t (cs.setIfInBounds j v) (X.setCell ⟨r, j, none⟩ v) := ⟨heap_setCell_same X r j cs t v h.row⟩
theorem VarA.only {r q : Nat} {t : TypeId} {cs : Array Value} {X Y : World} (h : VarA r t cs X) (ho : Only q X Y) (hr : r ≠ q) : VarA r t cs Y := ⟨by rw [ho.block r (lt_of_block h.row) hr]; exact h.row⟩
theorem VarA.off {r q : Nat} {t : TypeId} {cs : Array Value} {X : World} (h : VarA r t cs X) (j : Nat) (v : Value) (hr : r ≠ q) : VarA r t cs (X.setCell ⟨q, j, none⟩ v) := h.only (Only.setCell j v) hr
theorem VarA.new (w : World) (t : TypeId) (cs : Array Value) : VarA w.heap.size t cs (w.alloc (.cells cs t)) := ⟨heap_alloc_new w _⟩
theorem VarA.lt {r : Nat} {t : TypeId} {cs : Array Value} {X : World} (h : VarA r t cs X) : r < X.heap.size := lt_of_block h.row
theorem VarA.alloc {r : Nat} {t : TypeId} {cs : Array Value} {X : World} (h : VarA r t cs X) (o : Obj) : VarA r t cs (X.alloc o) := h.next ((Below.refl _ _).alloc (Nat.le_refl _) o)

/-- Several cells of one block, one behind another. -/
def setCells (w : World) (g off : Nat) : List Value → World
  | [] => w
  | v :: vs => setCells (w.setCell ⟨g, off, none⟩ v) g (off + 1) vs
def setL (xs : List Value) (off : Nat) : List Value → List Value
  | [] => xs
  | v :: vs => setL (xs.set off v) (off + 1) vs
theorem setL_mid (vs ys A B : List Value) (h : ys.length = vs.length) : setL (A ++ ys ++ B) A.length vs = A ++ vs ++ B := by
  induction vs generalizing ys A with
  | nil =>
    have : ys = [] := List.length_eq_zero_iff.1 h
    subst this
    rfl
  | cons v vs ih =>
    match ys, h with
    | y :: ys, h =>
      have h1 : ys.length = vs.length := by simpa using h
      have e : (A ++ y :: ys ++ B).set A.length v = (A ++ [v]) ++ ys ++ B := by
        rw [List.append_assoc, List.set_append_right _ _ (Nat.le_refl _)]
        simp
      show setL ((A ++ y :: ys ++ B).set A.length v) (A.length + 1) vs = A ++ v :: vs ++ B
      rw [e]
      have e2 : A.length + 1 = (A ++ [v]).length := by simp
      rw [e2, ih ys (A ++ [v]) h1]
      simp

section
variable {α : Type} {R : Rec α}

theorem Rec.setL_flat (l : List α) (j : Nat) (x : α) (hj : j < l.length) : setL (l.flatMap R.enc) (R.k * j) (R.enc x) = (l.set j x).flatMap R.enc := by
  have e : l = l.take j ++ l[j] :: l.drop (j + 1) := by rw [List.getElem_cons_drop, List.take_append_drop]
  have e1 : l.flatMap R.enc = (l.take j).flatMap R.enc ++ R.enc l[j] ++ (l.drop (j + 1)).flatMap R.enc := by
    conv => lhs; rw [e]
    rw [List.flatMap_append, List.flatMap_cons, List.append_assoc]
  have e2 : (l.set j x).flatMap R.enc = (l.take j).flatMap R.enc ++ R.enc x ++ (l.drop (j + 1)).flatMap R.enc := by
    rw [List.set_eq_take_append_cons_drop, if_pos hj, List.flatMap_append, List.flatMap_cons, List.append_assoc]
  have e3 : R.k * j = ((l.take j).flatMap R.enc).length := by rw [R.flat_length, List.length_take, Nat.min_eq_left (by omega), Nat.mul_comm]
  rw [e1, e2, e3]
  exact setL_mid _ _ _ _ (by rw [R.len, R.len])

theorem grown_trans {w w1 w2 : World} {r : Option Nat} (h : w.grownBy w1 r) (k : w1.grownBy w2 r) : w.grownBy w2 r :=
  ⟨k.os.trans h.os, k.tape.trans h.tape, k.output.trans h.output, Nat.le_trans h.size k.size, fun i hi hc => (k.block i (Nat.lt_of_lt_of_le hi h.size) hc).trans (h.block i hi hc)⟩
theorem grown_below {w w1 w2 : World} {r : Option Nat} (h : w.grownBy w1 r) (k : Below w1.heap.size w1 w2) : w.grownBy w2 r :=
  ⟨k.os.trans h.os, k.tape.trans h.tape, k.output.trans h.output, Nat.le_trans h.size k.size, fun i hi hc => (k.block i (Nat.lt_of_lt_of_le hi h.size)).trans (h.block i hi hc)⟩
theorem below_grown {w w1 : World} {base : Nat} {r : Option Nat} (h : w.grownBy w1 r) (hr : ∀ k, r = some k → base ≤ k) (hs : base ≤ w.heap.size) : Below base w w1 :=
  ⟨h.os, h.tape, h.output, h.size, fun k hk => h.block k (by omega) (fun e => by have := hr k e.symm; omega)⟩

theorem ownsRow_setCells {w : World} {base : Nat} {e : TypeId} {size g n cap : Nat} {xs : List Value} (vs : List Value) (off : Nat) (h : w.ownsRow base e size (.slice (some ⟨g, 0, none⟩) n cap) n xs) :
    (setCells w g off vs).ownsRow base e size (.slice (some ⟨g, 0, none⟩) n cap) n (setL xs off vs) ∧ w.grownBy (setCells w g off vs) (some g) := by
  induction vs generalizing w xs off with
  | nil => exact ⟨h, World.grownBy.refl w _⟩
  | cons v vs ih =>
    have h1 := h.stored off v
    have h2 := ih (off + 1) h1.1
    exact ⟨h2.1, grown_trans h1.2 h2.2⟩

/-- One record of a row is written. -/
theorem OwnR.put {w : World} {base : Nat} {e : TypeId} {g cap : Nat} {l : List α} (h : OwnR R w base e (.slice (some ⟨g, 0, none⟩) l.length cap) l) (j : Nat) (x : α) (hj : j < l.length) :
    OwnR R (setCells w g (R.k * j) (R.enc x)) base e (.slice (some ⟨g, 0, none⟩) l.length cap) (l.set j x) ∧ w.grownBy (setCells w g (R.k * j) (R.enc x)) (some g) := by
  have h1 := ownsRow_setCells (R.enc x) (R.k * j) h
  rw [R.setL_flat l j x hj] at h1
  refine ⟨?_, h1.2⟩
  unfold OwnR
  rw [List.length_set]
  exact h1.1

/-- The row is no other's. -/
theorem OwnR.kept {w w' : World} {base : Nat} {e : TypeId} {v : Value} {l : List α} {r : Option Nat} (h : OwnR R w base e v l) (hg : w.grownBy w' r) (hne : v.ownBlock = none ∨ v.ownBlock ≠ r) : OwnR R w' base e v l := World.ownsRow.kept h hg hne
theorem OwnR.lt {w : World} {base : Nat} {e : TypeId} {v : Value} {l : List α} (h : OwnR R w base e v l) : ∀ k, v.ownBlock = some k → base ≤ k ∧ k < w.heap.size := World.ownsRow.lt h

variable (R) in
/-- An argument that is a row of records: at whatever place of its block it begins. -/
def SrcR (w : World) (a : Option Addr) (xs : List α) : Prop := xs = [] ∨ ∃ b off, a = some ⟨b, off, none⟩ ∧ b < w.heap.size ∧ ∀ j t x, xs[j]? = some x → t < R.k → w.cell? ⟨b, off + (R.k * j + t), none⟩ = (R.enc x)[t]?
theorem SrcR.below {w w' : World} {a : Option Addr} {xs : List α} (h : SrcR R w a xs) (hb : Below w.heap.size w w') : SrcR R w' a xs := by
  rcases h with h | ⟨b, off, ha, hl, hc⟩
  · exact .inl h
  · exact .inr ⟨b, off, ha, Nat.lt_of_lt_of_le hl hb.size, fun j t x hx ht => by rw [hb.cell (p := ⟨b, off + (R.k * j + t), none⟩) hl]; exact hc j t x hx ht⟩
theorem SrcR.form {w : World} {a : Option Addr} {xs : List α} (h : SrcR R w a xs) (hp : 0 < xs.length) : ∃ b off, a = some ⟨b, off, none⟩ ∧ b < w.heap.size ∧ ∀ j t x, xs[j]? = some x → t < R.k → w.cell? ⟨b, off + (R.k * j + t), none⟩ = (R.enc x)[t]? := by
  rcases h with rfl | h
  · exact absurd hp (by simp)
  · exact h

end
theorem made_flat {α : Type} (R : Rec α) (z : α) (cs : Array Value) (hz : cs.toList = R.enc z) (n : Nat) : (madeCells cs (n * R.k)).toList = (List.replicate n z).flatMap R.enc := by
  have hk := R.pos
  have hs : cs.size = R.k := by rw [← R.len z, ← hz, Array.length_toList]
  apply List.ext_getElem?
  intro i
  by_cases hi : i < n * R.k
  · have hj : i / R.k < n := (Nat.div_lt_iff_lt_mul hk).2 hi
    have hx : (List.replicate n z)[i / R.k]? = some z := by rw [List.getElem?_replicate, if_pos hj]
    have h2 := R.flat_get (List.replicate n z) (i / R.k) (i % R.k) z hx (Nat.mod_lt _ hk)
    rw [Nat.div_add_mod] at h2
    rw [h2, ← hz]
    simp [madeCells, hi, hs]
    rw [Array.getElem!_eq_getD, Array.getD_eq_getD_getElem?, Array.getElem?_eq_getElem (by rw [hs]; exact Nat.mod_lt _ hk)]
    simp
  · have h1 : (madeCells cs (n * R.k)).toList.length ≤ i := by simp [madeCells]; omega
    have h2 : ((List.replicate n z).flatMap R.enc).length ≤ i := by rw [R.flat_length]; simp; omega
    rw [List.getElem?_eq_none h1, List.getElem?_eq_none h2]

end Go.Proofs.YtoaifgblbfdncaaDoor
namespace Go.Proofs.YtoaifgblbfdncaaDoor

/-- The figure of a worth below 16. -/
def fig (x : Nat) : UInt8 := if x < 10 then UInt8.ofNat (48 + x) else UInt8.ofNat (87 + x)

def hexOf (l : List UInt8) : List UInt8 := l.flatMap fun b => [fig (b.toNat / 16), fig (b.toNat % 16)]

theorem hexOf_snoc (l : List UInt8) (b : UInt8) : hexOf (l ++ [b]) = hexOf l ++ [fig (b.toNat / 16), fig (b.toNat % 16)] := by simp [hexOf]

theorem hexOf_length (l : List UInt8) : (hexOf l).length = 2 * l.length := by
  induction l with
  | nil => rfl
  | cons b l ih =>
    have e : hexOf (b :: l) = fig (b.toNat / 16) :: fig (b.toNat % 16) :: hexOf l := rfl
    rw [e, List.length_cons, List.length_cons, List.length_cons, ih]
    omega

theorem fig_toNat (x : Nat) (h : x < 16) : (fig x).toNat = if x < 10 then 48 + x else 87 + x := by
  unfold fig
  split <;> simp <;> omega

theorem take_snoc (s : ByteArray) (k : Nat) (h : k < s.size) : s.data.toList.take (k + 1) = s.data.toList.take k ++ [s[k]] := by
  rw [List.take_succ_eq_append_getElem (by simpa using h)]; rfl

theorem figs_get : ∀ (q : Nat) (h : q < 16), ((⟨#[48, 49, 50, 51, 52, 53, 54, 55, 56, 57, 97, 98, 99, 100, 101, 102]⟩ : ByteArray)[q]'(by exact h)) = fig q := by
  intro q h
  have : ∀ q : Fin 16, ((⟨#[48, 49, 50, 51, 52, 53, 54, 55, 56, 57, 97, 98, 99, 100, 101, 102]⟩ : ByteArray)[q.1]'(by exact q.2)) = fig q.1 := by decide
  exact this ⟨q, h⟩

theorem figs_int (q : Nat) (h : (q : Int) < 16) : ((((⟨#[48, 49, 50, 51, 52, 53, 54, 55, 56, 57, 97, 98, 99, 100, 101, 102]⟩ : ByteArray)[q]'(show q < 16 by omega)).toNat : Nat) : Int) = ((fig q).toNat : Int) := by
  rw [figs_get q (by omega)]

end Go.Proofs.YtoaifgblbfdncaaDoor
