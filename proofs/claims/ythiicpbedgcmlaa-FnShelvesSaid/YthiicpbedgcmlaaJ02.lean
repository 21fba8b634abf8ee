/-
  Rows of records as arguments and as what is written into; no program is spoken of here.
  Plain mathematics of figures: two for each byte, and back; no program is spoken of here.
  Plain mathematics of decimal figures; no program is spoken of here.
-/
import Derived.Test.YthiicpbedgcmlaaJ01
import Derived.Deep.Slices
import Derived.Laws.OwnMore
import Derived.OwnWalk
import Derived.WalkKit
import Derived.Lib.ItoaNum
import Derived.Lib.ItoaLen
import Derived.Lib.ItoaMem
namespace Go.Proofs.Ythiicpbedgcmlaa
open Go.RowKit

/-- A variable of some cells in a block of its own. -/
structure VarA (r : Nat) (t : TypeId) (cs : Array Value) (X : World) : Prop where
  row : X.heap[r]? = some (.cells cs t (0, 0))
theorem VarA.next {r : Nat} {t : TypeId} {cs : Array Value} {X Y : World} (h : VarA r t cs X) (hb : Below X.heap.size X Y) : VarA r t cs Y := ⟨by rw [hb.block r (lt_of_block h.row)]; exact h.row⟩
theorem VarA.drew {r : Nat} {t : TypeId} {cs : Array Value} {X : World} (h : VarA r t cs X) : VarA r t cs X.drew := ⟨h.row⟩
theorem VarA.cell {r : Nat} {t : TypeId} {cs : Array Value} {X : World} (h : VarA r t cs X) (j : Nat) : X.cell? ⟨r, j, none⟩ = cs[j]? := by rw [cell_of_row X r j _ t (0, 0) h.row]
theorem VarA.free {r : Nat} {t : TypeId} {cs : Array Value} {X : World} (h : VarA r t cs X) (j : Nat) : X.frozen? ⟨r, j, none⟩ = false := frozen_of_row X r j _ t h.row
theorem VarA.set {r : Nat} {t : TypeId} {cs : Array Value} {X : World} (h : VarA r t cs X) (j : Nat) (v : Value) : VarA r t (cs.setIfInBounds j v) (X.setCell ⟨r, j, none⟩ v) := ⟨heap_setCell_same X r j cs t v h.row⟩
theorem VarA.only {r q : Nat} {t : TypeId} {cs : Array Value} {X Y : World} (h : VarA r t cs X) (ho : Only q X Y) (hr : r ≠ q) : VarA r t cs Y := ⟨by rw [ho.block r (lt_of_block h.row) hr]; exact h.row⟩
theorem VarA.off {r q : Nat} {t : TypeId} {cs : Array Value} {X : World} (h : VarA r t cs X) (j : Nat) (v : Value) (hr : r ≠ q) : VarA r t cs (X.setCell ⟨q, j, none⟩ v) := h.only (Only.setCell j v) hr
theorem VarA.new (w : World) (t : TypeId) (cs : Array Value) : VarA w.heap.size t cs (w.alloc (.cells cs t)) := ⟨heap_alloc_new w _⟩
theorem VarA.lt {r : Nat} {t : TypeId} {cs : Array Value} {X : World} (h : VarA r t cs X) : r < X.heap.size := lt_of_block h.row
theorem VarA.alloc {r : Nat} {t : TypeId} {cs : Array Value} {X : World} (h : VarA r t cs X) (o : Obj) : VarA r t cs (X.alloc o) := h.next ((Below.refl _ _).alloc (Nat.le_refl _) o)

/-- Several cells of one block, one behind another. -/
def setCells (w : World) (g off : Nat) : List Value → World
  | [] => w
  | v :: vs => setCells (w.setCell ⟨g, off, none⟩ v) g (off + 1) vs
def setL (xs : List Value) (off : Nat) : List Value → List Value
  | [] => xs
  | v :: vs => setL (xs.set off v) (off + 1) vs
theorem setL_mid (vs ys A B : List Value) (h : ys.length = vs.length) : setL (A ++ ys ++ B) A.length vs = A ++ vs ++ B := by
  induction vs generalizing ys A with
  | nil =>
    have : ys = [] := List.length_eq_zero_iff.1 h
    subst this
    rfl
  | cons v vs ih =>
    match ys, h with
    | y :: ys, h =>
      have h1 : ys.length = vs.length := by simpa using h
      have e : (A ++ y :: ys ++ B).set A.length v = (A ++ [v]) ++ ys ++ B := by
        rw [List.append_assoc, List.set_append_right _ _ (Nat.le_refl _)]
        simp
      show setL ((A ++ y :: ys ++ B).set A.length v) (A.length + 1) vs = A ++ v :: vs ++ B
      rw [e]
      have e2 : A.length + 1 = (A ++ [v]).length := by simp
      rw [e2, ih ys (A ++ [v]) h1]
      simp

section
variable {α : Type} {R : Rec α}

theorem Rec.setL_flat (l : List α) (j : Nat) (x : α) (hj : j < l.length) : setL (l.flatMap R.enc) (R.k * j) (R.enc x) = (l.set j x).flatMap R.enc := by
  have e : l = l.take j ++ l[j] :: l.drop (j + 1) := by rw [List.getElem_cons_drop, List.take_append_drop]
  have e1 : l.flatMap R.enc = (l.take j).flatMap R.enc ++ R.enc l[j] ++ (l.drop (j + 1)).flatMap R.enc := by
    conv => lhs; rw [e]
    rw [List.flatMap_append, List.flatMap_cons, List.append_assoc]
  have e2 : (l.set j x).flatMap R.enc = (l.take j).flatMap R.enc ++ R.enc x ++ (l.drop (j + 1)).flatMap R.enc := by
    rw [List.set_eq_take_append_cons_drop, if_pos hj, List.flatMap_append, List.flatMap_cons, List.append_assoc]
  have e3 : R.k * j = ((l.take j).flatMap R.enc).length := by rw [R.flat_length, List.length_take, Nat.min_eq_left (by omega), Nat.mul_comm]
  rw [e1, e2, e3]
  exact setL_mid _ _ _ _ (by rw [R.len, R.len])

theorem grown_trans {w w1 w2 : World} {r : Option Nat} (h : w.grownBy w1 r) (k : w1.grownBy w2 r) : w.grownBy w2 r :=
  ⟨k.os.trans h.os, k.tape.trans h.tape, k.output.trans h.output, Nat.le_trans h.size k.size, fun i hi hc => (k.block i (Nat.lt_of_lt_of_le hi h.size) hc).trans (h.block i hi hc)⟩
theorem below_grown {w w1 : World} {base : Nat} {r : Option Nat} (h : w.grownBy w1 r) (hr : ∀ k, r = some k → base ≤ k) (hs : base ≤ w.heap.size) : Below base w w1 :=
  ⟨h.os, h.tape, h.output, h.size, fun k hk => h.block k (by omega) (fun e => by have := hr k e.symm; omega)⟩

theorem ownsRow_setCells {w : World} {base : Nat} {e : TypeId} {size g n cap : Nat} {xs : List Value} (vs : List Value) (off : Nat) (h : w.ownsRow base e size (.slice (some ⟨g, 0, none⟩) n cap) n xs) :
    (setCells w g off vs).ownsRow base e size (.slice (some ⟨g, 0, none⟩) n cap) n (setL xs off vs) ∧ w.grownBy (setCells w g off vs) (some g) := by
  induction vs generalizing w xs off with
  | nil => exact ⟨h, World.grownBy.refl w _⟩
  | cons v vs ih =>
    have h1 := h.stored off v
    have h2 := ih (off + 1) h1.1
    exact ⟨h2.1, grown_trans h1.2 h2.2⟩

/-- One record of a row is written. -/
theorem OwnR.put {w : World} {base : Nat} {e : TypeId} {g cap : Nat} {l : List α} (h : OwnR R w base e (.slice (some ⟨g, 0, none⟩) l.length cap) l) (j : Nat) (x : α) (hj : j < l.length) :
    OwnR R (setCells w g (R.k * j) (R.enc x)) base e (.slice (some ⟨g, 0, none⟩) l.length cap) (l.set j x) ∧ w.grownBy (setCells w g (R.k * j) (R.enc x)) (some g) := by
  have h1 := ownsRow_setCells (R.enc x) (R.k * j) h
  rw [R.setL_flat l j x hj] at h1
  refine ⟨?_, h1.2⟩
  unfold OwnR
  rw [List.length_set]
  exact h1.1

/-- The row is no other's. -/
theorem OwnR.kept {w w' : World} {base : Nat} {e : TypeId} {v : Value} {l : List α} {r : Option Nat} (h : OwnR R w base e v l) (hg : w.grownBy w' r) (hne : v.ownBlock = none ∨ v.ownBlock ≠ r) : OwnR R w' base e v l := World.ownsRow.kept h hg hne
theorem OwnR.lt {w : World} {base : Nat} {e : TypeId} {v : Value} {l : List α} (h : OwnR R w base e v l) : ∀ k, v.ownBlock = some k → base ≤ k ∧ k < w.heap.size := World.ownsRow.lt h

variable (R) in
/-- An argument that is a row of records: at whatever place of its block it begins. -/
def SrcR (w : World) (a : Option Addr) (xs : List α) : Prop := xs = [] ∨ ∃ b off, a = some ⟨b, off, none⟩ ∧ b < w.heap.size ∧ ∀ j t x, xs[j]? = some x → t < R.k → w.cell? ⟨b, off + (R.k * j + t), none⟩ = (R.enc x)[t]?
theorem SrcR.below {w w' : World} {a : Option Addr} {xs : List α} (h : SrcR R w a xs) (hb : Below w.heap.size w w') : SrcR R w' a xs := by
  rcases h with h | ⟨b, off, ha, hl, hc⟩
  · exact .inl h
  · exact .inr ⟨b, off, ha, Nat.lt_of_lt_of_le hl hb.size, fun j t x hx ht => by rw [hb.cell (p := ⟨b, off + (R.k * j + t), none⟩) hl]; exact hc j t x hx ht⟩
end
end Go.Proofs.Ythiicpbedgcmlaa
namespace Go.Proofs.Ythiicpbedgcmlaa

end Go.Proofs.Ythiicpbedgcmlaa
namespace Go.Proofs.Ythiicpbedgcmlaa

/-- The figures of a number; none for 0. -/
def digs (m : Nat) : List UInt8 := if m = 0 then [] else Lib.decDigits m

end Go.Proofs.Ythiicpbedgcmlaa
