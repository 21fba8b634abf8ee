/-
  Numbers that are taken once, in plain words; no program is spoken of here.
  Right numbers that were seen, one behind another; no program is spoken of here.
  Rows of records: slices whose elements have several cells; no program is spoken of here.
  Rows of records as arguments and as what is written into; no program is spoken of here.
  Plain mathematics of figures: two for each byte, and back; no program is spoken of here.
  Plain mathematics of decimal figures; no program is spoken of here.
-/
import Derived.Test.YtoaifgblbfdncabGreatDoorRows
import Derived.Test.YtoaifgblbfdncabGreatDoorJ01
import Derived.Test.YtoaifgblbfdncabGreatDoorJ02
import Derived.Deep.Slices
import Derived.Laws.OwnMore
import Derived.OwnWalk
import Derived.WalkKit
import Derived.Lib.ItoaNum
import Derived.Lib.ItoaLen
import Derived.Lib.ItoaMem
namespace Go.Proofs.YtoaifgblbfdncabGreatDoor

/-- Descending numbers. -/
def DescZ : List Int → Prop
  | [] => True
  | [_] => True
  | x :: y :: l => y < x ∧ DescZ (y :: l)
/-- The first one, 0 without one. -/
def topZ : List Int → Int
  | [] => 0
  | x :: _ => x
/-- Right numbers that were seen. -/
def SeenP (seen : List Int) : Prop := seen.length ≤ 6 ∧ (∀ x ∈ seen, 1 ≤ x ∧ x ≤ 1000000000) ∧ DescZ seen ∧ ∀ x ∈ seen, topZ seen - 6 < x
/-- Whether a number is fresh. -/
def FreshP (seen : List Int) (n : Int) : Prop := SeenP seen ∧ (1 ≤ n ∧ n ≤ 1000000000) ∧ n ∉ seen ∧ topZ seen - 6 < n
/-- With a number in its place. -/
def putD (n : Int) (seen : List Int) : List Int := seen.filter (fun x => decide (n < x)) ++ [n] ++ seen.filter (fun x => decide (x < n))
/-- Without those that are not above the first less six. -/
def nearZ (l : List Int) : List Int := l.filter (fun x => decide (topZ l - 6 < x))
/-- What was seen behind a number. -/
def NoteIs (seen : List Int) (n : Int) (r : List Int) : Prop := (FreshP seen n ∧ r = nearZ (putD n seen)) ∨ (¬ FreshP seen n ∧ r = seen)
theorem note_is (seen : List Int) (n : Int) : ∃ r, NoteIs seen n r := by
  by_cases h : FreshP seen n
  · exact ⟨_, .inl ⟨h, rfl⟩⟩
  · exact ⟨_, .inr ⟨h, rfl⟩⟩
theorem desc_tail {x : Int} {l : List Int} (h : DescZ (x :: l)) : DescZ l := by
  cases l with
  | nil => trivial
  | cons y l => exact h.2
theorem desc_head {x : Int} {l : List Int} (h : DescZ (x :: l)) : ∀ y ∈ l, y < x := by
  induction l generalizing x with
  | nil => intro y hy; cases hy
  | cons z l ih =>
    intro y hy
    rcases List.mem_cons.1 hy with rfl | hy
    · exact h.1
    · have := ih h.2 y hy
      have := h.1
      omega
theorem desc_cons {x : Int} {l : List Int} (h : DescZ l) (hx : ∀ y ∈ l, y < x) : DescZ (x :: l) := by
  cases l with
  | nil => trivial
  | cons y l => exact ⟨hx y List.mem_cons_self, h⟩
theorem desc_filter {l : List Int} (p : Int → Bool) (h : DescZ l) : DescZ (l.filter p) := by
  induction l with
  | nil => trivial
  | cons x l ih =>
    rw [List.filter_cons]
    split
    · exact desc_cons (ih (desc_tail h)) (fun y hy => desc_head h y (List.mem_filter.1 hy).1)
    · exact ih (desc_tail h)
theorem desc_append {a b : List Int} (ha : DescZ a) (hb : DescZ b) (h : ∀ x ∈ a, ∀ y ∈ b, y < x) : DescZ (a ++ b) := by
  induction a with
  | nil => exact hb
  | cons x a ih =>
    refine desc_cons (ih (desc_tail ha) (fun y hy => h y (List.mem_cons_of_mem _ hy))) (fun y hy => ?_)
    rcases List.mem_append.1 hy with hy | hy
    · exact desc_head ha y hy
    · exact h x List.mem_cons_self y hy
theorem put_desc {seen : List Int} (n : Int) (h : DescZ seen) : DescZ (putD n seen) := by
  refine desc_append (desc_append (desc_filter _ h) trivial ?_) (desc_filter _ h) ?_
  · intro x hx y hy
    rw [List.mem_singleton.1 hy]
    exact of_decide_eq_true (List.mem_filter.1 hx).2
  · intro x hx y hy
    have hy2 : y < n := of_decide_eq_true (List.mem_filter.1 hy).2
    rcases List.mem_append.1 hx with hx | hx
    · have : n < x := of_decide_eq_true (List.mem_filter.1 hx).2
      omega
    · rw [List.mem_singleton.1 hx]
      exact hy2
theorem put_mem {seen : List Int} {n x : Int} : x ∈ putD n seen ↔ x = n ∨ x ∈ seen ∧ x ≠ n := by
  unfold putD
  simp only [List.mem_append, List.mem_filter, List.mem_singleton, decide_eq_true_eq]
  constructor
  · rintro ((⟨h1, h2⟩ | h) | ⟨h1, h2⟩)
    · exact .inr ⟨h1, by omega⟩
    · exact .inl h
    · exact .inr ⟨h1, by omega⟩
  · rintro (h | ⟨h1, h2⟩)
    · exact .inl (.inr h)
    · rcases Int.lt_or_gt_of_ne h2 with h | h
      · exact .inr ⟨h1, h⟩
      · exact .inl (.inl ⟨h1, h⟩)
/-- Descending numbers above m are at most so many. -/
theorem desc_len {l : List Int} {m : Int} (h : DescZ l) (hm : ∀ x ∈ l, m < x) : (l.length : Int) ≤ max 0 (topZ l - m) := by
  induction l with
  | nil => exact Int.le_max_left _ _
  | cons x l ih =>
    have h1 := ih (desc_tail h) (fun y hy => hm y (List.mem_cons_of_mem _ hy))
    have h2 := hm x List.mem_cons_self
    show ((l.length + 1 : Nat) : Int) ≤ max 0 (x - m)
    cases l with
    | nil => simp; omega
    | cons y l =>
      have h3 := h.1
      have h4 := hm y (List.mem_cons_of_mem _ List.mem_cons_self)
      have h5 : topZ (y :: l) = y := rfl
      rw [h5] at h1
      omega
theorem top_mem {l : List Int} (h : l ≠ []) : topZ l ∈ l := by
  cases l with
  | nil => exact absurd rfl h
  | cons x l => exact List.mem_cons_self
theorem top_most {l : List Int} (h : DescZ l) : ∀ x ∈ l, x ≤ topZ l := by
  cases l with
  | nil => intro x hx; cases hx
  | cons y l =>
    intro x hx
    rcases List.mem_cons.1 hx with rfl | hx
    · exact Int.le_refl _
    · have := desc_head h x hx
      show x ≤ y
      omega
theorem near_top {l : List Int} (h : l ≠ []) : topZ (nearZ l) = topZ l := by
  cases l with
  | nil => exact absurd rfl h
  | cons x l =>
    have e : decide (topZ (x :: l) - 6 < x) = true := decide_eq_true (by show x - 6 < x; omega)
    unfold nearZ
    rw [List.filter_cons, if_pos e]
    rfl
theorem put_ne (n : Int) (seen : List Int) : putD n seen ≠ [] := by
  unfold putD
  simp
/-- What is noted stays right, has the number, and does not take it again. -/
theorem note_right {seen r : List Int} {n : Int} (hf : FreshP seen n) (h : NoteIs seen n r) : SeenP r ∧ n ∈ r ∧ ¬ FreshP r n := by
  rcases h with ⟨-, rfl⟩ | ⟨h, -⟩
  · have hd := put_desc n hf.1.2.2.1
    have hne := put_ne n seen
    have ht := near_top hne
    have hd2 : DescZ (nearZ (putD n seen)) := desc_filter _ hd
    have hall : ∀ x ∈ nearZ (putD n seen), topZ (nearZ (putD n seen)) - 6 < x := fun x hx => by rw [ht]; exact of_decide_eq_true (List.mem_filter.1 hx).2
    have hl := desc_len hd2 hall
    have hnm : n ∈ nearZ (putD n seen) := by
      refine List.mem_filter.2 ⟨put_mem.2 (.inl rfl), decide_eq_true ?_⟩
      have h1 := put_mem.1 (top_mem hne)
      have h2 := hf.2.2.2
      rcases h1 with h1 | ⟨h1, -⟩
      · omega
      · have := top_most hf.1.2.2.1 _ h1
        omega
    refine ⟨⟨by omega, fun x hx => ?_, hd2, hall⟩, hnm, fun h => h.2.2.1 hnm⟩
    rcases put_mem.1 (List.mem_filter.1 hx).1 with rfl | ⟨h1, -⟩
    · exact hf.2.1
    · exact hf.1.2.1 x h1
  · exact absurd hf h
end Go.Proofs.YtoaifgblbfdncabGreatDoor
namespace Go.Proofs.YtoaifgblbfdncabGreatDoor

/-- A number that an int holds. -/
def IntZ (x : Int) : Prop := -9223372036854775808 ≤ x ∧ x ≤ 9223372036854775807
theorem desc_iff (xs : List Int) : DescZ xs ↔ ∀ i, (h : i + 1 < xs.length) → xs[i + 1] < xs[i] := by
  induction xs with
  | nil => exact ⟨fun _ i h => absurd h (by simp), fun _ => trivial⟩
  | cons x l ih =>
    cases l with
    | nil => exact ⟨fun _ i h => absurd h (by simp), fun _ => trivial⟩
    | cons y l =>
      constructor
      · rintro ⟨h1, h2⟩ i hi
        cases i with
        | zero => exact h1
        | succ i => exact (ih.1 h2) i (by simpa using hi)
      · intro h
        refine ⟨h 0 (by simp), ih.2 fun i hi => ?_⟩
        exact h (i + 1) (by simpa using hi)
theorem top_get {xs : List Int} (h : 0 < xs.length) : topZ xs = xs[0] := by
  cases xs with
  | nil => exact absurd h (by simp)
  | cons x l => rfl
/-- The first ones are right. -/
def SeenTo (xs : List Int) (j : Nat) : Prop := ∀ i, (hi : i < xs.length) → i < j → (1 ≤ xs[i] ∧ xs[i] ≤ 1000000000) ∧ (∀ h : 0 < i, xs[i] < xs[i - 1]) ∧ topZ xs - 6 < xs[i]
theorem seenP_iff (xs : List Int) : SeenP xs ↔ SeenTo xs xs.length ∧ xs.length ≤ 6 := by
  constructor
  · rintro ⟨h1, h2, h3, h4⟩
    refine ⟨fun i hi _ => ⟨h2 _ (List.getElem_mem hi), fun h => ?_, h4 _ (List.getElem_mem hi)⟩, h1⟩
    obtain ⟨k, rfl⟩ : ∃ k, i = k + 1 := ⟨i - 1, by omega⟩
    exact (desc_iff xs).1 h3 k hi
  · rintro ⟨h1, h2⟩
    refine ⟨h2, fun x hx => ?_, (desc_iff xs).2 fun i hi => (h1 (i + 1) hi hi).2.1 (by omega), fun x hx => ?_⟩
    · obtain ⟨i, hi, rfl⟩ := List.getElem_of_mem hx
      exact (h1 i hi hi).1
    · obtain ⟨i, hi, rfl⟩ := List.getElem_of_mem hx
      exact (h1 i hi hi).2.2
theorem seenTo_next {xs : List Int} {j : Nat} (hj : j < xs.length) (h : SeenTo xs j) (h1 : 1 ≤ xs[j] ∧ xs[j] ≤ 1000000000) (h2 : ∀ h : 0 < j, xs[j] < xs[j - 1]) (h3 : topZ xs - 6 < xs[j]) : SeenTo xs (j + 1) := by
  intro i hi hij
  rcases Nat.lt_or_ge i j with h4 | h4
  · exact h i hi h4
  · obtain rfl : i = j := by omega
    exact ⟨h1, h2, h3⟩
/-- The numbers above n, of the first j; those below. -/
theorem filter_next (p : Int → Bool) (xs : List Int) (j : Nat) (hj : j < xs.length) : (xs.take (j + 1)).filter p = (xs.take j).filter p ++ (if p xs[j] then [xs[j]] else []) := by
  rw [List.take_add_one, List.getElem?_eq_getElem hj, List.filter_append]
  congr 1
  show List.filter p [xs[j]] = _
  rw [List.filter_cons]
  split <;> simp
theorem filter_len (p : Int → Bool) (xs : List Int) (j : Nat) : ((xs.take j).filter p).length ≤ xs.length := by
  have h1 := List.length_filter_le p (xs.take j)
  have h2 : (xs.take j).length ≤ xs.length := by rw [List.length_take]; omega
  omega

end Go.Proofs.YtoaifgblbfdncabGreatDoor
namespace Go.Proofs.YtoaifgblbfdncabGreatDoor
open Go.RowKit

/-- How a record lies in cells. -/
structure Rec (α : Type) where
  k : Nat
  enc : α → List Value
  len : ∀ x, (enc x).length = k
  one : ∀ x, ∀ u ∈ enc x, u.oneCell' = true
  pos : 0 < k

section
variable {α : Type} (R : Rec α)

theorem Rec.flat_length (xs : List α) : (xs.flatMap R.enc).length = xs.length * R.k := by
  induction xs with
  | nil => simp
  | cons x xs ih => rw [List.flatMap_cons, List.length_append, R.len, ih, List.length_cons, Nat.add_mul, Nat.one_mul, Nat.add_comm]
theorem Rec.flat_get (xs : List α) (j t : Nat) (x : α) (hx : xs[j]? = some x) (ht : t < R.k) : (xs.flatMap R.enc)[R.k * j + t]? = (R.enc x)[t]? := by
  induction xs generalizing j with
  | nil => simp at hx
  | cons y ys ih =>
    rw [List.flatMap_cons]
    cases j with
    | zero =>
      simp at hx
      subst hx
      rw [List.getElem?_append_left (by rw [R.len]; omega)]
      simp
    | succ j =>
      have e : R.k * (j + 1) + t = (R.enc y).length + (R.k * j + t) := by rw [R.len, Nat.mul_add, Nat.mul_one]; omega
      rw [e, List.getElem?_append_right (by omega), Nat.add_sub_cancel_left]
      exact ih j (by simpa using hx)

/-- The slice value v is nil or the call's own (from block 'base' on), and holds these records. -/
def OwnR (w : World) (base : Nat) (e : TypeId) (v : Value) (xs : List α) : Prop := w.ownsRow base e R.k v xs.length (xs.flatMap R.enc)
variable {R}

theorem OwnR.nil (w : World) (base : Nat) (e : TypeId) : OwnR R w base e (.slice none 0 0) [] := ⟨by simp, .inl ⟨rfl, rfl⟩⟩
theorem OwnR.lit (w : World) (base : Nat) (e : TypeId) (hb : base ≤ w.heap.size) : OwnR R (w.alloc (.cells #[] e)) base e (.slice (some ⟨w.heap.size, 0, none⟩) 0 0) [] :=
  World.ownsRow_lit w #[] 0 hb (by decide) (by simp)
theorem OwnR.alloc {w : World} {base : Nat} {e : TypeId} {v : Value} {xs : List α} (h : OwnR R w base e v xs) (o : Obj) : OwnR R (w.alloc o) base e v xs := World.ownsRow.alloc h o
theorem OwnR.lower {w : World} {base base' : Nat} {e : TypeId} {v : Value} {xs : List α} (h : OwnR R w base e v xs) (hb : base' ≤ base) : OwnR R w base' e v xs := by
  refine ⟨h.1, ?_⟩
  rcases h.2 with h | ⟨g, cap, cur, h1, h2, h3⟩
  · exact .inl h
  · exact .inr ⟨g, cap, cur, h1, Nat.le_trans hb h2, h3⟩
theorem OwnR.below {w w' : World} {base : Nat} {e : TypeId} {v : Value} {xs : List α} (h : OwnR R w base e v xs) (hb : Below w.heap.size w w') : OwnR R w' base e v xs := by
  refine ⟨h.1, ?_⟩
  rcases h.2 with h | ⟨g, cap, cur, h1, h2, h3, h4⟩
  · exact .inl h
  · exact .inr ⟨g, cap, cur, h1, h2, by rw [hb.block g (lt_of_block h3)]; exact h3, h4⟩
theorem OwnR.only {c : Nat} {w w' : World} {base : Nat} {e : TypeId} {v : Value} {xs : List α} (h : OwnR R w base e v xs) (ho : Only c w w') (hc : c < base) : OwnR R w' base e v xs := by
  refine ⟨h.1, ?_⟩
  rcases h.2 with hn | ⟨g, cap, cur, hv, hb, hg, rest⟩
  · exact .inl hn
  · exact .inr ⟨g, cap, cur, hv, hb, by rw [ho.block g (lt_of_block hg) (by omega)]; exact hg, rest⟩
/-- The shape of an owned row of records, and its cells. -/
theorem OwnR.form {w : World} {base : Nat} {e : TypeId} {v : Value} {xs : List α} (h : OwnR R w base e v xs) : ∃ ao cap, v = .slice ao xs.length cap ∧
    (0 < xs.length → ∃ g, ao = some ⟨g, 0, none⟩ ∧ base ≤ g ∧ g < w.heap.size ∧ ∀ j t x, xs[j]? = some x → t < R.k → w.cell? ⟨g, R.k * j + t, none⟩ = (R.enc x)[t]? ∧ w.frozen? ⟨g, R.k * j + t, none⟩ = false) := by
  have h' : w.ownsRow base e R.k v xs.length (xs.flatMap R.enc) := h
  rcases h'.2 with ⟨rfl, h0⟩ | ⟨g, cap, cur, rfl, hb, hh, _, _, _, _⟩
  · exact ⟨none, 0, by rw [h0], fun hp => by omega⟩
  · refine ⟨_, cap, rfl, fun _ => ⟨g, rfl, hb, lt_of_block hh, fun j t x hx ht => ⟨?_, h'.frozenAt _⟩⟩⟩
    have hj : j < xs.length := (List.getElem?_eq_some_iff.1 hx).1
    have hlt : R.k * j + t < xs.length * R.k := by
      have h1 : R.k * j + R.k ≤ R.k * xs.length := by rw [← Nat.mul_succ]; exact Nat.mul_le_mul_left _ hj
      rw [Nat.mul_comm xs.length]
      omega
    rw [h'.cellAt _ hlt]
    exact R.flat_get xs j t x hx ht

variable (R) in
/-- A slice that can be read: nil, or its records lie in one block, from its head on. -/
def RowR (w : World) (v : Value) (xs : List α) : Prop := (v = .slice none 0 0 ∧ xs = []) ∨ ∃ g cap, v = .slice (some ⟨g, 0, none⟩) xs.length cap ∧ g < w.heap.size ∧ ∀ j t x, xs[j]? = some x → t < R.k → w.cell? ⟨g, R.k * j + t, none⟩ = (R.enc x)[t]?
theorem OwnR.row {w : World} {base : Nat} {e : TypeId} {v : Value} {xs : List α} (h : OwnR R w base e v xs) : RowR R w v xs := by
  have h' : w.ownsRow base e R.k v xs.length (xs.flatMap R.enc) := h
  rcases h'.2 with ⟨rfl, h0⟩ | ⟨g, cap, cur, rfl, hb, hh, _, _, _, _⟩
  · exact .inl ⟨rfl, List.length_eq_zero_iff.1 h0⟩
  · refine .inr ⟨g, cap, rfl, lt_of_block hh, fun j t x hx ht => ?_⟩
    have hj : j < xs.length := (List.getElem?_eq_some_iff.1 hx).1
    have hlt : R.k * j + t < xs.length * R.k := by
      have h1 : R.k * j + R.k ≤ R.k * xs.length := by rw [← Nat.mul_succ]; exact Nat.mul_le_mul_left _ hj
      rw [Nat.mul_comm xs.length]
      omega
    rw [h'.cellAt _ hlt]
    exact R.flat_get xs j t x hx ht
theorem RowR.below {w w' : World} {v : Value} {xs : List α} (h : RowR R w v xs) (hb : Below w.heap.size w w') : RowR R w' v xs := by
  rcases h with h | ⟨g, cap, hv, h3, h4⟩
  · exact .inl h
  · exact .inr ⟨g, cap, hv, Nat.lt_of_lt_of_le h3 hb.size, fun j t x hx ht => by rw [hb.cell (p := ⟨g, R.k * j + t, none⟩) h3]; exact h4 j t x hx ht⟩
theorem RowR.form {w : World} {v : Value} {xs : List α} (h : RowR R w v xs) : ∃ ao cap, v = .slice ao xs.length cap ∧ (0 < xs.length → ∃ g, ao = some ⟨g, 0, none⟩ ∧ g < w.heap.size ∧ ∀ j t x, xs[j]? = some x → t < R.k → w.cell? ⟨g, R.k * j + t, none⟩ = (R.enc x)[t]?) := by
  rcases h with ⟨rfl, rfl⟩ | ⟨g, cap, hv, h3, h4⟩
  · exact ⟨none, 0, rfl, fun h => absurd h (by simp)⟩
  · exact ⟨_, cap, hv, fun _ => ⟨g, rfl, h3, h4⟩⟩
end
end Go.Proofs.YtoaifgblbfdncabGreatDoor
namespace Go.Proofs.YtoaifgblbfdncabGreatDoor
open Go.RowKit

/-- A variable of some cells in a block of its own. -/
structure VarA (r : Nat) (t : TypeId) (cs : Array Value) (X : World) : Prop where
  row : X.heap[r]? = some (.cells cs t (0, 0))
theorem VarA.next {r : Nat} {t : TypeId} {cs : Array Value} {X Y : World} (h : VarA r t cs X) (hb : Below X.heap.size X Y) : VarA r t cs Y := ⟨by rw [hb.block r (lt_of_block h.row)]; exact h.row⟩
theorem VarA.drew {r : Nat} {t : TypeId} {cs : Array Value} {X : World} (h : VarA r t cs X) : VarA r t cs X.drew := ⟨h.row⟩
theorem VarA.cell {r : Nat} {t : TypeId} {cs : Array Value} {X : World} (h : VarA r t cs X) (j : Nat) : X.cell? ⟨r, j, none⟩ = cs[j]? := by rw [cell_of_row X r j _ t (0, 0) h.row]
theorem VarA.free {r : Nat} {t : TypeId} {cs : Array Value} {X : World} (h : VarA r t cs X) (j : Nat) : X.frozen? ⟨r, j, none⟩ = false := frozen_of_row X r j _ t h.row
theorem VarA.set {r : Nat} {t : TypeId} {cs : Array Value} {X : World} (h : VarA r t cs X) (j : Nat) (v : Value) : VarA r t (cs.setIfInBounds j v) (X.setCell ⟨r, j, none⟩ v) := ⟨heap_setCell_same X r j cs t v h.row⟩
theorem VarA.only {r q : Nat} {t : TypeId} {cs : Array Value} {X Y : World} (h : VarA r t cs X) (ho : Only q X Y) (hr : r ≠ q) : VarA r t cs Y := ⟨by rw [ho.block r (lt_of_block h.row) hr]; exact h.row⟩
theorem VarA.off {r q : Nat} {t : TypeId} {cs : Array Value} {X : World} (h : VarA r t cs X) (j : Nat) (v : Value) (hr : r ≠ q) : VarA r t cs (X.setCell ⟨q, j, none⟩ v) := h.only (Only.setCell j v) hr
theorem VarA.new (w : World) (t : TypeId) (cs : Array Value) : VarA w.heap.size t cs (w.alloc (.cells cs t)) := ⟨heap_alloc_new w _⟩
theorem VarA.lt {r : Nat} {t : TypeId} {cs : Array Value} {X : World} (h : VarA r t cs X) : r < X.heap.size := lt_of_block h.row
theorem VarA.alloc {r : Nat} {t : TypeId} {cs : Array Value} {X : World} (h : VarA r t cs X) (o : Obj) : VarA r t cs (X.alloc o) := h.next ((Below.refl _ _).alloc (Nat.le_refl _) o)

/-- Several cells of one block, one behind another. -/
def setCells (w : World) (g off : Nat) : List Value → World
  | [] => w
  | v :: vs => setCells (w.setCell ⟨g, off, none⟩ v) g (off + 1) vs
def setL (xs : List Value) (off : Nat) : List Value → List Value
  | [] => xs
  | v :: vs => setL (xs.set off v) (off + 1) vs
theorem setL_mid (vs ys A B : List Value) (h : ys.length = vs.length) : setL (A ++ ys ++ B) A.length vs = A ++ vs ++ B := by
  induction vs generalizing ys A with
  | nil =>
    have : ys = [] := List.length_eq_zero_iff.1 h
    subst this
    rfl
  | cons v vs ih =>
    match ys, h with
    | y :: ys, h =>
      have h1 : ys.length = vs.length := by simpa using h
      have e : (A ++ y :: ys ++ B).set A.length v = (A ++ [v]) ++ ys ++ B := by
        rw [List.append_assoc, List.set_append_right _ _ (Nat.le_refl _)]
        simp
      show setL ((A ++ y :: ys ++ B).set A.length v) (A.length + 1) vs = A ++ v :: vs ++ B
      rw [e]
      have e2 : A.length + 1 = (A ++ [v]).length := by simp
      rw [e2, ih ys (A ++ [v]) h1]
      simp

section
variable {α : Type} {R : Rec α}

theorem Rec.setL_flat (l : List α) (j : Nat) (x : α) (hj : j < l.length) : setL (l.flatMap R.enc) (R.k * j) (R.enc x) = (l.set j x).flatMap R.enc := by
  have e : l = l.take j ++ l[j] :: l.drop (j + 1) := by rw [List.getElem_cons_drop, List.take_append_drop]
  have e1 : l.flatMap R.enc = (l.take j).flatMap R.enc ++ R.enc l[j] ++ (l.drop (j + 1)).flatMap R.enc := by
    conv => lhs; rw [e]
    rw [List.flatMap_append, List.flatMap_cons, List.append_assoc]
  have e2 : (l.set j x).flatMap R.enc = (l.take j).flatMap R.enc ++ R.enc x ++ (l.drop (j + 1)).flatMap R.enc := by
    rw [List.set_eq_take_append_cons_drop, if_pos hj, List.flatMap_append, List.flatMap_cons, List.append_assoc]
  have e3 : R.k * j = ((l.take j).flatMap R.enc).length := by rw [R.flat_length, List.length_take, Nat.min_eq_left (by omega), Nat.mul_comm]
  rw [e1, e2, e3]
  exact setL_mid _ _ _ _ (by rw [R.len, R.len])

theorem grown_trans {w w1 w2 : World} {r : Option Nat} (h : w.grownBy w1 r) (k : w1.grownBy w2 r) : w.grownBy w2 r :=
  ⟨k.os.trans h.os, k.tape.trans h.tape, k.output.trans h.output, Nat.le_trans h.size k.size, fun i hi hc => (k.block i (Nat.lt_of_lt_of_le hi h.size) hc).trans (h.block i hi hc)⟩
theorem below_grown {w w1 : World} {base : Nat} {r : Option Nat} (h : w.grownBy w1 r) (hr : ∀ k, r = some k → base ≤ k) (hs : base ≤ w.heap.size) : Below base w w1 :=
  ⟨h.os, h.tape, h.output, h.size, fun k hk => h.block k (by omega) (fun e => by have := hr k e.symm; omega)⟩

theorem ownsRow_setCells {w : World} {base : Nat} {e : TypeId} {size g n cap : Nat} {xs : List Value} (vs : List Value) (off : Nat) (h : w.ownsRow base e size (.slice (some ⟨g, 0, none⟩) n cap) n xs) :
    (setCells w g off vs).ownsRow base e size (.slice (some ⟨g, 0, none⟩) n cap) n (setL xs off vs) ∧ w.grownBy (setCells w g off vs) (some g) := by
  induction vs generalizing w xs off with
  | nil => exact ⟨h, World.grownBy.refl w _⟩
  | cons v vs ih =>
    have h1 := h.stored off v
    have h2 := ih (off + 1) h1.1
    exact ⟨h2.1, grown_trans h1.2 h2.2⟩

/-- One record of a row is written. -/
theorem OwnR.put {w : World} {base : Nat} {e : TypeId} {g cap : Nat} {l : List α} (h : OwnR R w base e (.slice (some ⟨g, 0, none⟩) l.length cap) l) (j : Nat) (x : α) (hj : j < l.length) :
    OwnR R (setCells w g (R.k * j) (R.enc x)) base e (.slice (some ⟨g, 0, none⟩) l.length cap) (l.set j x) ∧ w.grownBy (setCells w g (R.k * j) (R.enc x)) (some g) := by
  have h1 := ownsRow_setCells (R.enc x) (R.k * j) h
  rw [R.setL_flat l j x hj] at h1
  refine ⟨?_, h1.2⟩
  unfold OwnR
  rw [List.length_set]
  exact h1.1

/-- The row is no other's. -/
theorem OwnR.kept {w w' : World} {base : Nat} {e : TypeId} {v : Value} {l : List α} {r : Option Nat} (h : OwnR R w base e v l) (hg : w.grownBy w' r) (hne : v.ownBlock = none ∨ v.ownBlock ≠ r) : OwnR R w' base e v l := World.ownsRow.kept h hg hne
theorem OwnR.lt {w : World} {base : Nat} {e : TypeId} {v : Value} {l : List α} (h : OwnR R w base e v l) : ∀ k, v.ownBlock = some k → base ≤ k ∧ k < w.heap.size := World.ownsRow.lt h

variable (R) in
/-- An argument that is a row of records: at whatever place of its block it begins. -/
def SrcR (w : World) (a : Option Addr) (xs : List α) : Prop := xs = [] ∨ ∃ b off, a = some ⟨b, off, none⟩ ∧ b < w.heap.size ∧ ∀ j t x, xs[j]? = some x → t < R.k → w.cell? ⟨b, off + (R.k * j + t), none⟩ = (R.enc x)[t]?
theorem SrcR.below {w w' : World} {a : Option Addr} {xs : List α} (h : SrcR R w a xs) (hb : Below w.heap.size w w') : SrcR R w' a xs := by
  rcases h with h | ⟨b, off, ha, hl, hc⟩
  · exact .inl h
  · exact .inr ⟨b, off, ha, Nat.lt_of_lt_of_le hl hb.size, fun j t x hx ht => by rw [hb.cell (p := ⟨b, off + (R.k * j + t), none⟩) hl]; exact hc j t x hx ht⟩
theorem SrcR.form {w : World} {a : Option Addr} {xs : List α} (h : SrcR R w a xs) (hp : 0 < xs.length) : ∃ b off, a = some ⟨b, off, none⟩ ∧ b < w.heap.size ∧ ∀ j t x, xs[j]? = some x → t < R.k → w.cell? ⟨b, off + (R.k * j + t), none⟩ = (R.enc x)[t]? := by
  rcases h with rfl | h
  · exact absurd hp (by simp)
  · exact h

end
end Go.Proofs.YtoaifgblbfdncabGreatDoor
namespace Go.Proofs.YtoaifgblbfdncabGreatDoor

end Go.Proofs.YtoaifgblbfdncabGreatDoor
namespace Go.Proofs.YtoaifgblbfdncabGreatDoor

/-- The figures of a number; none for 0. -/
def digs (m : Nat) : List UInt8 := if m = 0 then [] else Lib.decDigits m

end Go.Proofs.YtoaifgblbfdncabGreatDoor
