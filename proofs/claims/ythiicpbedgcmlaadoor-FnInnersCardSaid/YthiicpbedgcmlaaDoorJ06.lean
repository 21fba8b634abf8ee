/-
  How data lie in memory, rows within rows: what can be read, what is the call's own, what a call changes, marks; no program is spoken of here.
  Rows of flat data of the call's own: appended to, copied, written into; no program is spoken of here.
  Small laws of no program: rows of texts that the call itself made.
  The given mark of a number, as a text.
  An element of a row taken out, where only new blocks are made; marks that are texts; measured rows.
  Rows of texts as they lie; the laws' own functions over them.
  The program's copy of a row of texts.
-/
import Derived.Test.YthiicpbedgcmlaaDoorJ03
import Derived.Test.YthiicpbedgcmlaaDoorJ05
import Derived.Laws.AppendOwnNone
import Derived.Test.YthiicpbedgcmlaaDoorJ01
import Derived.Test.YthiicpbedgcmlaaDoorRows
import Derived.BigQuiet
import Derived.Deep.QuietTactic
import Derived.Deep.RegionHeld3
import Derived.Deep.DeepCutAuto
namespace Go.Proofs.YthiicpbedgcmlaaDoor
open Go.RowKit

/-- How data lie in cells: as what can be read; as what is the call's own (from block b on, in these blocks); its marks from a number on. -/
structure Lay (α : Type) where
  k : Nat
  rd : World → List Value → α → Prop
  own : World → Nat → List Nat → List Value → α → Prop
  mark : Int → α → α × Int
  pos : 0 < k
  len : ∀ {w : World} {cs : List Value} {x : α}, rd w cs x → cs.length = k
  one : ∀ {w : World} {cs : List Value} {x : α}, rd w cs x → ∀ u ∈ cs, u.oneCell' = true
  below : ∀ {w w' : World} {cs : List Value} {x : α}, rd w cs x → Below w.heap.size w w' → rd w' cs x
  read : ∀ {w : World} {b : Nat} {fp : List Nat} {cs : List Value} {x : α}, own w b fp cs x → rd w cs x
  blocks : ∀ {w : World} {b : Nat} {fp : List Nat} {cs : List Value} {x : α}, own w b fp cs x → ∀ g ∈ fp, b ≤ g ∧ g < w.heap.size
  keep : ∀ {w w' : World} {b : Nat} {fp : List Nat} {cs : List Value} {x : α}, own w b fp cs x → (∀ g ∈ fp, w'.heap[g]? = w.heap[g]?) → own w' b fp cs x
  lower : ∀ {w : World} {b b' : Nat} {fp : List Nat} {cs : List Value} {x : α}, own w b fp cs x → b' ≤ b → own w b' fp cs x

def Lay.int : Lay Int where
  k := 1
  rd := fun _ cs x => cs = [.int .i64 x]
  own := fun _ _ fp cs x => fp = [] ∧ cs = [.int .i64 x]
  mark := fun k _ => (k, k + 1)
  pos := by decide
  len := fun h => by rw [h]; rfl
  one := fun h u hu => by rw [h] at hu; simp at hu; subst hu; rfl
  below := fun h _ => h
  read := fun h => h.2
  blocks := fun h g hg => by rw [h.1] at hg; cases hg
  keep := fun h _ => h
  lower := fun h _ => h
def Lay.bool : Lay Bool where
  k := 1
  rd := fun _ cs x => cs = [.bool x]
  own := fun _ _ fp cs x => fp = [] ∧ cs = [.bool x]
  mark := fun k _ => (Int.tmod k 3 == 0, k + 1)
  pos := by decide
  len := fun h => by rw [h]; rfl
  one := fun h u hu => by rw [h] at hu; simp at hu; subst hu; rfl
  below := fun h _ => h
  read := fun h => h.2
  blocks := fun h g hg => by rw [h.1] at hg; cases hg
  keep := fun h _ => h
  lower := fun h _ => h

section
variable {α β : Type}

/-- One behind another. -/
def rdAll (A : Lay α) (w : World) : List Value → List α → Prop
  | us, [] => us = []
  | us, x :: xs => ∃ c us', us = c ++ us' ∧ A.rd w c x ∧ rdAll A w us' xs
def ownAll (A : Lay α) (w : World) (b : Nat) : List Nat → List Value → List α → Prop
  | fp, us, [] => fp = [] ∧ us = []
  | fp, us, x :: xs => ∃ f g c us', fp = f ++ g ∧ us = c ++ us' ∧ A.own w b f c x ∧ ownAll A w b g us' xs
theorem rdAll_len (A : Lay α) {w : World} : ∀ {us : List Value} {xs : List α}, rdAll A w us xs → us.length = xs.length * A.k
  | us, [], h => by rw [show us = [] from h]; simp
  | us, x :: xs, h => by
    obtain ⟨c, us', rfl, h1, h2⟩ := h
    rw [List.length_append, A.len h1, rdAll_len A h2, List.length_cons, Nat.add_mul, Nat.one_mul, Nat.add_comm]
theorem ownAll_rd (A : Lay α) {w : World} {b : Nat} : ∀ {fp : List Nat} {us : List Value} {xs : List α}, ownAll A w b fp us xs → rdAll A w us xs
  | _, _, [], h => h.2
  | _, _, _ :: _, h => by
    obtain ⟨f, g, c, us', rfl, rfl, h1, h2⟩ := h
    exact ⟨c, us', rfl, A.read h1, ownAll_rd A h2⟩
theorem ownAll_blocks (A : Lay α) {w : World} {b : Nat} : ∀ {fp : List Nat} {us : List Value} {xs : List α}, ownAll A w b fp us xs → ∀ g ∈ fp, b ≤ g ∧ g < w.heap.size
  | _, _, [], h, g, hg => by rw [h.1] at hg; cases hg
  | _, _, _ :: _, h, i, hi => by
    obtain ⟨f, g, c, us', rfl, rfl, h1, h2⟩ := h
    rcases List.mem_append.1 hi with h | h
    · exact A.blocks h1 i h
    · exact ownAll_blocks A h2 i h
theorem ownAll_keep (A : Lay α) {w w' : World} {b : Nat} : ∀ {fp : List Nat} {us : List Value} {xs : List α}, ownAll A w b fp us xs → (∀ g ∈ fp, w'.heap[g]? = w.heap[g]?) → ownAll A w' b fp us xs
  | _, _, [], h, _ => h
  | _, _, _ :: _, h, hk => by
    obtain ⟨f, g, c, us', rfl, rfl, h1, h2⟩ := h
    exact ⟨f, g, c, us', rfl, rfl, A.keep h1 (fun i hi => hk i (by simp [hi])), ownAll_keep A h2 (fun i hi => hk i (by simp [hi]))⟩
theorem ownsRow_keep {w w' : World} {b : Nat} {e : TypeId} {k g n cap : Nat} {us : List Value} (h : w.ownsRow b e k (.slice (some ⟨g, 0, none⟩) n cap) n us) (hk : w'.heap[g]? = w.heap[g]?) : w'.ownsRow b e k (.slice (some ⟨g, 0, none⟩) n cap) n us := by
  refine ⟨h.1, ?_⟩
  rcases h.2 with h | ⟨g', cap', cur, h1, h2, h3, h4⟩
  · exact .inl h
  · simp only [Value.slice.injEq, Option.some.injEq, Addr.mk.injEq, and_true, true_and] at h1
    obtain ⟨rfl, rfl⟩ := h1
    exact .inr ⟨g, cap, cur, rfl, h2, by rw [hk]; exact h3, h4⟩
theorem ownsRow_block {w : World} {b : Nat} {e : TypeId} {k g n cap : Nat} {us : List Value} (h : w.ownsRow b e k (.slice (some ⟨g, 0, none⟩) n cap) n us) : b ≤ g ∧ g < w.heap.size ∧ n ≤ cap := by
  rcases h.2 with ⟨h, _⟩ | ⟨g', cap', cur, h1, h2, h3, h4, _⟩
  · simp at h
  · simp only [Value.slice.injEq, Option.some.injEq, Addr.mk.injEq, and_true, true_and] at h1
    obtain ⟨rfl, rfl⟩ := h1
    exact ⟨h2, lt_of_block h3, h4⟩

end

/-- These blocks alone are changed. -/
structure Chg (fp : List Nat) (w w' : World) : Prop where
  os : w'.os = w.os
  tape : w'.tape = w.tape
  output : w'.output = w.output
  size : w.heap.size ≤ w'.heap.size
  block : ∀ g, g < w.heap.size → g ∉ fp → w'.heap[g]? = w.heap[g]?
theorem Chg.refl (fp : List Nat) (w : World) : Chg fp w w := ⟨rfl, rfl, rfl, Nat.le_refl _, fun _ _ _ => rfl⟩
theorem Chg.trans {fp : List Nat} {w w1 w2 : World} (h : Chg fp w w1) (k : Chg fp w1 w2) : Chg fp w w2 :=
  ⟨k.os.trans h.os, k.tape.trans h.tape, k.output.trans h.output, Nat.le_trans h.size k.size, fun g hg hn => (k.block g (Nat.lt_of_lt_of_le hg h.size) hn).trans (h.block g hg hn)⟩
theorem Chg.below {fp : List Nat} {w w' : World} {b : Nat} (h : Chg fp w w') (hb : ∀ g ∈ fp, b ≤ g) (hs : b ≤ w.heap.size) : Below b w w' := ⟨h.os, h.tape, h.output, h.size, fun g hg => h.block g (by omega) (fun e => by have := hb g e; omega)⟩
theorem Chg.grown {w w' : World} {r : Option Nat} (h : w.grownBy w' r) (fp : List Nat) (hr : ∀ k, r = some k → k ∈ fp) : Chg fp w w' := ⟨h.os, h.tape, h.output, h.size, fun g hg hn => h.block g hg (fun e => hn (hr g e.symm))⟩
theorem Chg.cell (w : World) (g j : Nat) (v : Value) : Chg [g] w (w.setCell ⟨g, j, none⟩ v) := by
  have h := Only.setCell (c := g) (w := w) j v
  exact ⟨h.os, h.tape, h.output, h.size, fun k hk hn => h.block k hk (fun e => hn (by simp [e]))⟩
theorem Lay.next {α : Type} (A : Lay α) {w w' : World} {b : Nat} {fp : List Nat} {cs : List Value} {x : α} (h : A.own w b fp cs x) (hb : Below w.heap.size w w') : A.own w' b fp cs x :=
  A.keep h (fun g hg => hb.block g (A.blocks h g hg).2)

section
variable {α : Type}

theorem ownAll_len (A : Lay α) {w : World} {b : Nat} {fp : List Nat} {us : List Value} {xs : List α} (h : ownAll A w b fp us xs) : us.length = xs.length * A.k := rdAll_len A (ownAll_rd A h)

/-- A row of the call's own, laid open at one element. -/
structure Zip (e : TypeId) (A : Lay α) (w : World) (b g cap : Nat) (f1 f2 f3 : List Nat) (u1 c u3 : List Value) (X : List α) (x : α) (Y : List α) : Prop where
  row : w.ownsRow b e A.k (.slice (some ⟨g, 0, none⟩) (X ++ x :: Y).length cap) (X ++ x :: Y).length (u1 ++ (c ++ u3))
  left : ownAll A w b f1 u1 X
  mid : A.own w b f2 c x
  right : ownAll A w b f3 u3 Y
  dup : (g :: (f1 ++ (f2 ++ f3))).Nodup
theorem Zip.lt {e : TypeId} {A : Lay α} {w : World} {b g cap : Nat} {f1 f2 f3 : List Nat} {u1 c u3 : List Value} {X : List α} {x : α} {Y : List α} (h : Zip e A w b g cap f1 f2 f3 u1 c u3 X x Y) : b ≤ g ∧ g < w.heap.size := ⟨(ownsRow_block h.row).1, (ownsRow_block h.row).2.1⟩
theorem Zip.cell {e : TypeId} {A : Lay α} {w : World} {b g cap : Nat} {f1 f2 f3 : List Nat} {u1 c u3 : List Value} {X : List α} {x : α} {Y : List α} (h : Zip e A w b g cap f1 f2 f3 u1 c u3 X x Y) (t : Nat) (u : Value) (hu : c[t]? = some u) :
    w.cell? ⟨g, X.length * A.k + t, none⟩ = some u ∧ w.frozen? ⟨g, X.length * A.k + t, none⟩ = false := by
  refine ⟨?_, h.row.frozenAt _⟩
  have h3 := h.row.cells (g := g) rfl (X.length * A.k + t) u (by
    rw [← ownAll_len A h.left, List.getElem?_append_right (by omega), Nat.add_sub_cancel_left, List.getElem?_append_left (List.getElem?_eq_some_iff.1 hu).1]
    exact hu)
  have e1 : (⟨g, 0, none⟩ : Addr).add (X.length * A.k + t) = ⟨g, X.length * A.k + t, none⟩ := by unfold Addr.add; split <;> simp_all
  rw [← e1]
  exact h3
theorem setL_in (A c B : List Value) (t : Nat) (vs : List Value) (ht : t + vs.length ≤ c.length) : setL (A ++ (c ++ B)) (A.length + t) vs = A ++ (setL c t vs ++ B) := by
  induction vs generalizing c t with
  | nil => rfl
  | cons v vs ih =>
    have h1 : t < c.length := by simp at ht; omega
    show setL ((A ++ (c ++ B)).set (A.length + t) v) (A.length + t + 1) vs = A ++ (setL (c.set t v) (t + 1) vs ++ B)
    have e : (A ++ (c ++ B)).set (A.length + t) v = A ++ (c.set t v ++ B) := by
      rw [List.set_append_right _ _ (by omega), Nat.add_sub_cancel_left, List.set_append_left _ _ h1]
    rw [e, Nat.add_assoc]
    exact ih (c.set t v) (t + 1) (by simp at ht ⊢; omega)
/-- Cells of the element are written. -/
theorem Zip.store {e : TypeId} {A : Lay α} {w : World} {b g cap : Nat} {f1 f2 f3 : List Nat} {u1 c u3 : List Value} {X : List α} {x : α} {Y : List α} (h : Zip e A w b g cap f1 f2 f3 u1 c u3 X x Y) (vs : List Value) (t : Nat) (ht : t + vs.length ≤ c.length)
    (f : List Nat) (x' : α) (hx : A.own w b f (setL c t vs) x') (hdup : (g :: (f1 ++ (f ++ f3))).Nodup) :
    Zip e A (setCells w g (X.length * A.k + t) vs) b g cap f1 f f3 u1 (setL c t vs) u3 X x' Y ∧ Chg [g] w (setCells w g (X.length * A.k + t) vs) := by
  have hc : Chg [g] w (setCells w g (X.length * A.k + t) vs) := by
    have h2 := (ownsRow_setCells vs (X.length * A.k + t) h.row).2
    exact Chg.grown h2 [g] (fun k hk => by cases hk; simp)
  have hg : ∀ i, i ∈ f1 ++ (f ++ f3) → i ∉ [g] := fun i hi hig => by
    rw [List.mem_singleton.1 hig] at hi
    exact (List.nodup_cons.1 hdup).1 hi
  have hk : ∀ {i : Nat}, i ∈ f1 ++ (f ++ f3) → i < w.heap.size → (setCells w g (X.length * A.k + t) vs).heap[i]? = w.heap[i]? := fun hi hl => hc.block _ hl (hg _ hi)
  refine ⟨⟨?_, ownAll_keep A h.left (fun i hi => hk (by simp [hi]) (ownAll_blocks A h.left i hi).2), A.keep hx (fun i hi => hk (by simp [hi]) (A.blocks hx i hi).2), ownAll_keep A h.right (fun i hi => hk (by simp [hi]) (ownAll_blocks A h.right i hi).2), hdup⟩, hc⟩
  have h1 := (ownsRow_setCells vs (X.length * A.k + t) h.row).1
  have e1 : setL (u1 ++ (c ++ u3)) (X.length * A.k + t) vs = u1 ++ (setL c t vs ++ u3) := by
    rw [← ownAll_len A h.left]
    exact setL_in u1 c u3 t vs ht
  rw [e1] at h1
  have e2 : (X ++ x' :: Y).length = (X ++ x :: Y).length := by simp
  rw [e2]
  exact h1
end
end Go.Proofs.YthiicpbedgcmlaaDoor
namespace Go.Proofs.YthiicpbedgcmlaaDoor
open Go.RowKit

section
variable {α : Type}

/-- Data without rows within. -/
structure Flat (A : Lay α) : Prop where
  own : ∀ (w : World) (b : Nat) (c : List Value) (x : α), A.rd w c x → A.own w b [] c x
  none : ∀ (w : World) (b : Nat) (f : List Nat) (c : List Value) (x : α), A.own w b f c x → f = []
  any : ∀ (w w' : World) (c : List Value) (x : α), A.rd w c x → A.rd w' c x
theorem Flat.all {A : Lay α} (hf : Flat A) {w w' : World} : ∀ {us : List Value} {xs : List α}, rdAll A w us xs → rdAll A w' us xs
  | _, [], h => h
  | _, _ :: _, h => by
    obtain ⟨c, us', rfl, h1, h2⟩ := h
    exact ⟨c, us', rfl, hf.any _ _ _ _ h1, hf.all h2⟩
end
end Go.Proofs.YthiicpbedgcmlaaDoor
namespace Go.Proofs.YthiicpbedgcmlaaDoor
open Go.RowKit

def strs (ls : List (List UInt8)) : List Value := ls.map fun l => Value.string ⟨l.toArray⟩

/-- The slice value v is nil or the call's own (from block 'base' on), and holds these texts. -/
def OwnS (w : World) (base : Nat) (e : TypeId) (v : Value) (ls : List (List UInt8)) : Prop := w.ownsRow base e 1 v ls.length (strs ls)

theorem OwnS.nil (w : World) (base : Nat) (e : TypeId) : OwnS w base e (.slice none 0 0) [] := World.ownsRow_nil _ _ _ _
theorem OwnS.lit (w : World) (base : Nat) (e : TypeId) (hb : base ≤ w.heap.size) : OwnS (w.alloc (.cells #[] e)) base e (.slice (some ⟨w.heap.size, 0, none⟩) 0 0) [] :=
  World.ownsRow_lit w #[] 0 hb (by decide) rfl
theorem OwnS.alloc {w : World} {base : Nat} {e : TypeId} {v : Value} {ls : List (List UInt8)} (h : OwnS w base e v ls) (o : Obj) : OwnS (w.alloc o) base e v ls := World.ownsRow.alloc h o
theorem OwnS.drewN {w : World} {base : Nat} {e : TypeId} {v : Value} {ls : List (List UInt8)} (h : OwnS w base e v ls) (n : Nat) : OwnS (w.drewN n) base e v ls := h
theorem OwnS.below {w w' : World} {base : Nat} {e : TypeId} {v : Value} {ls : List (List UInt8)} (h : OwnS w base e v ls) (hb : Below w.heap.size w w') : OwnS w' base e v ls := by
  refine ⟨h.1, ?_⟩
  rcases h.2 with h | ⟨g, cap, cur, h1, h2, h3, h4⟩
  · exact .inl h
  · exact .inr ⟨g, cap, cur, h1, h2, by rw [hb.block g (lt_of_block h3)]; exact h3, h4⟩

/-- One text of the row is written over. -/
theorem OwnS.stored {w : World} {base : Nat} {e : TypeId} {g n cap : Nat} {ls : List (List UInt8)} (hn : n = ls.length) (h : OwnS w base e (.slice (some ⟨g, 0, none⟩) n cap) ls) (j : Nat) (t : List UInt8) :
    OwnS (w.setCell ⟨g, j, none⟩ (.string ⟨t.toArray⟩)) base e (.slice (some ⟨g, 0, none⟩) n cap) (ls.set j t) := by
  subst hn
  have h' : w.ownsRow base e 1 (.slice (some ⟨g, 0, none⟩) ls.length cap) ls.length (strs ls) := h
  have h2 := (h'.stored j (.string ⟨t.toArray⟩)).1
  unfold OwnS
  have e1 : strs (ls.set j t) = (strs ls).set j (.string ⟨t.toArray⟩) := by simp [strs]
  rw [e1, List.length_set]
  exact h2

end Go.Proofs.YthiicpbedgcmlaaDoor
namespace Go.Proofs.YthiicpbedgcmlaaDoor
open Go.RowKit

/-- The mark of a number. -/
def mark (k : Nat) : List UInt8 := 109 :: digs k

end Go.Proofs.YthiicpbedgcmlaaDoor
namespace Go.Proofs.YthiicpbedgcmlaaDoor
open Go.RowKit

theorem Zip.next {α : Type} {e : TypeId} {A : Lay α} {w w' : World} {b g cap : Nat} {f1 f2 f3 : List Nat} {u1 c u3 : List Value} {X : List α} {x : α} {Y : List α} (h : Zip e A w b g cap f1 f2 f3 u1 c u3 X x Y) (hb : Below w.heap.size w w') : Zip e A w' b g cap f1 f2 f3 u1 c u3 X x Y :=
  ⟨ownsRow_keep h.row (hb.block g h.lt.2), ownAll_keep A h.left (fun i hi => hb.block i (ownAll_blocks A h.left i hi).2), A.next h.mid hb, ownAll_keep A h.right (fun i hi => hb.block i (ownAll_blocks A h.right i hi).2), h.dup⟩
end Go.Proofs.YthiicpbedgcmlaaDoor
namespace Go.Proofs.YthiicpbedgcmlaaDoor
open Go.RowKit

end Go.Proofs.YthiicpbedgcmlaaDoor
namespace Go.Proofs.YthiicpbedgcmlaaDoor
open Go.RowKit

/-- What the library's Clone gives. -/
def CloneGives : Prop := ∀ (s : ByteArray) (w : World), s.size ≤ 1048576 → Calls Tryd.prog 24 #[.string s] w fun e w' => e = .returned (.string s) ∧ Below w.heap.size w w'
end Go.Proofs.YthiicpbedgcmlaaDoor
