/-
  How data lie in memory, rows within rows: what can be read, what is the call's own, what a call changes, marks; no program is spoken of here.
-/
import Derived.Test.YthiicpbedgcmlaaJ02
namespace Go.Proofs.Ythiicpbedgcmlaa
open Go.RowKit

/-- How data lie in cells: as what can be read; as what is the call's own (from block b on, in these blocks); its marks from a number on. -/
structure Lay (α : Type) where
  k : Nat
  rd : World → List Value → α → Prop
  own : World → Nat → List Nat → List Value → α → Prop
  mark : Int → α → α × Int
  pos : 0 < k
  len : ∀ {w : World} {cs : List Value} {x : α}, rd w cs x → cs.length = k
  one : ∀ {w : World} {cs : List Value} {x : α}, rd w cs x → ∀ u ∈ cs, u.oneCell' = true
  below : ∀ {w w' : World} {cs : List Value} {x : α}, rd w cs x → Below w.heap.size w w' → rd w' cs x
  read : ∀ {w : World} {b : Nat} {fp : List Nat} {cs : List Value} {x : α}, own w b fp cs x → rd w cs x
  blocks : ∀ {w : World} {b : Nat} {fp : List Nat} {cs : List Value} {x : α}, own w b fp cs x → ∀ g ∈ fp, b ≤ g ∧ g < w.heap.size
  keep : ∀ {w w' : World} {b : Nat} {fp : List Nat} {cs : List Value} {x : α}, own w b fp cs x → (∀ g ∈ fp, w'.heap[g]? = w.heap[g]?) → own w' b fp cs x
  lower : ∀ {w : World} {b b' : Nat} {fp : List Nat} {cs : List Value} {x : α}, own w b fp cs x → b' ≤ b → own w b' fp cs x

/-- What a mark of a text is. -/
def markTxt (k : Int) : ByteArray := ⟨(109 :: Lib.decDigits k.toNat).toArray⟩

def Lay.int : Lay Int where
  k := 1
  rd := fun _ cs x => cs = [.int .i64 x]
  own := fun _ _ fp cs x => fp = [] ∧ cs = [.int .i64 x]
  mark := fun k _ => (k, k + 1)
  pos := by decide
  len := fun h => by rw [h]; rfl
  one := fun h u hu => by rw [h] at hu; simp at hu; subst hu; rfl
  below := fun h _ => h
  read := fun h => h.2
  blocks := fun h g hg => by rw [h.1] at hg; cases hg
  keep := fun h _ => h
  lower := fun h _ => h
def Lay.str : Lay ByteArray where
  k := 1
  rd := fun _ cs x => cs = [.string x]
  own := fun _ _ fp cs x => fp = [] ∧ cs = [.string x]
  mark := fun k _ => (markTxt k, k + 1)
  pos := by decide
  len := fun h => by rw [h]; rfl
  one := fun h u hu => by rw [h] at hu; simp at hu; subst hu; rfl
  below := fun h _ => h
  read := fun h => h.2
  blocks := fun h g hg => by rw [h.1] at hg; cases hg
  keep := fun h _ => h
  lower := fun h _ => h
def Lay.bool : Lay Bool where
  k := 1
  rd := fun _ cs x => cs = [.bool x]
  own := fun _ _ fp cs x => fp = [] ∧ cs = [.bool x]
  mark := fun k _ => (Int.tmod k 3 == 0, k + 1)
  pos := by decide
  len := fun h => by rw [h]; rfl
  one := fun h u hu => by rw [h] at hu; simp at hu; subst hu; rfl
  below := fun h _ => h
  read := fun h => h.2
  blocks := fun h g hg => by rw [h.1] at hg; cases hg
  keep := fun h _ => h
  lower := fun h _ => h

section
variable {α β : Type}

/-- Side by side. -/
def Lay.pair (A : Lay α) (B : Lay β) : Lay (α × β) where
  k := A.k + B.k
  rd := fun w cs x => ∃ c d, cs = c ++ d ∧ A.rd w c x.1 ∧ B.rd w d x.2
  own := fun w b fp cs x => ∃ f g c d, fp = f ++ g ∧ cs = c ++ d ∧ A.own w b f c x.1 ∧ B.own w b g d x.2
  mark := fun k x => (((A.mark k x.1).1, (B.mark (A.mark k x.1).2 x.2).1), (B.mark (A.mark k x.1).2 x.2).2)
  pos := by have := A.pos; omega
  len := by
    rintro w cs x ⟨c, d, rfl, h1, h2⟩
    rw [List.length_append, A.len h1, B.len h2]
  one := by
    rintro w cs x ⟨c, d, rfl, h1, h2⟩ u hu
    rcases List.mem_append.1 hu with h | h
    · exact A.one h1 u h
    · exact B.one h2 u h
  below := by
    rintro w w' cs x ⟨c, d, rfl, h1, h2⟩ hb
    exact ⟨c, d, rfl, A.below h1 hb, B.below h2 hb⟩
  read := by
    rintro w b fp cs x ⟨f, g, c, d, rfl, rfl, h1, h2⟩
    exact ⟨c, d, rfl, A.read h1, B.read h2⟩
  blocks := by
    rintro w b fp cs x ⟨f, g, c, d, rfl, rfl, h1, h2⟩ i hi
    rcases List.mem_append.1 hi with h | h
    · exact A.blocks h1 i h
    · exact B.blocks h2 i h
  keep := by
    rintro w w' b fp cs x ⟨f, g, c, d, rfl, rfl, h1, h2⟩ hk
    exact ⟨f, g, c, d, rfl, rfl, A.keep h1 (fun i hi => hk i (by simp [hi])), B.keep h2 (fun i hi => hk i (by simp [hi]))⟩
  lower := by
    rintro w b b' fp cs x ⟨f, g, c, d, rfl, rfl, h1, h2⟩ hb
    exact ⟨f, g, c, d, rfl, rfl, A.lower h1 hb, B.lower h2 hb⟩

/-- One behind another. -/
def rdAll (A : Lay α) (w : World) : List Value → List α → Prop
  | us, [] => us = []
  | us, x :: xs => ∃ c us', us = c ++ us' ∧ A.rd w c x ∧ rdAll A w us' xs
def ownAll (A : Lay α) (w : World) (b : Nat) : List Nat → List Value → List α → Prop
  | fp, us, [] => fp = [] ∧ us = []
  | fp, us, x :: xs => ∃ f g c us', fp = f ++ g ∧ us = c ++ us' ∧ A.own w b f c x ∧ ownAll A w b g us' xs
def mkAll (A : Lay α) : Int → List α → List α × Int
  | k, [] => ([], k)
  | k, x :: xs => ((A.mark k x).1 :: (mkAll A (A.mark k x).2 xs).1, (mkAll A (A.mark k x).2 xs).2)
theorem rdAll_len (A : Lay α) {w : World} : ∀ {us : List Value} {xs : List α}, rdAll A w us xs → us.length = xs.length * A.k
  | us, [], h => by rw [show us = [] from h]; simp
  | us, x :: xs, h => by
    obtain ⟨c, us', rfl, h1, h2⟩ := h
    rw [List.length_append, A.len h1, rdAll_len A h2, List.length_cons, Nat.add_mul, Nat.one_mul, Nat.add_comm]
theorem rdAll_one (A : Lay α) {w : World} : ∀ {us : List Value} {xs : List α}, rdAll A w us xs → ∀ u ∈ us, u.oneCell' = true
  | us, [], h, u, hu => by rw [show us = [] from h] at hu; cases hu
  | us, x :: xs, h, u, hu => by
    obtain ⟨c, us', rfl, h1, h2⟩ := h
    rcases List.mem_append.1 hu with h | h
    · exact A.one h1 u h
    · exact rdAll_one A h2 u h
theorem rdAll_below (A : Lay α) {w w' : World} (hb : Below w.heap.size w w') : ∀ {us : List Value} {xs : List α}, rdAll A w us xs → rdAll A w' us xs
  | _, [], h => h
  | _, _ :: _, h => by
    obtain ⟨c, us', rfl, h1, h2⟩ := h
    exact ⟨c, us', rfl, A.below h1 hb, rdAll_below A hb h2⟩
theorem ownAll_rd (A : Lay α) {w : World} {b : Nat} : ∀ {fp : List Nat} {us : List Value} {xs : List α}, ownAll A w b fp us xs → rdAll A w us xs
  | _, _, [], h => h.2
  | _, _, _ :: _, h => by
    obtain ⟨f, g, c, us', rfl, rfl, h1, h2⟩ := h
    exact ⟨c, us', rfl, A.read h1, ownAll_rd A h2⟩
theorem ownAll_blocks (A : Lay α) {w : World} {b : Nat} : ∀ {fp : List Nat} {us : List Value} {xs : List α}, ownAll A w b fp us xs → ∀ g ∈ fp, b ≤ g ∧ g < w.heap.size
  | _, _, [], h, g, hg => by rw [h.1] at hg; cases hg
  | _, _, _ :: _, h, i, hi => by
    obtain ⟨f, g, c, us', rfl, rfl, h1, h2⟩ := h
    rcases List.mem_append.1 hi with h | h
    · exact A.blocks h1 i h
    · exact ownAll_blocks A h2 i h
theorem ownAll_keep (A : Lay α) {w w' : World} {b : Nat} : ∀ {fp : List Nat} {us : List Value} {xs : List α}, ownAll A w b fp us xs → (∀ g ∈ fp, w'.heap[g]? = w.heap[g]?) → ownAll A w' b fp us xs
  | _, _, [], h, _ => h
  | _, _, _ :: _, h, hk => by
    obtain ⟨f, g, c, us', rfl, rfl, h1, h2⟩ := h
    exact ⟨f, g, c, us', rfl, rfl, A.keep h1 (fun i hi => hk i (by simp [hi])), ownAll_keep A h2 (fun i hi => hk i (by simp [hi]))⟩
theorem ownAll_lower (A : Lay α) {w : World} {b b' : Nat} (hb : b' ≤ b) : ∀ {fp : List Nat} {us : List Value} {xs : List α}, ownAll A w b fp us xs → ownAll A w b' fp us xs
  | _, _, [], h => h
  | _, _, _ :: _, h => by
    obtain ⟨f, g, c, us', rfl, rfl, h1, h2⟩ := h
    exact ⟨f, g, c, us', rfl, rfl, A.lower h1 hb, ownAll_lower A hb h2⟩
theorem ownsRow_keep {w w' : World} {b : Nat} {e : TypeId} {k g n cap : Nat} {us : List Value} (h : w.ownsRow b e k (.slice (some ⟨g, 0, none⟩) n cap) n us) (hk : w'.heap[g]? = w.heap[g]?) : w'.ownsRow b e k (.slice (some ⟨g, 0, none⟩) n cap) n us := by
  refine ⟨h.1, ?_⟩
  rcases h.2 with h | ⟨g', cap', cur, h1, h2, h3, h4⟩
  · exact .inl h
  · simp only [Value.slice.injEq, Option.some.injEq, Addr.mk.injEq, and_true, true_and] at h1
    obtain ⟨rfl, rfl⟩ := h1
    exact .inr ⟨g, cap, cur, rfl, h2, by rw [hk]; exact h3, h4⟩
theorem ownsRow_lower {w : World} {b b' : Nat} {e : TypeId} {k g n cap : Nat} {us : List Value} (h : w.ownsRow b e k (.slice (some ⟨g, 0, none⟩) n cap) n us) (hb : b' ≤ b) : w.ownsRow b' e k (.slice (some ⟨g, 0, none⟩) n cap) n us := by
  refine ⟨h.1, ?_⟩
  rcases h.2 with h | ⟨g', cap', cur, h1, h2, h3, h4⟩
  · exact .inl h
  · exact .inr ⟨g', cap', cur, h1, Nat.le_trans hb h2, h3, h4⟩
theorem ownsRow_block {w : World} {b : Nat} {e : TypeId} {k g n cap : Nat} {us : List Value} (h : w.ownsRow b e k (.slice (some ⟨g, 0, none⟩) n cap) n us) : b ≤ g ∧ g < w.heap.size ∧ n ≤ cap := by
  rcases h.2 with ⟨h, _⟩ | ⟨g', cap', cur, h1, h2, h3, h4, _⟩
  · simp at h
  · simp only [Value.slice.injEq, Option.some.injEq, Addr.mk.injEq, and_true, true_and] at h1
    obtain ⟨rfl, rfl⟩ := h1
    exact ⟨h2, lt_of_block h3, h4⟩

/-- A row of such data behind a slice. -/
def Lay.rows (e : TypeId) (A : Lay α) : Lay (List α) where
  k := 1
  rd := fun w cs xs => ∃ v, cs = [v] ∧ ((xs = [] ∧ ∃ a cap, v = .slice a 0 cap ∧ (a = none → cap = 0)) ∨ ∃ g off cap us, v = .slice (some ⟨g, off, none⟩) xs.length cap ∧ xs.length ≤ cap ∧ g < w.heap.size ∧ (∀ i u, us[i]? = some u → w.cell? ⟨g, off + i, none⟩ = some u) ∧ rdAll A w us xs)
  own := fun w b fp cs xs => ∃ v, cs = [v] ∧ ((v = .slice none 0 0 ∧ xs = [] ∧ fp = []) ∨ ∃ g cap us fq, v = .slice (some ⟨g, 0, none⟩) xs.length cap ∧ fp = g :: fq ∧ w.ownsRow b e A.k (.slice (some ⟨g, 0, none⟩) xs.length cap) xs.length us ∧ ownAll A w b fq us xs)
  mark := mkAll A
  pos := by decide
  len := by
    rintro w cs x ⟨v, rfl, _⟩
    rfl
  one := by
    rintro w cs x ⟨v, rfl, h⟩ u hu
    simp at hu
    subst hu
    rcases h with ⟨_, a, cap, rfl, _⟩ | ⟨g, off, cap, us, rfl, _⟩ <;> rfl
  below := by
    rintro w w' cs x ⟨v, rfl, h⟩ hb
    refine ⟨v, rfl, ?_⟩
    rcases h with h | ⟨g, off, cap, us, h1, hcp, h2, h3, h4⟩
    · exact .inl h
    · exact .inr ⟨g, off, cap, us, h1, hcp, Nat.lt_of_lt_of_le h2 hb.size, fun i u hu => by rw [hb.cell (p := ⟨g, off + i, none⟩) h2]; exact h3 i u hu, rdAll_below A hb h4⟩
  read := by
    rintro w b fp cs x ⟨v, rfl, h⟩
    refine ⟨v, rfl, ?_⟩
    rcases h with ⟨rfl, rfl, _⟩ | ⟨g, cap, us, fq, rfl, _, h1, h2⟩
    · exact .inl ⟨rfl, none, 0, rfl, fun _ => rfl⟩
    · refine .inr ⟨g, 0, cap, us, rfl, (ownsRow_block h1).2.2, (ownsRow_block h1).2.1, fun i u hu => ?_, ownAll_rd A h2⟩
      have h3 := h1.cells (g := g) rfl i u hu
      have e1 : (⟨g, 0, none⟩ : Addr).add i = ⟨g, i, none⟩ := by unfold Addr.add; split <;> simp_all
      rw [Nat.zero_add, ← e1]
      exact h3
  blocks := by
    rintro w b fp cs x ⟨v, rfl, h⟩ i hi
    rcases h with ⟨_, _, rfl⟩ | ⟨g, cap, us, fq, _, rfl, h1, h2⟩
    · cases hi
    · rcases List.mem_cons.1 hi with rfl | hi
      · exact ⟨(ownsRow_block h1).1, (ownsRow_block h1).2.1⟩
      · exact ownAll_blocks A h2 i hi
  keep := by
    rintro w w' b fp cs x ⟨v, rfl, h⟩ hk
    refine ⟨v, rfl, ?_⟩
    rcases h with h | ⟨g, cap, us, fq, h0, rfl, h1, h2⟩
    · exact .inl h
    · exact .inr ⟨g, cap, us, fq, h0, rfl, ownsRow_keep h1 (hk g (by simp)), ownAll_keep A h2 (fun i hi => hk i (by simp [hi]))⟩
  lower := by
    rintro w b b' fp cs x ⟨v, rfl, h⟩ hb
    refine ⟨v, rfl, ?_⟩
    rcases h with h | ⟨g, cap, us, fq, h0, rfl, h1, h2⟩
    · exact .inl h
    · exact .inr ⟨g, cap, us, fq, h0, rfl, ownsRow_lower h1 hb, ownAll_lower A hb h2⟩

end

/-- These blocks alone are changed. -/
structure Chg (fp : List Nat) (w w' : World) : Prop where
  os : w'.os = w.os
  tape : w'.tape = w.tape
  output : w'.output = w.output
  size : w.heap.size ≤ w'.heap.size
  block : ∀ g, g < w.heap.size → g ∉ fp → w'.heap[g]? = w.heap[g]?
theorem Chg.refl (fp : List Nat) (w : World) : Chg fp w w := ⟨rfl, rfl, rfl, Nat.le_refl _, fun _ _ _ => rfl⟩
theorem Chg.trans {fp : List Nat} {w w1 w2 : World} (h : Chg fp w w1) (k : Chg fp w1 w2) : Chg fp w w2 :=
  ⟨k.os.trans h.os, k.tape.trans h.tape, k.output.trans h.output, Nat.le_trans h.size k.size, fun g hg hn => (k.block g (Nat.lt_of_lt_of_le hg h.size) hn).trans (h.block g hg hn)⟩
theorem Chg.sub {fp fq : List Nat} {w w' : World} (h : Chg fp w w') (hs : ∀ g ∈ fp, g ∈ fq) : Chg fq w w' := ⟨h.os, h.tape, h.output, h.size, fun g hg hn => h.block g hg (fun e => hn (hs g e))⟩
theorem Chg.below {fp : List Nat} {w w' : World} {b : Nat} (h : Chg fp w w') (hb : ∀ g ∈ fp, b ≤ g) (hs : b ≤ w.heap.size) : Below b w w' := ⟨h.os, h.tape, h.output, h.size, fun g hg => h.block g (by omega) (fun e => by have := hb g e; omega)⟩
theorem Below.chg {w w' : World} (h : Below w.heap.size w w') (fp : List Nat) : Chg fp w w' := ⟨h.os, h.tape, h.output, h.size, fun g hg _ => h.block g hg⟩
theorem Chg.grown {w w' : World} {r : Option Nat} (h : w.grownBy w' r) (fp : List Nat) (hr : ∀ k, r = some k → k ∈ fp) : Chg fp w w' := ⟨h.os, h.tape, h.output, h.size, fun g hg hn => h.block g hg (fun e => hn (hr g e.symm))⟩
theorem Chg.cell (w : World) (g j : Nat) (v : Value) : Chg [g] w (w.setCell ⟨g, j, none⟩ v) := by
  have h := Only.setCell (c := g) (w := w) j v
  exact ⟨h.os, h.tape, h.output, h.size, fun k hk hn => h.block k hk (fun e => hn (by simp [e]))⟩
theorem Lay.chg {α : Type} (A : Lay α) {w w' : World} {b : Nat} {fp fq : List Nat} {cs : List Value} {x : α} (h : A.own w b fp cs x) (hc : Chg fq w w') (hd : ∀ g ∈ fp, g ∉ fq) : A.own w' b fp cs x :=
  A.keep h (fun g hg => hc.block g (A.blocks h g hg).2 (hd g hg))
theorem Lay.next {α : Type} (A : Lay α) {w w' : World} {b : Nat} {fp : List Nat} {cs : List Value} {x : α} (h : A.own w b fp cs x) (hb : Below w.heap.size w w') : A.own w' b fp cs x :=
  A.keep h (fun g hg => hb.block g (A.blocks h g hg).2)

section
variable {α : Type}

theorem rdAll_get (A : Lay α) {w : World} : ∀ {us : List Value} {xs : List α} (_ : rdAll A w us xs) (j : Nat) (x : α), xs[j]? = some x → ∃ c, A.rd w c x ∧ ∀ t u, c[t]? = some u → us[j * A.k + t]? = some u
  | us, [], _, j, x, hx => by simp at hx
  | us, y :: ys, h, j, x, hx => by
    obtain ⟨c, us', rfl, h1, h2⟩ := h
    cases j with
    | zero =>
      simp at hx
      subst hx
      refine ⟨c, h1, fun t u hu => ?_⟩
      rw [Nat.zero_mul, Nat.zero_add, List.getElem?_append_left (List.getElem?_eq_some_iff.1 hu).1]
      exact hu
    | succ j =>
      obtain ⟨d, d1, d2⟩ := rdAll_get A h2 j x (by simpa using hx)
      refine ⟨d, d1, fun t u hu => ?_⟩
      have e : (j + 1) * A.k + t = c.length + (j * A.k + t) := by rw [A.len h1, Nat.add_mul, Nat.one_mul]; omega
      rw [e, List.getElem?_append_right (by omega), Nat.add_sub_cancel_left]
      exact d2 t u hu
/-- The shape of a row that can be read. -/
theorem rows_form {e : TypeId} {A : Lay α} {w : World} {v : Value} {xs : List α} (h : (Lay.rows e A).rd w [v] xs) : ∃ a cap, v = .slice a xs.length cap := by
  obtain ⟨v', hv, h⟩ := h
  obtain rfl : v = v' := by simpa using hv
  rcases h with ⟨rfl, a, cap, rfl, _⟩ | ⟨g, off, cap, us, rfl, _⟩
  · exact ⟨a, cap, rfl⟩
  · exact ⟨_, cap, rfl⟩
/-- One element of a row that can be read. -/
theorem rows_elem {e : TypeId} {A : Lay α} {w : World} {a : Option Addr} {n cap : Nat} {xs : List α} (h : (Lay.rows e A).rd w [.slice a n cap] xs) (j : Nat) (x : α) (hx : xs[j]? = some x) :
    ∃ g off c, a = some ⟨g, off, none⟩ ∧ g < w.heap.size ∧ A.rd w c x ∧ ∀ t u, c[t]? = some u → w.cell? ⟨g, off + j * A.k + t, none⟩ = some u := by
  obtain ⟨v', hv, h⟩ := h
  obtain rfl : Value.slice a n cap = v' := by simpa using hv
  rcases h with ⟨rfl, _⟩ | ⟨g, off, cap', us, h0, _, hg, hc, hr⟩
  · simp at hx
  · simp only [Value.slice.injEq] at h0
    obtain ⟨rfl, rfl, rfl⟩ := h0
    obtain ⟨c, c1, c2⟩ := rdAll_get A hr j x hx
    exact ⟨g, off, c, rfl, hg, c1, fun t u hu => by rw [Nat.add_assoc]; exact hc _ u (c2 t u hu)⟩

theorem rdAll_append (A : Lay α) {w : World} : ∀ {us : List Value} {X Y : List α}, rdAll A w us (X ++ Y) → ∃ u1 u2, us = u1 ++ u2 ∧ rdAll A w u1 X ∧ rdAll A w u2 Y
  | us, [], Y, h => ⟨[], us, rfl, rfl, h⟩
  | us, x :: X, Y, h => by
    obtain ⟨c, us', rfl, h1, h2⟩ := h
    obtain ⟨u1, u2, rfl, i1, i2⟩ := rdAll_append A h2
    exact ⟨c ++ u1, u2, by rw [List.append_assoc], ⟨c, u1, rfl, h1, i1⟩, i2⟩
theorem ownAll_append (A : Lay α) {w : World} {b : Nat} : ∀ {fp : List Nat} {us : List Value} {X Y : List α}, ownAll A w b fp us (X ++ Y) → ∃ f1 f2 u1 u2, fp = f1 ++ f2 ∧ us = u1 ++ u2 ∧ ownAll A w b f1 u1 X ∧ ownAll A w b f2 u2 Y
  | fp, us, [], Y, h => ⟨[], fp, [], us, rfl, rfl, ⟨rfl, rfl⟩, h⟩
  | fp, us, x :: X, Y, h => by
    obtain ⟨f, g, c, us', rfl, rfl, h1, h2⟩ := h
    obtain ⟨f1, f2, u1, u2, rfl, rfl, i1, i2⟩ := ownAll_append A h2
    exact ⟨f ++ f1, f2, c ++ u1, u2, by rw [List.append_assoc], by rw [List.append_assoc], ⟨f, f1, c, u1, rfl, rfl, h1, i1⟩, i2⟩
theorem ownAll_join (A : Lay α) {w : World} {b : Nat} : ∀ {f1 f2 : List Nat} {u1 u2 : List Value} {X Y : List α}, ownAll A w b f1 u1 X → ownAll A w b f2 u2 Y → ownAll A w b (f1 ++ f2) (u1 ++ u2) (X ++ Y)
  | f1, f2, u1, u2, [], Y, h, h2 => by
    rw [h.1, h.2]
    exact h2
  | f1, f2, u1, u2, x :: X, Y, h, h2 => by
    obtain ⟨f, g, c, us', rfl, rfl, i1, i2⟩ := h
    exact ⟨f, g ++ f2, c, us' ++ u2, by rw [List.append_assoc], by rw [List.append_assoc], i1, ownAll_join A i2 h2⟩
theorem ownAll_len (A : Lay α) {w : World} {b : Nat} {fp : List Nat} {us : List Value} {xs : List α} (h : ownAll A w b fp us xs) : us.length = xs.length * A.k := rdAll_len A (ownAll_rd A h)

/-- A row of the call's own, laid open at one element. -/
structure Zip (e : TypeId) (A : Lay α) (w : World) (b g cap : Nat) (f1 f2 f3 : List Nat) (u1 c u3 : List Value) (X : List α) (x : α) (Y : List α) : Prop where
  row : w.ownsRow b e A.k (.slice (some ⟨g, 0, none⟩) (X ++ x :: Y).length cap) (X ++ x :: Y).length (u1 ++ (c ++ u3))
  left : ownAll A w b f1 u1 X
  mid : A.own w b f2 c x
  right : ownAll A w b f3 u3 Y
  dup : (g :: (f1 ++ (f2 ++ f3))).Nodup
theorem rows_open {e : TypeId} {A : Lay α} {w : World} {b : Nat} {fp : List Nat} {v : Value} {X : List α} {x : α} {Y : List α} (h : (Lay.rows e A).own w b fp [v] (X ++ x :: Y)) (hd : fp.Nodup) :
    ∃ g cap f1 f2 f3 u1 c u3, v = .slice (some ⟨g, 0, none⟩) (X ++ x :: Y).length cap ∧ fp = g :: (f1 ++ (f2 ++ f3)) ∧ Zip e A w b g cap f1 f2 f3 u1 c u3 X x Y := by
  obtain ⟨v', hv, h⟩ := h
  obtain rfl : v = v' := by simpa using hv
  rcases h with ⟨_, h, _⟩ | ⟨g, cap, us, fq, h0, rfl, h1, h2⟩
  · simp at h
  · obtain ⟨f1, f2, u1, u2, rfl, rfl, i1, i2⟩ := ownAll_append A h2
    obtain ⟨f, g', c, us', rfl, rfl, j1, j2⟩ := i2
    exact ⟨g, cap, f1, f, g', u1, c, us', h0, rfl, h1, i1, j1, j2, hd⟩
theorem Zip.shut {e : TypeId} {A : Lay α} {w : World} {b g cap : Nat} {f1 f2 f3 : List Nat} {u1 c u3 : List Value} {X : List α} {x : α} {Y : List α} (h : Zip e A w b g cap f1 f2 f3 u1 c u3 X x Y) :
    (Lay.rows e A).own w b (g :: (f1 ++ (f2 ++ f3))) [.slice (some ⟨g, 0, none⟩) (X ++ x :: Y).length cap] (X ++ x :: Y) :=
  ⟨_, rfl, .inr ⟨g, cap, _, _, rfl, rfl, h.row, ownAll_join A h.left ⟨f2, f3, c, u3, rfl, rfl, h.mid, h.right⟩⟩⟩
theorem Zip.lt {e : TypeId} {A : Lay α} {w : World} {b g cap : Nat} {f1 f2 f3 : List Nat} {u1 c u3 : List Value} {X : List α} {x : α} {Y : List α} (h : Zip e A w b g cap f1 f2 f3 u1 c u3 X x Y) : b ≤ g ∧ g < w.heap.size := ⟨(ownsRow_block h.row).1, (ownsRow_block h.row).2.1⟩
theorem Zip.cell {e : TypeId} {A : Lay α} {w : World} {b g cap : Nat} {f1 f2 f3 : List Nat} {u1 c u3 : List Value} {X : List α} {x : α} {Y : List α} (h : Zip e A w b g cap f1 f2 f3 u1 c u3 X x Y) (t : Nat) (u : Value) (hu : c[t]? = some u) :
    w.cell? ⟨g, X.length * A.k + t, none⟩ = some u ∧ w.frozen? ⟨g, X.length * A.k + t, none⟩ = false := by
  refine ⟨?_, h.row.frozenAt _⟩
  have h3 := h.row.cells (g := g) rfl (X.length * A.k + t) u (by
    rw [← ownAll_len A h.left, List.getElem?_append_right (by omega), Nat.add_sub_cancel_left, List.getElem?_append_left (List.getElem?_eq_some_iff.1 hu).1]
    exact hu)
  have e1 : (⟨g, 0, none⟩ : Addr).add (X.length * A.k + t) = ⟨g, X.length * A.k + t, none⟩ := by unfold Addr.add; split <;> simp_all
  rw [← e1]
  exact h3
theorem setL_in (A c B : List Value) (t : Nat) (vs : List Value) (ht : t + vs.length ≤ c.length) : setL (A ++ (c ++ B)) (A.length + t) vs = A ++ (setL c t vs ++ B) := by
  induction vs generalizing c t with
  | nil => rfl
  | cons v vs ih =>
    have h1 : t < c.length := by simp at ht; omega
    show setL ((A ++ (c ++ B)).set (A.length + t) v) (A.length + t + 1) vs = A ++ (setL (c.set t v) (t + 1) vs ++ B)
    have e : (A ++ (c ++ B)).set (A.length + t) v = A ++ (c.set t v ++ B) := by
      rw [List.set_append_right _ _ (by omega), Nat.add_sub_cancel_left, List.set_append_left _ _ h1]
    rw [e, Nat.add_assoc]
    exact ih (c.set t v) (t + 1) (by simp at ht ⊢; omega)
/-- Cells of the element are written. -/
theorem Zip.store {e : TypeId} {A : Lay α} {w : World} {b g cap : Nat} {f1 f2 f3 : List Nat} {u1 c u3 : List Value} {X : List α} {x : α} {Y : List α} (h : Zip e A w b g cap f1 f2 f3 u1 c u3 X x Y) (vs : List Value) (t : Nat) (ht : t + vs.length ≤ c.length)
    (f : List Nat) (x' : α) (hx : A.own w b f (setL c t vs) x') (hdup : (g :: (f1 ++ (f ++ f3))).Nodup) :
    Zip e A (setCells w g (X.length * A.k + t) vs) b g cap f1 f f3 u1 (setL c t vs) u3 X x' Y ∧ Chg [g] w (setCells w g (X.length * A.k + t) vs) := by
  have hc : Chg [g] w (setCells w g (X.length * A.k + t) vs) := by
    have h2 := (ownsRow_setCells vs (X.length * A.k + t) h.row).2
    exact Chg.grown h2 [g] (fun k hk => by cases hk; simp)
  have hg : ∀ i, i ∈ f1 ++ (f ++ f3) → i ∉ [g] := fun i hi hig => by
    rw [List.mem_singleton.1 hig] at hi
    exact (List.nodup_cons.1 hdup).1 hi
  have hk : ∀ {i : Nat}, i ∈ f1 ++ (f ++ f3) → i < w.heap.size → (setCells w g (X.length * A.k + t) vs).heap[i]? = w.heap[i]? := fun hi hl => hc.block _ hl (hg _ hi)
  refine ⟨⟨?_, ownAll_keep A h.left (fun i hi => hk (by simp [hi]) (ownAll_blocks A h.left i hi).2), A.keep hx (fun i hi => hk (by simp [hi]) (A.blocks hx i hi).2), ownAll_keep A h.right (fun i hi => hk (by simp [hi]) (ownAll_blocks A h.right i hi).2), hdup⟩, hc⟩
  have h1 := (ownsRow_setCells vs (X.length * A.k + t) h.row).1
  have e1 : setL (u1 ++ (c ++ u3)) (X.length * A.k + t) vs = u1 ++ (setL c t vs ++ u3) := by
    rw [← ownAll_len A h.left]
    exact setL_in u1 c u3 t vs ht
  rw [e1] at h1
  have e2 : (X ++ x' :: Y).length = (X ++ x :: Y).length := by simp
  rw [e2]
  exact h1
/-- What lies behind the element is changed. -/
theorem Zip.sub {e : TypeId} {A : Lay α} {w w' : World} {b g cap : Nat} {f1 f2 f3 : List Nat} {u1 c u3 : List Value} {X : List α} {x : α} {Y : List α} (h : Zip e A w b g cap f1 f2 f3 u1 c u3 X x Y) (x' : α) (hx : A.own w' b f2 c x') (hc : Chg f2 w w') :
    Zip e A w' b g cap f1 f2 f3 u1 c u3 X x' Y := by
  have hd := h.dup
  have hd1 := List.nodup_cons.1 hd
  have hd2 := List.nodup_append.1 hd1.2
  have hd3 := List.nodup_append.1 hd2.2.1
  have hg : g ∉ f2 := fun hi => hd1.1 (by simp [hi])
  refine ⟨?_, ownAll_keep A h.left (fun i hi => hc.block i (ownAll_blocks A h.left i hi).2 (fun e => hd2.2.2 i hi i (by simp [e]) rfl)), hx, ownAll_keep A h.right (fun i hi => hc.block i (ownAll_blocks A h.right i hi).2 (fun e => hd3.2.2 i e i hi rfl)), hd⟩
  have e2 : (X ++ x' :: Y).length = (X ++ x :: Y).length := by simp
  rw [e2]
  exact ownsRow_keep h.row (hc.block g h.lt.2 hg)
theorem made_cells (cs : Array Value) (hk : 0 < cs.size) (n : Nat) : (madeCells cs (n * cs.size)).toList = (List.replicate n cs.toList).flatten := by
  apply List.ext_getElem?
  intro i
  have hlen : (List.replicate n cs.toList).flatten.length = n * cs.size := by simp
  by_cases hi : i < n * cs.size
  · have hj : i / cs.size < n := (Nat.div_lt_iff_lt_mul hk).2 hi
    have ht := Nat.mod_lt i hk
    have h2 : ∀ (n i : Nat), i < n * cs.size → (List.replicate n cs.toList).flatten[i]? = cs[i % cs.size]? := by
      intro n
      induction n with
      | zero => intro i h; simp at h
      | succ n ih =>
        intro i h
        rw [List.replicate_succ, List.flatten_cons]
        by_cases hlt : i < cs.size
        · rw [List.getElem?_append_left (by simpa using hlt), Nat.mod_eq_of_lt hlt, Array.getElem?_toList]
        · rw [List.getElem?_append_right (by simp; omega), Array.length_toList, ih (i - cs.size) (by rw [Nat.add_mul, Nat.one_mul] at h; omega), ← Nat.mod_eq_sub_mod (by omega)]
    rw [h2 n i hi]
    simp [madeCells, hi]
    rw [Array.getElem!_eq_getD, Array.getD_eq_getD_getElem?, Array.getElem?_eq_getElem ht]
    simp
  · have h1 : (madeCells cs (n * cs.size)).toList.length ≤ i := by simp [madeCells]; omega
    rw [List.getElem?_eq_none h1, List.getElem?_eq_none (by omega)]
theorem ownAll_zeros (A : Lay α) {w : World} {b : Nat} {c : List Value} {z : α} (h : A.own w b [] c z) : ∀ n : Nat, ownAll A w b [] (List.replicate n c).flatten (List.replicate n z)
  | 0 => ⟨rfl, rfl⟩
  | n + 1 => ⟨[], [], c, _, rfl, rfl, h, ownAll_zeros A h n⟩
/-- A row as it is made. -/
theorem rows_made {e : TypeId} {A : Lay α} {w : World} {b g n : Nat} {cs : Array Value} {z : α} (h : w.ownsRow b e A.k (.slice (some ⟨g, 0, none⟩) n n) n (madeCells cs (n * A.k)).toList) (hs : cs.size = A.k) (hz : A.own w b [] cs.toList z) :
    (Lay.rows e A).own w b [g] [.slice (some ⟨g, 0, none⟩) n n] (List.replicate n z) := by
  have hk := A.pos
  rw [← hs, made_cells cs (by omega) n] at h
  rw [hs] at h
  refine ⟨_, rfl, .inr ⟨g, n, _, [], by simp, rfl, ?_, ownAll_zeros A hz n⟩⟩
  rw [List.length_replicate]
  exact h
end
theorem info_of {P : Program} {t : TypeId} {n b : Nat} {z : Value} (h : (P.info? t).map (fun i => (i.zero, i.size, i.bytes)) = some (some z, n, b)) : ∃ i : TypeInfo, P.info? t = some i ∧ i.zero = some z ∧ i.size = n ∧ i.bytes = b := by
  cases hi : P.info? t with
  | none => simp [hi] at h
  | some i =>
    simp [hi] at h
    exact ⟨i, rfl, h.1, h.2.1, h.2.2⟩

end Go.Proofs.Ythiicpbedgcmlaa
