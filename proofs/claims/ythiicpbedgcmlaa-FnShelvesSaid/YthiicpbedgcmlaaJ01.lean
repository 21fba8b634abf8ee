/-
  Small laws of no program: a byte put behind an owned row of bytes; an owned row read as a text.
  Memory of which one block alone is written; a cursor over bytes that lies in such a block; no program is spoken of here.
  Rows of records: slices whose elements have several cells; no program is spoken of here.
-/
import Derived.WalkKit
import Derived.Lib.FrozenHead
import Derived.Lib.Hide
import Derived.Laws.IdiomStrings
import Derived.OwnWalk
import Derived.WalkLawsBesides
import Derived.WalkSpells
import Derived.Below
import Derived.WalkSmall
import Derived.Laws.BitsLemmas
namespace Go.Proofs.Ythiicpbedgcmlaa
open Go.RowKit

theorem push_cells (w : World) (e : TypeId) (z : Int) (b : UInt8) (hz : z = b.toNat) :
    ∀ j u, [Value.int .u8 (b.toNat : Int)][j]? = some u → (w.alloc (.cells #[.int .u8 z] e)).cell? ((⟨w.heap.size, 0, none⟩ : Addr).add j) = some u := by
  subst hz
  intro j u hj
  match j, hj with
  | 0, hj => simp at hj; subst hj; simp [Addr.add]

/-- The slice value v is nil or the call's own (from block 'base' on), and holds the bytes xs. -/
def OwnB (w : World) (base : Nat) (e : TypeId) (v : Value) (xs : List UInt8) : Prop := w.ownsRow base e 1 v xs.length (Lib.byteCells xs)

theorem OwnB.nil (w : World) (base : Nat) (e : TypeId) : OwnB w base e (.slice none 0 0) [] := World.ownsRow_nil _ _ _ _
theorem OwnB.lit (w : World) (base : Nat) (e : TypeId) (hb : base ≤ w.heap.size) : OwnB (w.alloc (.cells #[] e)) base e (.slice (some ⟨w.heap.size, 0, none⟩) 0 0) [] :=
  World.ownsRow_lit w #[] 0 hb (by decide) rfl

/-- 'out = append(out, c)': out a row of bytes of the call's own. -/
theorem wpList_push {P : Program} (w : World) {ops : Array Oper} {rest : List Oper} {o : Oper} {a : Act} {Q : Exit → Act → World → Prop} (hgd : o.guard = none) (s x : Operand) (t : TypeId)
    (ho : o.op = .call { callee := .builtin .append, args := #[s, x], argTypes := #[t, t] })
    (base : Nat) (e : TypeId) (i : TypeInfo) (ht : P.underlying t = some (.slice e)) (hi : P.info? e = some i) (hz : i.zero = some (.int .u8 0))
    (hsize : i.size = 1) (hby : i.bytes = 1) (v : Value) (xs : List UInt8) (hs : a.eval s = v) (hown : OwnB w base e v xs)
    (b : UInt8) (z : Int) (hx : a.eval x = .slice (some ⟨w.heap.size, 0, none⟩) 1 1) (hzb : z = b.toNat)
    (hlen : xs.length + 1 ≤ 140737488355328) (hbase : base ≤ w.heap.size)
    (h : ∀ v' w', OwnB w' base e v' (xs ++ [b]) → Below base w w' → wpList P ops Q rest (a.put o.dst v') w') :
    wpList P ops Q (o :: rest) a (w.alloc (.cells #[.int .u8 z] e)) := by
  refine wpList_append_own (w.alloc (.cells #[.int .u8 z] e)) hgd s x t ho base e i (.int .u8 0) 1 1 ht hi hz hsize hby rfl (by decide) v xs.length (Lib.byteCells xs) hs (World.ownsRow.alloc hown _) ⟨w.heap.size, 0, none⟩ 1 1 [.int .u8 (b.toNat : Int)] hx rfl (push_cells w e z b hzb) (by intro u hu; simp at hu; subst hu; rfl) (by unfold maxLen; omega) (by omega) (by simp; omega) ?_
  intro v' w' h1 h2 _
  refine h v' w' ?_ ?_
  · have e1 : (xs ++ [b]).length = xs.length + 1 := by simp
    have e2 : Lib.byteCells (xs ++ [b]) = Lib.byteCells xs ++ [.int .u8 (b.toNat : Int)] := by simp [Lib.byteCells]
    unfold OwnB
    rw [e1, e2]
    exact h1
  · exact ((Below.refl base w).alloc hbase _).grown h2 (by simp; omega) (fun k hk => (World.ownsRow.lt hown k hk).1)

theorem OwnB.alloc {w : World} {base : Nat} {e : TypeId} {v : Value} {xs : List UInt8} (h : OwnB w base e v xs) (o : Obj) : OwnB (w.alloc o) base e v xs := World.ownsRow.alloc h o
theorem OwnB.drew {w : World} {base : Nat} {e : TypeId} {v : Value} {xs : List UInt8} (h : OwnB w base e v xs) : OwnB w.drew base e v xs := World.ownsRow.drew h
theorem OwnB.drewN {w : World} {base : Nat} {e : TypeId} {v : Value} {xs : List UInt8} (h : OwnB w base e v xs) (n : Nat) : OwnB (w.drewN n) base e v xs := h

/-- 'string(out)': out a row of bytes of the call's own, nil or not. -/
theorem run_string_own {P : Program} (w : World) (src dst e : TypeId) (hs : P.underlying src = some (.slice e)) (he : P.underlying e = some (.int .u8)) (hd : P.underlying dst = some .string)
    {base : Nat} {v : Value} (l : List UInt8) (hown0 : OwnB w base e v l) :
    (convert src dst v).run P w = .ok (.string ⟨l.toArray⟩) w := by
  have hown : w.ownsRow base e 1 v l.length (Lib.byteCells l) := hown0
  rcases hown.2 with ⟨rfl, h0⟩ | ⟨g, cap, cur, rfl, _, _, _, _, _, _⟩
  · obtain rfl : l = [] := List.length_eq_zero_iff.1 h0
    rw [run_convert_bytes_string w src dst e none 0 0 hs he hd]
    rfl
  · exact run_convert_bytes_back w src dst e ⟨g, 0, none⟩ cap l hs he hd (fun j hj => hown.cells (g := g) rfl j _ (by simp [Lib.byteCells, hj]))

/-- 'string([]byte{c})'. -/
theorem run_string_one {P : Program} (w : World) (src dst e : TypeId) (hs : P.underlying src = some (.slice e)) (he : P.underlying e = some (.int .u8)) (hd : P.underlying dst = some .string) (b : UInt8) :
    (convert src dst (.slice (some ⟨w.heap.size, 0, none⟩) 1 1)).run P (w.alloc (.cells #[.int .u8 (b.toNat : Int)] e)) = .ok (.string ⟨[b].toArray⟩) (w.alloc (.cells #[.int .u8 (b.toNat : Int)] e)) := by
  refine run_convert_bytes_back (w.alloc (.cells #[.int .u8 (b.toNat : Int)] e)) src dst e ⟨w.heap.size, 0, none⟩ 1 [b] hs he hd ?_
  intro j hj
  exact push_cells w e (b.toNat : Int) b rfl j _ (by simp at hj; subst hj; rfl)

theorem int_eq {k : IntKind} {a b : Int} (h : a = b) : Value.int k a = Value.int k b := by rw [h]

end Go.Proofs.Ythiicpbedgcmlaa
namespace Go.Proofs.Ythiicpbedgcmlaa
open Go.RowKit

/-- What an 'and' with a number that is not below 0 leaves lies in 0 .. that number. -/
theorem and_mask (x : Int) (m : Nat) (hm : m < 2 ^ 63) : 0 ≤ bits .and .i64 x (m : Int) ∧ bits .and .i64 x (m : Int) ≤ (m : Int) := by
  unfold bits
  simp only
  have hb : (BitVec.ofInt IntKind.i64.bits (m : Int)).toNat = m := by
    rw [BitVec.toNat_ofInt]
    show ((m : Int) % ((2 ^ 64 : Nat) : Int)).toNat = m
    omega
  have hle : (BitVec.ofInt IntKind.i64.bits x &&& BitVec.ofInt IntKind.i64.bits (m : Int)).toNat ≤ m := by
    rw [BitVec.toNat_and, hb]
    exact Nat.and_le_right
  generalize (BitVec.ofInt IntKind.i64.bits x &&& BitVec.ofInt IntKind.i64.bits (m : Int)).toNat = k at hle
  have hw : IntKind.i64.wrap (k : Int) = (k : Int) := by rw [IntKind.wrap_i64]; omega
  rw [hw]
  omega

/-- Block c alone may have been written; blocks may have been added. -/
structure Only (c : Nat) (w w' : World) : Prop where
  os : w'.os = w.os
  tape : w'.tape = w.tape
  output : w'.output = w.output
  size : w.heap.size ≤ w'.heap.size
  block : ∀ k, k < w.heap.size → k ≠ c → w'.heap[k]? = w.heap[k]?

theorem Only.refl (c : Nat) (w : World) : Only c w w := ⟨rfl, rfl, rfl, Nat.le_refl _, fun _ _ _ => rfl⟩
theorem Only.trans {c : Nat} {w w1 w2 : World} (h : Only c w w1) (k : Only c w1 w2) : Only c w w2 :=
  ⟨k.os.trans h.os, k.tape.trans h.tape, k.output.trans h.output, Nat.le_trans h.size k.size, fun i hi hc => (k.block i (Nat.lt_of_lt_of_le hi h.size) hc).trans (h.block i hi hc)⟩
theorem Only.of_below {c : Nat} {w w' : World} (h : Below w.heap.size w w') : Only c w w' := ⟨h.os, h.tape, h.output, h.size, fun k hk _ => h.block k hk⟩
theorem Only.below {c B : Nat} {w w' : World} (h : Only c w w') (hB : B ≤ c) (hs : B ≤ w.heap.size) : Below B w w' :=
  ⟨h.os, h.tape, h.output, h.size, fun k hk => h.block k (by omega) (by omega)⟩
theorem Only.cell {c : Nat} {w w' : World} (h : Only c w w') {p : Addr} (hp : p.block < w.heap.size) (hc : p.block ≠ c) : w'.cell? p = w.cell? p := World.cell?_of_block (w := w) (h.block p.block hp hc)
theorem Only.setCell {c : Nat} {w : World} (o : Nat) (v : Value) : Only c w (w.setCell ⟨c, o, none⟩ v) := by
  have h := Below.setCell (B := 0) (Below.refl 0 w) (p := ⟨c, o, none⟩) (Nat.zero_le _) v
  exact ⟨h.os, h.tape, h.output, h.size, fun k _ hc => Below.heap_setCell w _ v k hc⟩
theorem Only.drewN {c : Nat} {w w' : World} (h : Only c w w') (n : Nat) : Only c w (w'.drewN n) := by
  have hb := below_drewN (B := w'.heap.size) (Below.refl _ w') n
  exact h.trans (.of_below hb)

theorem set_off (w : World) (c o q : Nat) (v : Value) (h : o ≠ q) : (w.setCell ⟨c, o, none⟩ v).cell? ⟨c, q, none⟩ = w.cell? ⟨c, q, none⟩ :=
  World.cell?_setCell_other _ _ _ _ (fun e => h (congrArg Addr.off e))
theorem set_on (w : World) (c o : Nat) (u v : Value) (h : w.cell? ⟨c, o, none⟩ = some u) : (w.setCell ⟨c, o, none⟩ v).cell? ⟨c, o, none⟩ = some v :=
  World.cell?_setCell_same _ _ _ h

/-- A cursor in block c over 'len' bytes. -/
structure Cur (c : Nat) (a : Option Addr) (len cap : Nat) (w : World) : Prop where
  few : len ≤ 1048576
  c0 : w.cell? ⟨c, 0, none⟩ = some (.slice a len cap)
  c1 : ∃ i : Nat, i ≤ len ∧ w.cell? ⟨c, 1, none⟩ = some (.int .i64 i)
  c2 : ∃ h : Int, w.cell? ⟨c, 2, none⟩ = some (.int .i64 h)
  f1 : w.frozen? ⟨c, 1, none⟩ = false
  f2 : w.frozen? ⟨c, 2, none⟩ = false
  bytes : ∀ j, j < len → ∃ (b off : Nat) (x : Int), a = some ⟨b, off, none⟩ ∧ b < c ∧ w.cell? ⟨b, off + j, none⟩ = some (.int .u8 x) ∧ 0 ≤ x ∧ x ≤ 255

theorem cell_size {w : World} {p : Addr} {v : Value} (h : w.cell? p = some v) : p.block < w.heap.size := by
  rcases Nat.lt_or_ge p.block w.heap.size with h' | h'
  · exact h'
  · exfalso
    unfold World.cell? at h
    simp [Array.getElem?_eq_none h'] at h

/-- Behind a store into the cursor's two numbers it is one still. -/
theorem Cur.turn {c : Nat} {a : Option Addr} {len cap : Nat} {w w' : World} (h : Cur c a len cap w) (ho : Only c w w') (h0 : w'.cell? ⟨c, 0, none⟩ = some (.slice a len cap))
    (h1 : ∃ i : Nat, i ≤ len ∧ w'.cell? ⟨c, 1, none⟩ = some (.int .i64 i)) (h2 : ∃ h : Int, w'.cell? ⟨c, 2, none⟩ = some (.int .i64 h)) (f1 : w'.frozen? ⟨c, 1, none⟩ = false) (f2 : w'.frozen? ⟨c, 2, none⟩ = false) : Cur c a len cap w' := by
  refine ⟨h.few, h0, h1, h2, f1, f2, fun j hj => ?_⟩
  obtain ⟨b, off, x, ha, hb, hx, x0, x1⟩ := h.bytes j hj
  exact ⟨b, off, x, ha, hb, by rw [ho.cell (cell_size hx) (by show b ≠ c; omega)]; exact hx, x0, x1⟩

/-- What lies in blocks as they were reads as it did. -/
theorem Cur.kept {c : Nat} {a : Option Addr} {len cap : Nat} {B : Nat} {w w' : World} (h : Cur c a len cap w) (hb : Below B w w') (hs : c < B) : Cur c a len cap w' := by
  refine ⟨h.few, by rw [hb.cell (p := ⟨c, 0, none⟩) hs]; exact h.c0, ?_, ?_, by rw [hb.frozen (p := ⟨c, 1, none⟩) hs]; exact h.f1, by rw [hb.frozen (p := ⟨c, 2, none⟩) hs]; exact h.f2, fun j hj => ?_⟩
  · rw [hb.cell (p := ⟨c, 1, none⟩) hs]; exact h.c1
  · rw [hb.cell (p := ⟨c, 2, none⟩) hs]; exact h.c2
  · obtain ⟨b, off, x, ha, hbc, hx, x0, x1⟩ := h.bytes j hj
    exact ⟨b, off, x, ha, hbc, by rw [hb.cell (p := ⟨b, off + j, none⟩) (by show b < B; omega)]; exact hx, x0, x1⟩
theorem Cur.below {c : Nat} {a : Option Addr} {len cap : Nat} {w w' : World} (h : Cur c a len cap w) (hb : Below w.heap.size w w') : Cur c a len cap w' :=
  h.kept hb (cell_size (p := ⟨c, 0, none⟩) h.c0)
theorem Only.behind {c : Nat} {w w1 w2 : World} (h : Only c w w1) (k : Below w.heap.size w1 w2) : Only c w w2 :=
  ⟨k.os.trans h.os, k.tape.trans h.tape, k.output.trans h.output, Nat.le_trans h.size k.size, fun i hi hc => (k.block i hi).trans (h.block i hi hc)⟩

/-- Bytes that can be read, in blocks that are there. -/
structure Src (a : Option Addr) (len : Nat) (w : World) : Prop where
  few : len ≤ 1048576
  bytes : ∀ j, j < len → ∃ (b off : Nat) (x : Int), a = some ⟨b, off, none⟩ ∧ b < w.heap.size ∧ w.cell? ⟨b, off + j, none⟩ = some (.int .u8 x) ∧ 0 ≤ x ∧ x ≤ 255

theorem Src.below {a : Option Addr} {len : Nat} {w w' : World} (h : Src a len w) (hb : Below w.heap.size w w') : Src a len w' := by
  refine ⟨h.few, fun j hj => ?_⟩
  obtain ⟨b, off, x, ha, hs, hx, x0, x1⟩ := h.bytes j hj
  exact ⟨b, off, x, ha, Nat.lt_of_lt_of_le hs hb.size, by rw [hb.cell (p := ⟨b, off + j, none⟩) hs]; exact hx, x0, x1⟩

/-- How a draw of a number ends: it lies in 0 .. hi; the cursor is one still; no other block was written. -/
def DrewInt (hi : Int) (c : Nat) (a : Option Addr) (len cap : Nat) (w : World) (e : Ending) (w' : World) : Prop :=
  ∃ x : Int, 0 ≤ x ∧ x ≤ hi ∧ e = .returned (.int .i64 x) ∧ Cur c a len cap w' ∧ Only c w w'

end Go.Proofs.Ythiicpbedgcmlaa
namespace Go.Proofs.Ythiicpbedgcmlaa
open Go.RowKit

/-- How a record lies in cells. -/
structure Rec (α : Type) where
  k : Nat
  enc : α → List Value
  len : ∀ x, (enc x).length = k
  one : ∀ x, ∀ u ∈ enc x, u.oneCell' = true
  pos : 0 < k

section
variable {α : Type} (R : Rec α)

theorem Rec.flat_length (xs : List α) : (xs.flatMap R.enc).length = xs.length * R.k := by
  induction xs with
  | nil => simp
  | cons x xs ih => rw [List.flatMap_cons, List.length_append, R.len, ih, List.length_cons, Nat.add_mul, Nat.one_mul, Nat.add_comm]
theorem Rec.flat_get (xs : List α) (j t : Nat) (x : α) (hx : xs[j]? = some x) (ht : t < R.k) : (xs.flatMap R.enc)[R.k * j + t]? = (R.enc x)[t]? := by
  induction xs generalizing j with
  | nil => simp at hx
  | cons y ys ih =>
    rw [List.flatMap_cons]
    cases j with
    | zero =>
      simp at hx
      subst hx
      rw [List.getElem?_append_left (by rw [R.len]; omega)]
      simp
    | succ j =>
      have e : R.k * (j + 1) + t = (R.enc y).length + (R.k * j + t) := by rw [R.len, Nat.mul_add, Nat.mul_one]; omega
      rw [e, List.getElem?_append_right (by omega), Nat.add_sub_cancel_left]
      exact ih j (by simpa using hx)

/-- The slice value v is nil or the call's own (from block 'base' on), and holds these records. -/
def OwnR (w : World) (base : Nat) (e : TypeId) (v : Value) (xs : List α) : Prop := w.ownsRow base e R.k v xs.length (xs.flatMap R.enc)
variable {R}

theorem OwnR.nil (w : World) (base : Nat) (e : TypeId) : OwnR R w base e (.slice none 0 0) [] := ⟨by simp, .inl ⟨rfl, rfl⟩⟩
theorem OwnR.lit (w : World) (base : Nat) (e : TypeId) (hb : base ≤ w.heap.size) : OwnR R (w.alloc (.cells #[] e)) base e (.slice (some ⟨w.heap.size, 0, none⟩) 0 0) [] :=
  World.ownsRow_lit w #[] 0 hb (by decide) (by simp)
theorem OwnR.alloc {w : World} {base : Nat} {e : TypeId} {v : Value} {xs : List α} (h : OwnR R w base e v xs) (o : Obj) : OwnR R (w.alloc o) base e v xs := World.ownsRow.alloc h o
theorem OwnR.lower {w : World} {base base' : Nat} {e : TypeId} {v : Value} {xs : List α} (h : OwnR R w base e v xs) (hb : base' ≤ base) : OwnR R w base' e v xs := by
  refine ⟨h.1, ?_⟩
  rcases h.2 with h | ⟨g, cap, cur, h1, h2, h3⟩
  · exact .inl h
  · exact .inr ⟨g, cap, cur, h1, Nat.le_trans hb h2, h3⟩
theorem OwnR.below {w w' : World} {base : Nat} {e : TypeId} {v : Value} {xs : List α} (h : OwnR R w base e v xs) (hb : Below w.heap.size w w') : OwnR R w' base e v xs := by
  refine ⟨h.1, ?_⟩
  rcases h.2 with h | ⟨g, cap, cur, h1, h2, h3, h4⟩
  · exact .inl h
  · exact .inr ⟨g, cap, cur, h1, h2, by rw [hb.block g (lt_of_block h3)]; exact h3, h4⟩
theorem OwnR.only {c : Nat} {w w' : World} {base : Nat} {e : TypeId} {v : Value} {xs : List α} (h : OwnR R w base e v xs) (ho : Only c w w') (hc : c < base) : OwnR R w' base e v xs := by
  refine ⟨h.1, ?_⟩
  rcases h.2 with hn | ⟨g, cap, cur, hv, hb, hg, rest⟩
  · exact .inl hn
  · exact .inr ⟨g, cap, cur, hv, hb, by rw [ho.block g (lt_of_block hg) (by omega)]; exact hg, rest⟩
variable (R) in
/-- A slice that can be read: nil, or its records lie in one block, from its head on. -/
def RowR (w : World) (v : Value) (xs : List α) : Prop := (v = .slice none 0 0 ∧ xs = []) ∨ ∃ g cap, v = .slice (some ⟨g, 0, none⟩) xs.length cap ∧ g < w.heap.size ∧ ∀ j t x, xs[j]? = some x → t < R.k → w.cell? ⟨g, R.k * j + t, none⟩ = (R.enc x)[t]?
theorem OwnR.row {w : World} {base : Nat} {e : TypeId} {v : Value} {xs : List α} (h : OwnR R w base e v xs) : RowR R w v xs := by
  have h' : w.ownsRow base e R.k v xs.length (xs.flatMap R.enc) := h
  rcases h'.2 with ⟨rfl, h0⟩ | ⟨g, cap, cur, rfl, hb, hh, _, _, _, _⟩
  · exact .inl ⟨rfl, List.length_eq_zero_iff.1 h0⟩
  · refine .inr ⟨g, cap, rfl, lt_of_block hh, fun j t x hx ht => ?_⟩
    have hj : j < xs.length := (List.getElem?_eq_some_iff.1 hx).1
    have hlt : R.k * j + t < xs.length * R.k := by
      have h1 : R.k * j + R.k ≤ R.k * xs.length := by rw [← Nat.mul_succ]; exact Nat.mul_le_mul_left _ hj
      rw [Nat.mul_comm xs.length]
      omega
    rw [h'.cellAt _ hlt]
    exact R.flat_get xs j t x hx ht
theorem RowR.below {w w' : World} {v : Value} {xs : List α} (h : RowR R w v xs) (hb : Below w.heap.size w w') : RowR R w' v xs := by
  rcases h with h | ⟨g, cap, hv, h3, h4⟩
  · exact .inl h
  · exact .inr ⟨g, cap, hv, Nat.lt_of_lt_of_le h3 hb.size, fun j t x hx ht => by rw [hb.cell (p := ⟨g, R.k * j + t, none⟩) h3]; exact h4 j t x hx ht⟩
end
end Go.Proofs.Ythiicpbedgcmlaa
