/-
  Rows of flat data of the call's own: appended to, copied, written into; no program is spoken of here.
  Small laws of no program: rows of texts that the call itself made.
  The given mark of a number, as a text.
  An element of a row taken out, where only new blocks are made; marks that are texts; measured rows.
  Rows of texts as they lie; the laws' own functions over them.
  Rows of bools of the call's own; no program is spoken of here.
  The test package's functions over rows of bools: held against each other, marked, found marked.
  A row of bools laid anew.
  Rows of bools beside rows of structs: marked and measured by the same words.
-/
import Derived.Test.YthiicpbedgcmlaaJ03
import Derived.Laws.AppendOwnNone
import Derived.Test.YthiicpbedgcmlaaJ01
import Derived.Test.YthiicpbedgcmlaaRows
import Derived.Test.YthiicpbedgcmlaaJ02
import Derived.BigQuiet
import Derived.Deep.QuietTactic
import Derived.Deep.RegionHeld3
import Derived.Deep.DeepCutAuto
namespace Go.Proofs.Ythiicpbedgcmlaa
open Go.RowKit

section
variable {α : Type}

/-- Data without rows within. -/
structure Flat (A : Lay α) : Prop where
  own : ∀ (w : World) (b : Nat) (c : List Value) (x : α), A.rd w c x → A.own w b [] c x
  none : ∀ (w : World) (b : Nat) (f : List Nat) (c : List Value) (x : α), A.own w b f c x → f = []
  any : ∀ (w w' : World) (c : List Value) (x : α), A.rd w c x → A.rd w' c x
theorem Flat.all {A : Lay α} (hf : Flat A) {w w' : World} : ∀ {us : List Value} {xs : List α}, rdAll A w us xs → rdAll A w' us xs
  | _, [], h => h
  | _, _ :: _, h => by
    obtain ⟨c, us', rfl, h1, h2⟩ := h
    exact ⟨c, us', rfl, hf.any _ _ _ _ h1, hf.all h2⟩
theorem Flat.ownAll {A : Lay α} (hf : Flat A) {w : World} {b : Nat} : ∀ {us : List Value} {xs : List α}, rdAll A w us xs → ownAll A w b [] us xs
  | _, [], h => ⟨rfl, h⟩
  | _, _ :: _, h => by
    obtain ⟨c, us', rfl, h1, h2⟩ := h
    exact ⟨[], [], c, us', rfl, rfl, hf.own _ _ _ _ h1, hf.ownAll h2⟩
theorem Flat.noAll {A : Lay α} (hf : Flat A) {w : World} {b : Nat} : ∀ {f : List Nat} {us : List Value} {xs : List α}, Go.Proofs.Ythiicpbedgcmlaa.ownAll A w b f us xs → f = []
  | _, _, [], h => h.1
  | _, _, _ :: _, h => by
    obtain ⟨f, g, c, us', rfl, rfl, h1, h2⟩ := h
    rw [hf.none _ _ _ _ _ h1, hf.noAll h2]
    rfl
theorem rdAll_join (A : Lay α) {w : World} : ∀ {u1 u2 : List Value} {X Y : List α}, rdAll A w u1 X → rdAll A w u2 Y → rdAll A w (u1 ++ u2) (X ++ Y)
  | u1, u2, [], Y, h, h2 => by rw [show u1 = [] from h]; exact h2
  | u1, u2, x :: X, Y, h, h2 => by
    obtain ⟨c, us', rfl, i1, i2⟩ := h
    exact ⟨c, us' ++ u2, by rw [List.append_assoc], i1, rdAll_join A i2 h2⟩
/-- The blocks of a flat row. -/
def blk (v : Value) : List Nat := v.ownBlock.toList
theorem blk_dup (v : Value) : (blk v).Nodup := by unfold blk; cases v.ownBlock <;> simp
theorem flat_own {e : TypeId} {A : Lay α} (hf : Flat A) {w : World} {b : Nat} {v : Value} {us : List Value} {xs : List α} (h : w.ownsRow b e A.k v xs.length us) (hr : rdAll A w us xs) : (Lay.rows e A).own w b (blk v) [v] xs := by
  refine ⟨v, rfl, ?_⟩
  rcases h.2 with ⟨rfl, h0⟩ | ⟨g, cap, cur, rfl, _⟩
  · exact .inl ⟨rfl, List.length_eq_zero_iff.1 h0, rfl⟩
  · exact .inr ⟨g, cap, us, [], rfl, rfl, h, hf.ownAll hr⟩
theorem flat_inv {e : TypeId} {A : Lay α} (hf : Flat A) {w : World} {b : Nat} {f : List Nat} {v : Value} {xs : List α} (h : (Lay.rows e A).own w b f [v] xs) : ∃ us, w.ownsRow b e A.k v xs.length us ∧ rdAll A w us xs ∧ f = blk v := by
  obtain ⟨v', hv, h⟩ := h
  obtain rfl : v = v' := by simpa using hv
  rcases h with ⟨rfl, rfl, rfl⟩ | ⟨g, cap, us, fq, rfl, rfl, h1, h2⟩
  · exact ⟨[], ⟨by simp, .inl ⟨rfl, rfl⟩⟩, rfl, rfl⟩
  · refine ⟨us, h1, ownAll_rd A h2, ?_⟩
    rw [hf.noAll h2]
    rfl
theorem flat_some {e : TypeId} {A : Lay α} (hf : Flat A) {w : World} {b : Nat} {f : List Nat} {v : Value} {xs : List α} (h : (Lay.rows e A).own w b f [v] xs) (hv : v ≠ .slice none 0 0) : ∃ g cap, v = .slice (some ⟨g, 0, none⟩) xs.length cap ∧ f = [g] ∧ b ≤ g ∧ g < w.heap.size := by
  obtain ⟨us, h1, _, rfl⟩ := flat_inv hf h
  rcases h1.2 with ⟨h, _⟩ | ⟨g, cap, cur, rfl, hb, hh, _⟩
  · exact absurd h hv
  · exact ⟨g, cap, rfl, rfl, hb, lt_of_block hh⟩
/-- A fresh empty row. -/
theorem flat_lit {e : TypeId} {A : Lay α} (w : World) (b : Nat) (hb : b ≤ w.heap.size) : (Lay.rows e A).own (w.alloc (.cells #[] e)) b [w.heap.size] [.slice (some ⟨w.heap.size, 0, none⟩) 0 0] [] :=
  ⟨_, rfl, .inr ⟨w.heap.size, 0, [], [], rfl, rfl, World.ownsRow_lit w #[] 0 hb (by decide) (by simp), rfl, rfl⟩⟩

/-- 'append(out, list...)': out a flat row of the call's own, list one that can be read. -/
theorem wpList_copyF {P : Program} (w : World) {ops : Array Oper} {rest : List Oper} {o : Oper} {a : Act} {Q : Exit → Act → World → Prop} (hgd : o.guard = none) (s x : Operand) (t : TypeId)
    (ho : o.op = .call { callee := .builtin .append, args := #[s, x], argTypes := #[t, t] })
    (base : Nat) (e : TypeId) (i : TypeInfo) (z : Value) (bytes : Nat) (A : Lay α) (hf : Flat A) (ht : P.underlying t = some (.slice e)) (hi : P.info? e = some i) (hz : i.zero = some z)
    (hsize : i.size = A.k) (hby : i.bytes = bytes) (hzs : z.cells.size = A.k) (hb1 : bytes ≤ 1000) (v : Value) (f : List Nat) (xs : List α) (hs : a.eval s = v) (hown : (Lay.rows e A).own w base f [v] xs) (hv0 : v ≠ .slice none 0 0)
    (u : Value) (ys : List α) (hx : a.eval x = u) (hys : (Lay.rows e A).rd w [u] ys)
    (hlen : xs.length + ys.length ≤ 1000000000) (hbase : base ≤ w.heap.size)
    (h : ∀ v' w', (Lay.rows e A).own w' base (blk v') [v'] (xs ++ ys) → v' ≠ .slice none 0 0 → w.grownBy w' v.ownBlock → Below base w w' → wpList P ops Q rest (a.put o.dst v') w') :
    wpList P ops Q (o :: rest) a w := by
  obtain ⟨us, h1, h2, rfl⟩ := flat_inv hf hown
  obtain ⟨u', hu, hys⟩ := hys
  obtain rfl : u = u' := by simpa using hu
  have hlt : ∀ k, v.ownBlock = some k → base ≤ k := fun k hk => (World.ownsRow.lt h1 k hk).1
  rcases hys with ⟨rfl, a', cap, rfl, hcap⟩ | ⟨g, off, cap, vs, rfl, _, hg, hc, hr⟩
  · cases a' with
    | none =>
      rw [hcap rfl] at hx
      refine wpList_append_own_none hgd s x t ho base e i A.k ht hi v xs.length us hs h1 hx ?_
      rw [List.append_nil] at h
      exact h v w (flat_own hf h1 h2) hv0 (World.grownBy.refl _ _) (Below.refl _ _)
    | some ad =>
      refine wpList_append_own w hgd s x t ho base e i z A.k bytes ht hi hz hsize hby hzs A.pos v xs.length us hs h1 ad 0 cap [] hx (by simp) (by simp) (by simp) (by unfold maxLen; simp at hlen; omega) (by have h1 : xs.length * bytes ≤ 1000000000 * 1000 := Nat.mul_le_mul (by simp at hlen; omega) hb1; simp; omega) hbase ?_
      intro v' w' h3 h4 h5
      refine h v' w' ?_ (fun e => hv0 (h5.1 e).1) h4 (below_grown h4 hlt hbase)
      rw [List.append_nil] at h3 ⊢
      exact flat_own hf h3 (hf.all h2)
  · refine wpList_append_own w hgd s x t ho base e i z A.k bytes ht hi hz hsize hby hzs A.pos v xs.length us hs h1 ⟨g, off, none⟩ ys.length cap vs hx (rdAll_len A hr) ?_ (rdAll_one A hr) (by unfold maxLen; omega) (by have h1 : (xs.length + ys.length) * bytes ≤ 1000000000 * 1000 := Nat.mul_le_mul hlen hb1; omega) hbase ?_
    · intro j q hj
      have e1 : (⟨g, off, none⟩ : Addr).add j = ⟨g, off + j, none⟩ := by unfold Addr.add; split <;> simp_all
      rw [e1]
      exact hc j q hj
    · intro v' w' h3 h4 h5
      refine h v' w' ?_ (fun e => hv0 (h5.1 e).1) h4 (below_grown h4 hlt hbase)
      have h6 : w'.ownsRow base e A.k v' (xs ++ ys).length (us ++ vs) := by rw [List.length_append]; exact h3
      exact flat_own hf h6 (rdAll_join A (hf.all h2) (hf.all hr))

/-- 'out = append(out, x)': out a flat row of the call's own. -/
theorem wpList_pushF {P : Program} (w : World) {ops : Array Oper} {rest : List Oper} {o : Oper} {a : Act} {Q : Exit → Act → World → Prop} (hgd : o.guard = none) (s x : Operand) (t : TypeId)
    (ho : o.op = .call { callee := .builtin .append, args := #[s, x], argTypes := #[t, t] })
    (base : Nat) (e : TypeId) (i : TypeInfo) (z : Value) (bytes : Nat) (A : Lay α) (hf : Flat A) (ht : P.underlying t = some (.slice e)) (hi : P.info? e = some i) (hz : i.zero = some z)
    (hsize : i.size = A.k) (hby : i.bytes = bytes) (hzs : z.cells.size = A.k) (hb1 : bytes ≤ 1000) (v : Value) (f : List Nat) (xs : List α) (hs : a.eval s = v) (hown : (Lay.rows e A).own w base f [v] xs)
    (y : α) (cs : Array Value) (hcs : A.rd w cs.toList y) (hx : a.eval x = .slice (some ⟨w.heap.size, 0, none⟩) 1 1)
    (hlen : xs.length + 1 ≤ 1000000000) (hbase : base ≤ w.heap.size)
    (h : ∀ v' w', (Lay.rows e A).own w' base (blk v') [v'] (xs ++ [y]) → v' ≠ .slice none 0 0 → w.grownBy w' v.ownBlock → Below base w w' → wpList P ops Q rest (a.put o.dst v') w') :
    wpList P ops Q (o :: rest) a (w.alloc (.cells cs e)) := by
  obtain ⟨us, h1, h2, rfl⟩ := flat_inv hf hown
  have hlt : ∀ k, v.ownBlock = some k → base ≤ k := fun k hk => (World.ownsRow.lt h1 k hk).1
  refine wpList_append_own (w.alloc (.cells cs e)) hgd s x t ho base e i z A.k bytes ht hi hz hsize hby hzs A.pos v xs.length us hs (World.ownsRow.alloc h1 _) ⟨w.heap.size, 0, none⟩ 1 1 cs.toList hx (by rw [A.len hcs, Nat.one_mul]) ?_ (A.one hcs) (by unfold maxLen; omega) ?_ (by simp; omega) ?_
  · intro j u hj
    have e1 : (⟨w.heap.size, 0, none⟩ : Addr).add j = ⟨w.heap.size, j, none⟩ := by unfold Addr.add; split <;> simp_all
    rw [e1, cell_of_row (w.alloc (.cells cs e)) w.heap.size j cs e (0, 0) (heap_alloc_new w _)]
    simpa using hj
  · have h1 : (xs.length + 1) * bytes ≤ 1000000000 * 1000 := Nat.mul_le_mul hlen hb1
    omega
  · intro v' w' h3 h4 h5
    have hg : w.grownBy w' v.ownBlock := grown_trans (World.grownBy_alloc w _ _) h4
    refine h v' w' ?_ (fun e => by have := (h5.1 e).2; omega) hg (below_grown hg hlt hbase)
    have h6 : w'.ownsRow base e A.k v' (xs ++ [y]).length (us ++ cs.toList) := by rw [List.length_append]; exact h3
    exact flat_own hf h6 (rdAll_join A (hf.all h2) ⟨cs.toList, [], by simp, hf.any _ _ _ _ hcs, rfl⟩)
end
end Go.Proofs.Ythiicpbedgcmlaa
namespace Go.Proofs.Ythiicpbedgcmlaa
open Go.RowKit

def strs (ls : List (List UInt8)) : List Value := ls.map fun l => Value.string ⟨l.toArray⟩

/-- The slice value v is nil or the call's own (from block 'base' on), and holds these texts. -/
def OwnS (w : World) (base : Nat) (e : TypeId) (v : Value) (ls : List (List UInt8)) : Prop := w.ownsRow base e 1 v ls.length (strs ls)

theorem OwnS.nil (w : World) (base : Nat) (e : TypeId) : OwnS w base e (.slice none 0 0) [] := World.ownsRow_nil _ _ _ _
theorem OwnS.lit (w : World) (base : Nat) (e : TypeId) (hb : base ≤ w.heap.size) : OwnS (w.alloc (.cells #[] e)) base e (.slice (some ⟨w.heap.size, 0, none⟩) 0 0) [] :=
  World.ownsRow_lit w #[] 0 hb (by decide) rfl
theorem OwnS.alloc {w : World} {base : Nat} {e : TypeId} {v : Value} {ls : List (List UInt8)} (h : OwnS w base e v ls) (o : Obj) : OwnS (w.alloc o) base e v ls := World.ownsRow.alloc h o
theorem OwnS.drewN {w : World} {base : Nat} {e : TypeId} {v : Value} {ls : List (List UInt8)} (h : OwnS w base e v ls) (n : Nat) : OwnS (w.drewN n) base e v ls := h
theorem OwnS.lower {w : World} {base base' : Nat} {e : TypeId} {v : Value} {ls : List (List UInt8)} (h : OwnS w base e v ls) (hb : base' ≤ base) : OwnS w base' e v ls := by
  refine ⟨h.1, ?_⟩
  rcases h.2 with h | ⟨g, cap, cur, h1, h2, h3⟩
  · exact .inl h
  · exact .inr ⟨g, cap, cur, h1, by omega, h3⟩

theorem OwnS.below {w w' : World} {base : Nat} {e : TypeId} {v : Value} {ls : List (List UInt8)} (h : OwnS w base e v ls) (hb : Below w.heap.size w w') : OwnS w' base e v ls := by
  refine ⟨h.1, ?_⟩
  rcases h.2 with h | ⟨g, cap, cur, h1, h2, h3, h4⟩
  · exact .inl h
  · exact .inr ⟨g, cap, cur, h1, h2, by rw [hb.block g (lt_of_block h3)]; exact h3, h4⟩

/-- One text of the row is written over. -/
theorem OwnS.stored {w : World} {base : Nat} {e : TypeId} {g n cap : Nat} {ls : List (List UInt8)} (hn : n = ls.length) (h : OwnS w base e (.slice (some ⟨g, 0, none⟩) n cap) ls) (j : Nat) (t : List UInt8) :
    OwnS (w.setCell ⟨g, j, none⟩ (.string ⟨t.toArray⟩)) base e (.slice (some ⟨g, 0, none⟩) n cap) (ls.set j t) := by
  subst hn
  have h' : w.ownsRow base e 1 (.slice (some ⟨g, 0, none⟩) ls.length cap) ls.length (strs ls) := h
  have h2 := (h'.stored j (.string ⟨t.toArray⟩)).1
  unfold OwnS
  have e1 : strs (ls.set j t) = (strs ls).set j (.string ⟨t.toArray⟩) := by simp [strs]
  rw [e1, List.length_set]
  exact h2

end Go.Proofs.Ythiicpbedgcmlaa
namespace Go.Proofs.Ythiicpbedgcmlaa
open Go.RowKit

/-- The mark of a number. -/
def mark (k : Nat) : List UInt8 := 109 :: digs k

end Go.Proofs.Ythiicpbedgcmlaa
namespace Go.Proofs.Ythiicpbedgcmlaa
open Go.RowKit

theorem Zip.next {α : Type} {e : TypeId} {A : Lay α} {w w' : World} {b g cap : Nat} {f1 f2 f3 : List Nat} {u1 c u3 : List Value} {X : List α} {x : α} {Y : List α} (h : Zip e A w b g cap f1 f2 f3 u1 c u3 X x Y) (hb : Below w.heap.size w w') : Zip e A w' b g cap f1 f2 f3 u1 c u3 X x Y :=
  ⟨ownsRow_keep h.row (hb.block g h.lt.2), ownAll_keep A h.left (fun i hi => hb.block i (ownAll_blocks A h.left i hi).2), A.next h.mid hb, ownAll_keep A h.right (fun i hi => hb.block i (ownAll_blocks A h.right i hi).2), h.dup⟩
end Go.Proofs.Ythiicpbedgcmlaa
namespace Go.Proofs.Ythiicpbedgcmlaa
open Go.RowKit

abbrev StringD := ByteArray
abbrev StringT : TypeId := 9
def layString : Lay ByteArray := Lay.str
def layStringS : Lay (List ByteArray) := .rows StringT layString
theorem layString_rd {w : World} {cs : List Value} {x : ByteArray} : layString.rd w cs x ↔ cs = [.string x] := Iff.rfl
theorem layString_own {w : World} {b : Nat} {f : List Nat} {cs : List Value} {x : ByteArray} : layString.own w b f cs x ↔ f = [] ∧ cs = [.string x] := Iff.rfl
theorem flatString : Flat layString := ⟨fun _ _ _ _ h => layString_own.2 ⟨rfl, layString_rd.1 h⟩, fun _ _ _ _ _ h => (layString_own.1 h).1, fun _ _ _ _ h => layString_rd.2 (layString_rd.1 h)⟩
theorem infoString : (Try.prog.info? 9).map (fun i => (i.zero, i.size, i.bytes)) = some (some (.string ⟨#[]⟩), 1, 16) := by kernel_rfl
/-- Rows that are measured. -/
def FitsString (xs : List StringD) : Prop := xs.length ≤ 1048576 ∧ ∀ x ∈ xs, (x).size ≤ 1048576
end Go.Proofs.Ythiicpbedgcmlaa
namespace Go.Proofs.Ythiicpbedgcmlaa
open Go.RowKit

def layBoolS : Lay (List Bool) := .rows 4 .bool
theorem bool_own {w : World} {b : Nat} {f : List Nat} {cs : List Value} {x : Bool} : Lay.bool.own w b f cs x ↔ f = [] ∧ cs = [.bool x] := Iff.rfl
theorem bool_rd {w : World} {cs : List Value} {x : Bool} : Lay.bool.rd w cs x ↔ cs = [.bool x] := Iff.rfl
theorem infoBool : (Try.prog.info? 4).map (fun i => (i.zero, i.size, i.bytes)) = some (some (.bool false), 1, 1) := by kernel_rfl
/-- One bool of a row that can be read. -/
theorem bools_get {w : World} {v : Value} {xs : List Bool} (h : layBoolS.rd w [v] xs) (m : Nat) (hm : m < xs.length) : ∃ g off cap, v = .slice (some ⟨g, off, none⟩) xs.length cap ∧ g < w.heap.size ∧ w.cell? ⟨g, off + m, none⟩ = some (.bool xs[m]) := by
  obtain ⟨a, cap, rfl⟩ := rows_form h
  obtain ⟨g, off, c, rfl, hg, hr, hc⟩ := rows_elem h m _ (List.getElem?_eq_getElem hm)
  rw [bool_rd] at hr
  subst hr
  refine ⟨g, off, cap, rfl, hg, ?_⟩
  have := hc 0 _ rfl
  rw [show Lay.bool.k = 1 from rfl, Nat.mul_one] at this
  exact this
/-- One bool of a row is read and written. -/
theorem bools_put {w : World} {b : Nat} {fp : List Nat} {v : Value} {xs : List Bool} (h : layBoolS.own w b fp [v] xs) (hd : fp.Nodup) (m : Nat) (hm : m < xs.length) (y : Bool) :
    ∃ g cap, v = .slice (some ⟨g, 0, none⟩) xs.length cap ∧ b ≤ g ∧ g < w.heap.size ∧ g ∈ fp ∧ w.cell? ⟨g, m, none⟩ = some (.bool xs[m]) ∧ w.frozen? ⟨g, m, none⟩ = false ∧
      layBoolS.own (w.setCell ⟨g, m, none⟩ (.bool y)) b fp [v] (xs.set m y) ∧ Chg fp w (w.setCell ⟨g, m, none⟩ (.bool y)) := by
  have e : xs = xs.take m ++ xs[m] :: xs.drop (m + 1) := by rw [List.getElem_cons_drop, List.take_append_drop]
  have es : xs.set m y = xs.take m ++ y :: xs.drop (m + 1) := by rw [List.set_eq_take_append_cons_drop, if_pos hm]
  have hl : (xs.take m ++ xs[m] :: xs.drop (m + 1)).length = xs.length := by rw [← e]
  have h2 := h
  rw [e] at h2
  obtain ⟨g, cap, f1, f2, f3, u1, c, u3, hv, rfl, Z⟩ := rows_open h2 hd
  rw [hl] at hv
  obtain ⟨rfl, rfl⟩ := bool_own.1 Z.mid
  have hml : (xs.take m).length = m := by rw [List.length_take]; omega
  have hc := Z.cell 0 _ rfl
  rw [show Lay.bool.k = 1 from rfl, Nat.mul_one, hml] at hc
  have hs := Z.store [.bool y] 0 (by simp) [] y (bool_own.2 ⟨rfl, rfl⟩) Z.dup
  rw [show Lay.bool.k = 1 from rfl, Nat.mul_one, hml] at hs
  refine ⟨g, cap, hv, Z.lt.1, Z.lt.2, by simp, hc.1, hc.2, ?_, hs.2.sub (by simp)⟩
  have h3 := hs.1.shut
  have e4 : (xs.take m ++ y :: xs.drop (m + 1)).length = xs.length := by rw [← es, List.length_set]
  rw [e4] at h3
  rw [es, hv]
  exact h3

end Go.Proofs.Ythiicpbedgcmlaa
namespace Go.Proofs.Ythiicpbedgcmlaa
open Go.RowKit

end Go.Proofs.Ythiicpbedgcmlaa
namespace Go.Proofs.Ythiicpbedgcmlaa
open Go.RowKit

end Go.Proofs.Ythiicpbedgcmlaa
namespace Go.Proofs.Ythiicpbedgcmlaa
open Go.RowKit

def FitsBool (xs : List Bool) : Prop := xs.length ≤ 1048576
end Go.Proofs.Ythiicpbedgcmlaa
