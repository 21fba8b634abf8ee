/-
  Rows of flat data of the call's own: appended to, copied, written into; no program is spoken of here.
  Rows of ints of the call's own; no program is spoken of here.
  The test package's functions over rows of ints: held against each other, marked, found marked.
  A row of ints laid anew.
  How much a row of ints measures, by the laws' own function.
  Small laws of no program: rows of texts that the call itself made.
  The given mark of a number, as a text.
  An element of a row taken out, where only new blocks are made; marks that are texts; measured rows.
  Rows of ints beside rows of structs: marked and measured by the same words.
  Slot as it lies; the laws' own functions over it and over rows of it.
  Rows and variables of different types lie apart; no program is spoken of here.
  Two slots in one struct as they lie; the laws' own functions over it.
-/
import Derived.Test.YtoaifgblbfdncaaGreatDoorJ03
import Derived.Laws.AppendOwnNone
import Derived.Test.YtoaifgblbfdncaaGreatDoorRows
import Derived.BigQuiet
import Derived.Deep.QuietTactic
import Derived.Test.YtoaifgblbfdncaaGreatDoorJ01
import Derived.Test.YtoaifgblbfdncaaGreatDoorJ02
import Derived.Deep.RegionHeld3
import Derived.Deep.DeepCutAuto
namespace Go.Proofs.YtoaifgblbfdncaaGreatDoor
open Go.RowKit

section
variable {α : Type}

/-- Data without rows within. -/
structure Flat (A : Lay α) : Prop where
  own : ∀ (w : World) (b : Nat) (c : List Value) (x : α), A.rd w c x → A.own w b [] c x
  none : ∀ (w : World) (b : Nat) (f : List Nat) (c : List Value) (x : α), A.own w b f c x → f = []
  any : ∀ (w w' : World) (c : List Value) (x : α), A.rd w c x → A.rd w' c x
theorem Flat.all {A : Lay α} (hf : Flat A) {w w' : World} : ∀ {us : List Value} {xs : List α}, rdAll A w us xs → rdAll A w' us xs
  | _, [], h => h
  | _, _ :: _, h => by
    obtain ⟨c, us', rfl, h1, h2⟩ := h
    exact ⟨c, us', rfl, hf.any _ _ _ _ h1, hf.all h2⟩
theorem Flat.ownAll {A : Lay α} (hf : Flat A) {w : World} {b : Nat} : ∀ {us : List Value} {xs : List α}, rdAll A w us xs → ownAll A w b [] us xs
  | _, [], h => ⟨rfl, h⟩
  | _, _ :: _, h => by
    obtain ⟨c, us', rfl, h1, h2⟩ := h
    exact ⟨[], [], c, us', rfl, rfl, hf.own _ _ _ _ h1, hf.ownAll h2⟩
theorem Flat.noAll {A : Lay α} (hf : Flat A) {w : World} {b : Nat} : ∀ {f : List Nat} {us : List Value} {xs : List α}, Go.Proofs.YtoaifgblbfdncaaGreatDoor.ownAll A w b f us xs → f = []
  | _, _, [], h => h.1
  | _, _, _ :: _, h => by
    obtain ⟨f, g, c, us', rfl, rfl, h1, h2⟩ := h
    rw [hf.none _ _ _ _ _ h1, hf.noAll h2]
    rfl
theorem rdAll_join (A : Lay α) {w : World} : ∀ {u1 u2 : List Value} {X Y : List α}, rdAll A w u1 X → rdAll A w u2 Y → rdAll A w (u1 ++ u2) (X ++ Y)
  | u1, u2, [], Y, h, h2 => by rw [show u1 = [] from h]; exact h2
  | u1, u2, x :: X, Y, h, h2 => by
    obtain ⟨c, us', rfl, i1, i2⟩ := h
    exact ⟨c, us' ++ u2, by rw [List.append_assoc], i1, rdAll_join A i2 h2⟩
/-- The blocks of a flat row. -/
def blk (v : Value) : List Nat := v.ownBlock.toList
theorem blk_dup (v : Value) : (blk v).Nodup := by unfold blk; cases v.ownBlock <;> simp
theorem flat_own {e : TypeId} {A : Lay α} (hf : Flat A) {w : World} {b : Nat} {v : Value} {us : List Value} {xs : List α} (h : w.ownsRow b e A.k v xs.length us) (hr : rdAll A w us xs) : (Lay.rows e A).own w b (blk v) [v] xs := by
  refine ⟨v, rfl, ?_⟩
  rcases h.2 with ⟨rfl, h0⟩ | ⟨g, cap, cur, rfl, _⟩
  · exact .inl ⟨rfl, List.length_eq_zero_iff.1 h0, rfl⟩
  · exact .inr ⟨g, cap, us, [], rfl, rfl, h, hf.ownAll hr⟩
theorem flat_inv {e : TypeId} {A : Lay α} (hf : Flat A) {w : World} {b : Nat} {f : List Nat} {v : Value} {xs : List α} (h : (Lay.rows e A).own w b f [v] xs) : ∃ us, w.ownsRow b e A.k v xs.length us ∧ rdAll A w us xs ∧ f = blk v := by
  obtain ⟨v', hv, h⟩ := h
  obtain rfl : v = v' := by simpa using hv
  rcases h with ⟨rfl, rfl, rfl⟩ | ⟨g, cap, us, fq, rfl, rfl, h1, h2⟩
  · exact ⟨[], ⟨by simp, .inl ⟨rfl, rfl⟩⟩, rfl, rfl⟩
  · refine ⟨us, h1, ownAll_rd A h2, ?_⟩
    rw [hf.noAll h2]
    rfl
theorem flat_some {e : TypeId} {A : Lay α} (hf : Flat A) {w : World} {b : Nat} {f : List Nat} {v : Value} {xs : List α} (h : (Lay.rows e A).own w b f [v] xs) (hv : v ≠ .slice none 0 0) : ∃ g cap, v = .slice (some ⟨g, 0, none⟩) xs.length cap ∧ f = [g] ∧ b ≤ g ∧ g < w.heap.size := by
  obtain ⟨us, h1, _, rfl⟩ := flat_inv hf h
  rcases h1.2 with ⟨h, _⟩ | ⟨g, cap, cur, rfl, hb, hh, _⟩
  · exact absurd h hv
  · exact ⟨g, cap, rfl, rfl, hb, lt_of_block hh⟩
/-- A fresh empty row. -/
theorem flat_lit {e : TypeId} {A : Lay α} (w : World) (b : Nat) (hb : b ≤ w.heap.size) : (Lay.rows e A).own (w.alloc (.cells #[] e)) b [w.heap.size] [.slice (some ⟨w.heap.size, 0, none⟩) 0 0] [] :=
  ⟨_, rfl, .inr ⟨w.heap.size, 0, [], [], rfl, rfl, World.ownsRow_lit w #[] 0 hb (by decide) (by simp), rfl, rfl⟩⟩

/-- 'append(out, list...)': out a flat row of the call's own, list one that can be read. -/
theorem wpList_copyF {P : Program} (w : World) {ops : Array Oper} {rest : List Oper} {o : Oper} {a : Act} {Q : Exit → Act → World → Prop} (hgd : o.guard = none) (s x : Operand) (t : TypeId)
    (ho : o.op = .call { callee := .builtin .append, args := #[s, x], argTypes := #[t, t] })
    (base : Nat) (e : TypeId) (i : TypeInfo) (z : Value) (bytes : Nat) (A : Lay α) (hf : Flat A) (ht : P.underlying t = some (.slice e)) (hi : P.info? e = some i) (hz : i.zero = some z)
    (hsize : i.size = A.k) (hby : i.bytes = bytes) (hzs : z.cells.size = A.k) (hb1 : bytes ≤ 1000) (v : Value) (f : List Nat) (xs : List α) (hs : a.eval s = v) (hown : (Lay.rows e A).own w base f [v] xs) (hv0 : v ≠ .slice none 0 0)
    (u : Value) (ys : List α) (hx : a.eval x = u) (hys : (Lay.rows e A).rd w [u] ys)
    (hlen : xs.length + ys.length ≤ 1000000000) (hbase : base ≤ w.heap.size)
    (h : ∀ v' w', (Lay.rows e A).own w' base (blk v') [v'] (xs ++ ys) → v' ≠ .slice none 0 0 → w.grownBy w' v.ownBlock → Below base w w' → wpList P ops Q rest (a.put o.dst v') w') :
    wpList P ops Q (o :: rest) a w := by
  obtain ⟨us, h1, h2, rfl⟩ := flat_inv hf hown
  obtain ⟨u', hu, hys⟩ := hys
  obtain rfl : u = u' := by simpa using hu
  have hlt : ∀ k, v.ownBlock = some k → base ≤ k := fun k hk => (World.ownsRow.lt h1 k hk).1
  rcases hys with ⟨rfl, a', cap, rfl, hcap⟩ | ⟨g, off, cap, vs, rfl, _, hg, hc, hr⟩
  · cases a' with
    | none =>
      rw [hcap rfl] at hx
      refine wpList_append_own_none hgd s x t ho base e i A.k ht hi v xs.length us hs h1 hx ?_
      rw [List.append_nil] at h
      exact h v w (flat_own hf h1 h2) hv0 (World.grownBy.refl _ _) (Below.refl _ _)
    | some ad =>
      refine wpList_append_own w hgd s x t ho base e i z A.k bytes ht hi hz hsize hby hzs A.pos v xs.length us hs h1 ad 0 cap [] hx (by simp) (by simp) (by simp) (by unfold maxLen; simp at hlen; omega) (by have h1 : xs.length * bytes ≤ 1000000000 * 1000 := Nat.mul_le_mul (by simp at hlen; omega) hb1; simp; omega) hbase ?_
      intro v' w' h3 h4 h5
      refine h v' w' ?_ (fun e => hv0 (h5.1 e).1) h4 (below_grown h4 hlt hbase)
      rw [List.append_nil] at h3 ⊢
      exact flat_own hf h3 (hf.all h2)
  · refine wpList_append_own w hgd s x t ho base e i z A.k bytes ht hi hz hsize hby hzs A.pos v xs.length us hs h1 ⟨g, off, none⟩ ys.length cap vs hx (rdAll_len A hr) ?_ (rdAll_one A hr) (by unfold maxLen; omega) (by have h1 : (xs.length + ys.length) * bytes ≤ 1000000000 * 1000 := Nat.mul_le_mul hlen hb1; omega) hbase ?_
    · intro j q hj
      have e1 : (⟨g, off, none⟩ : Addr).add j = ⟨g, off + j, none⟩ := by unfold Addr.add; split <;> simp_all
      rw [e1]
      exact hc j q hj
    · intro v' w' h3 h4 h5
      refine h v' w' ?_ (fun e => hv0 (h5.1 e).1) h4 (below_grown h4 hlt hbase)
      have h6 : w'.ownsRow base e A.k v' (xs ++ ys).length (us ++ vs) := by rw [List.length_append]; exact h3
      exact flat_own hf h6 (rdAll_join A (hf.all h2) (hf.all hr))

/-- 'out = append(out, x)': out a flat row of the call's own. -/
theorem wpList_pushF {P : Program} (w : World) {ops : Array Oper} {rest : List Oper} {o : Oper} {a : Act} {Q : Exit → Act → World → Prop} (hgd : o.guard = none) (s x : Operand) (t : TypeId)
    (ho : o.op = .call { callee := .builtin .append, args := #[s, x], argTypes := #[t, t] })
    (base : Nat) (e : TypeId) (i : TypeInfo) (z : Value) (bytes : Nat) (A : Lay α) (hf : Flat A) (ht : P.underlying t = some (.slice e)) (hi : P.info? e = some i) (hz : i.zero = some z)
    (hsize : i.size = A.k) (hby : i.bytes = bytes) (hzs : z.cells.size = A.k) (hb1 : bytes ≤ 1000) (v : Value) (f : List Nat) (xs : List α) (hs : a.eval s = v) (hown : (Lay.rows e A).own w base f [v] xs)
    (y : α) (cs : Array Value) (hcs : A.rd w cs.toList y) (hx : a.eval x = .slice (some ⟨w.heap.size, 0, none⟩) 1 1)
    (hlen : xs.length + 1 ≤ 1000000000) (hbase : base ≤ w.heap.size)
    (h : ∀ v' w', (Lay.rows e A).own w' base (blk v') [v'] (xs ++ [y]) → v' ≠ .slice none 0 0 → w.grownBy w' v.ownBlock → Below base w w' → wpList P ops Q rest (a.put o.dst v') w') :
    wpList P ops Q (o :: rest) a (w.alloc (.cells cs e)) := by
  obtain ⟨us, h1, h2, rfl⟩ := flat_inv hf hown
  have hlt : ∀ k, v.ownBlock = some k → base ≤ k := fun k hk => (World.ownsRow.lt h1 k hk).1
  refine wpList_append_own (w.alloc (.cells cs e)) hgd s x t ho base e i z A.k bytes ht hi hz hsize hby hzs A.pos v xs.length us hs (World.ownsRow.alloc h1 _) ⟨w.heap.size, 0, none⟩ 1 1 cs.toList hx (by rw [A.len hcs, Nat.one_mul]) ?_ (A.one hcs) (by unfold maxLen; omega) ?_ (by simp; omega) ?_
  · intro j u hj
    have e1 : (⟨w.heap.size, 0, none⟩ : Addr).add j = ⟨w.heap.size, j, none⟩ := by unfold Addr.add; split <;> simp_all
    rw [e1, cell_of_row (w.alloc (.cells cs e)) w.heap.size j cs e (0, 0) (heap_alloc_new w _)]
    simpa using hj
  · have h1 : (xs.length + 1) * bytes ≤ 1000000000 * 1000 := Nat.mul_le_mul hlen hb1
    omega
  · intro v' w' h3 h4 h5
    have hg : w.grownBy w' v.ownBlock := grown_trans (World.grownBy_alloc w _ _) h4
    refine h v' w' ?_ (fun e => by have := (h5.1 e).2; omega) hg (below_grown hg hlt hbase)
    have h6 : w'.ownsRow base e A.k v' (xs ++ [y]).length (us ++ cs.toList) := by rw [List.length_append]; exact h3
    exact flat_own hf h6 (rdAll_join A (hf.all h2) ⟨cs.toList, [], by simp, hf.any _ _ _ _ hcs, rfl⟩)
end
end Go.Proofs.YtoaifgblbfdncaaGreatDoor
namespace Go.Proofs.YtoaifgblbfdncaaGreatDoor
open Go.RowKit

def layIntS : Lay (List Int) := .rows 3 .int
theorem int_rd {w : World} {cs : List Value} {x : Int} : Lay.int.rd w cs x ↔ cs = [.int .i64 x] := Iff.rfl
theorem infoInt : (Tryz.prog.info? 3).map (fun i => (i.zero, i.size, i.bytes)) = some (some (.int .i64 0), 1, 8) := by kernel_rfl
/-- One number of a row that can be read. -/
theorem ints_get {w : World} {v : Value} {xs : List Int} (h : layIntS.rd w [v] xs) (m : Nat) (hm : m < xs.length) : ∃ g off cap, v = .slice (some ⟨g, off, none⟩) xs.length cap ∧ g < w.heap.size ∧ w.cell? ⟨g, off + m, none⟩ = some (.int .i64 xs[m]) := by
  obtain ⟨a, cap, rfl⟩ := rows_form h
  obtain ⟨g, off, c, rfl, hg, hr, hc⟩ := rows_elem h m _ (List.getElem?_eq_getElem hm)
  rw [int_rd] at hr
  subst hr
  refine ⟨g, off, cap, rfl, hg, ?_⟩
  have := hc 0 _ rfl
  rw [show Lay.int.k = 1 from rfl, Nat.mul_one] at this
  exact this
end Go.Proofs.YtoaifgblbfdncaaGreatDoor
namespace Go.Proofs.YtoaifgblbfdncaaGreatDoor
open Go.RowKit

end Go.Proofs.YtoaifgblbfdncaaGreatDoor
namespace Go.Proofs.YtoaifgblbfdncaaGreatDoor
open Go.RowKit

end Go.Proofs.YtoaifgblbfdncaaGreatDoor
namespace Go.Proofs.YtoaifgblbfdncaaGreatDoor
open Go.RowKit

end Go.Proofs.YtoaifgblbfdncaaGreatDoor
namespace Go.Proofs.YtoaifgblbfdncaaGreatDoor
open Go.RowKit

def strs (ls : List (List UInt8)) : List Value := ls.map fun l => Value.string ⟨l.toArray⟩

/-- The slice value v is nil or the call's own (from block 'base' on), and holds these texts. -/
def OwnS (w : World) (base : Nat) (e : TypeId) (v : Value) (ls : List (List UInt8)) : Prop := w.ownsRow base e 1 v ls.length (strs ls)

theorem OwnS.nil (w : World) (base : Nat) (e : TypeId) : OwnS w base e (.slice none 0 0) [] := World.ownsRow_nil _ _ _ _
theorem OwnS.lit (w : World) (base : Nat) (e : TypeId) (hb : base ≤ w.heap.size) : OwnS (w.alloc (.cells #[] e)) base e (.slice (some ⟨w.heap.size, 0, none⟩) 0 0) [] :=
  World.ownsRow_lit w #[] 0 hb (by decide) rfl
theorem OwnS.alloc {w : World} {base : Nat} {e : TypeId} {v : Value} {ls : List (List UInt8)} (h : OwnS w base e v ls) (o : Obj) : OwnS (w.alloc o) base e v ls := World.ownsRow.alloc h o
theorem OwnS.drewN {w : World} {base : Nat} {e : TypeId} {v : Value} {ls : List (List UInt8)} (h : OwnS w base e v ls) (n : Nat) : OwnS (w.drewN n) base e v ls := h
theorem OwnS.lower {w : World} {base base' : Nat} {e : TypeId} {v : Value} {ls : List (List UInt8)} (h : OwnS w base e v ls) (hb : base' ≤ base) : OwnS w base' e v ls := by
  refine ⟨h.1, ?_⟩
  rcases h.2 with h | ⟨g, cap, cur, h1, h2, h3⟩
  · exact .inl h
  · exact .inr ⟨g, cap, cur, h1, by omega, h3⟩

theorem OwnS.below {w w' : World} {base : Nat} {e : TypeId} {v : Value} {ls : List (List UInt8)} (h : OwnS w base e v ls) (hb : Below w.heap.size w w') : OwnS w' base e v ls := by
  refine ⟨h.1, ?_⟩
  rcases h.2 with h | ⟨g, cap, cur, h1, h2, h3, h4⟩
  · exact .inl h
  · exact .inr ⟨g, cap, cur, h1, h2, by rw [hb.block g (lt_of_block h3)]; exact h3, h4⟩

/-- The shape of an owned row of texts, and its cells. -/
theorem OwnS.form {w : World} {base : Nat} {e : TypeId} {v : Value} {ls : List (List UInt8)} (h : OwnS w base e v ls) : ∃ ao cap, v = .slice ao ls.length cap ∧
    (0 < ls.length → ∃ g, ao = some ⟨g, 0, none⟩ ∧ base ≤ g ∧ g < w.heap.size ∧ ∀ j, j < ls.length → w.cell? ⟨g, j, none⟩ = some (.string ⟨(ls.getD j []).toArray⟩) ∧ w.frozen? ⟨g, j, none⟩ = false) := by
  have h' : w.ownsRow base e 1 v ls.length (strs ls) := h
  rcases h'.2 with ⟨rfl, h0⟩ | ⟨g, cap, cur, rfl, hb, hh, _, _, _, _⟩
  · exact ⟨none, 0, by rw [h0], fun hp => by omega⟩
  · refine ⟨_, cap, rfl, fun _ => ⟨g, rfl, hb, lt_of_block hh, fun j hj => ⟨?_, h'.frozenAt j⟩⟩⟩
    rw [h'.cellAt j (by omega)]
    simp [strs, hj]

/-- One text of the row is written over. -/
theorem OwnS.stored {w : World} {base : Nat} {e : TypeId} {g n cap : Nat} {ls : List (List UInt8)} (hn : n = ls.length) (h : OwnS w base e (.slice (some ⟨g, 0, none⟩) n cap) ls) (j : Nat) (t : List UInt8) :
    OwnS (w.setCell ⟨g, j, none⟩ (.string ⟨t.toArray⟩)) base e (.slice (some ⟨g, 0, none⟩) n cap) (ls.set j t) := by
  subst hn
  have h' : w.ownsRow base e 1 (.slice (some ⟨g, 0, none⟩) ls.length cap) ls.length (strs ls) := h
  have h2 := (h'.stored j (.string ⟨t.toArray⟩)).1
  unfold OwnS
  have e1 : strs (ls.set j t) = (strs ls).set j (.string ⟨t.toArray⟩) := by simp [strs]
  rw [e1, List.length_set]
  exact h2

end Go.Proofs.YtoaifgblbfdncaaGreatDoor
namespace Go.Proofs.YtoaifgblbfdncaaGreatDoor
open Go.RowKit

/-- The mark of a number. -/
def mark (k : Nat) : List UInt8 := 109 :: digs k

end Go.Proofs.YtoaifgblbfdncaaGreatDoor
namespace Go.Proofs.YtoaifgblbfdncaaGreatDoor
open Go.RowKit

theorem Zip.next {α : Type} {e : TypeId} {A : Lay α} {w w' : World} {b g cap : Nat} {f1 f2 f3 : List Nat} {u1 c u3 : List Value} {X : List α} {x : α} {Y : List α} (h : Zip e A w b g cap f1 f2 f3 u1 c u3 X x Y) (hb : Below w.heap.size w w') : Zip e A w' b g cap f1 f2 f3 u1 c u3 X x Y :=
  ⟨ownsRow_keep h.row (hb.block g h.lt.2), ownAll_keep A h.left (fun i hi => hb.block i (ownAll_blocks A h.left i hi).2), A.next h.mid hb, ownAll_keep A h.right (fun i hi => hb.block i (ownAll_blocks A h.right i hi).2), h.dup⟩
end Go.Proofs.YtoaifgblbfdncaaGreatDoor
namespace Go.Proofs.YtoaifgblbfdncaaGreatDoor
open Go.RowKit

end Go.Proofs.YtoaifgblbfdncaaGreatDoor
namespace Go.Proofs.YtoaifgblbfdncaaGreatDoor
open Go.RowKit

abbrev SlotT : TypeId := 29
end Go.Proofs.YtoaifgblbfdncaaGreatDoor
namespace Go.Proofs.YtoaifgblbfdncaaGreatDoor
open Go.RowKit

/-- A flat row and a variable of another type lie apart. -/
theorem row_off {α : Type} {A : Lay α} (hf : Flat A) {e T : TypeId} {X : World} {b G : Nat} {f : List Nat} {v : Value} {xs : List α} {cs : Array Value} (h : (Lay.rows e A).own X b f [v] xs) (hv : VarA G T cs X) (hT : T ≠ e) : G ∉ f := by
  obtain ⟨us, ho, _, rfl⟩ := flat_inv hf h
  intro hm
  rcases ho.2 with ⟨rfl, _⟩ | ⟨g', cap, cur, rfl, _, hb, _⟩
  · simp [blk, Value.ownBlock] at hm
  · have : G = g' := by simpa [blk, Value.ownBlock] using hm
    subst this
    rw [hv.row] at hb
    injection hb with hb
    injection hb with _ hb
    exact hT hb
theorem VarA.next' {r : Nat} {t : TypeId} {cs : Array Value} {X Y : World} {b : Nat} (h : VarA r t cs X) (hb : Below b X Y) (hr : r < b) : VarA r t cs Y := ⟨(hb.block r hr).trans h.row⟩

end Go.Proofs.YtoaifgblbfdncaaGreatDoor
namespace Go.Proofs.YtoaifgblbfdncaaGreatDoor
open Go.RowKit

abbrev SlotsT : TypeId := 31
theorem putMain {X : World} {G : Nat} {T : TypeId} {q0 q1 q2 q3 q4 q5 q6 q7 q8 q9 q10 q11 : Value} (h : VarA G T #[q0, q1, q2, q3, q4, q5, q6, q7, q8, q9, q10, q11] X) (u0 u1 u2 u3 u4 u5 : Value) : VarA G T #[u0, u1, u2, u3, u4, u5, q6, q7, q8, q9, q10, q11] ((((((X.setCell ⟨G, 0, none⟩ (u0)).setCell ⟨G, 1, none⟩ (u1)).setCell ⟨G, 2, none⟩ (u2)).setCell ⟨G, 3, none⟩ (u3)).setCell ⟨G, 4, none⟩ (u4)).setCell ⟨G, 5, none⟩ (u5)) := by
  have h0 := h.set 0 u0
  have h1 := h0.set 1 u1
  have h2 := h1.set 2 u2
  have h3 := h2.set 3 u3
  have h4 := h3.set 4 u4
  have h5 := h4.set 5 u5
  exact h5
theorem putMain_below {base : Nat} {w X : World} {G : Nat} (h : Below base w X) (hG : base ≤ G) (u0 u1 u2 u3 u4 u5 : Value) : Below base w ((((((X.setCell ⟨G, 0, none⟩ (u0)).setCell ⟨G, 1, none⟩ (u1)).setCell ⟨G, 2, none⟩ (u2)).setCell ⟨G, 3, none⟩ (u3)).setCell ⟨G, 4, none⟩ (u4)).setCell ⟨G, 5, none⟩ (u5)) := (((((h.setCell (p := ⟨G, 0, none⟩) hG _).setCell (p := ⟨G, 1, none⟩) hG _).setCell (p := ⟨G, 2, none⟩) hG _).setCell (p := ⟨G, 3, none⟩) hG _).setCell (p := ⟨G, 4, none⟩) hG _).setCell (p := ⟨G, 5, none⟩) hG _
theorem putMain_only (X : World) (G : Nat) (u0 u1 u2 u3 u4 u5 : Value) : Only G X ((((((X.setCell ⟨G, 0, none⟩ (u0)).setCell ⟨G, 1, none⟩ (u1)).setCell ⟨G, 2, none⟩ (u2)).setCell ⟨G, 3, none⟩ (u3)).setCell ⟨G, 4, none⟩ (u4)).setCell ⟨G, 5, none⟩ (u5)) := ((((((Only.refl G X).trans (Only.setCell 0 _)).trans (Only.setCell 1 _)).trans (Only.setCell 2 _)).trans (Only.setCell 3 _)).trans (Only.setCell 4 _)).trans (Only.setCell 5 _)
theorem putLame {X : World} {G : Nat} {T : TypeId} {q0 q1 q2 q3 q4 q5 q6 q7 q8 q9 q10 q11 : Value} (h : VarA G T #[q0, q1, q2, q3, q4, q5, q6, q7, q8, q9, q10, q11] X) (u0 u1 u2 u3 u4 u5 : Value) : VarA G T #[q0, q1, q2, q3, q4, q5, u0, u1, u2, u3, u4, u5] ((((((X.setCell ⟨G, 6, none⟩ (u0)).setCell ⟨G, 7, none⟩ (u1)).setCell ⟨G, 8, none⟩ (u2)).setCell ⟨G, 9, none⟩ (u3)).setCell ⟨G, 10, none⟩ (u4)).setCell ⟨G, 11, none⟩ (u5)) := by
  have h0 := h.set 6 u0
  have h1 := h0.set 7 u1
  have h2 := h1.set 8 u2
  have h3 := h2.set 9 u3
  have h4 := h3.set 10 u4
  have h5 := h4.set 11 u5
  exact h5
theorem putLame_below {base : Nat} {w X : World} {G : Nat} (h : Below base w X) (hG : base ≤ G) (u0 u1 u2 u3 u4 u5 : Value) : Below base w ((((((X.setCell ⟨G, 6, none⟩ (u0)).setCell ⟨G, 7, none⟩ (u1)).setCell ⟨G, 8, none⟩ (u2)).setCell ⟨G, 9, none⟩ (u3)).setCell ⟨G, 10, none⟩ (u4)).setCell ⟨G, 11, none⟩ (u5)) := (((((h.setCell (p := ⟨G, 6, none⟩) hG _).setCell (p := ⟨G, 7, none⟩) hG _).setCell (p := ⟨G, 8, none⟩) hG _).setCell (p := ⟨G, 9, none⟩) hG _).setCell (p := ⟨G, 10, none⟩) hG _).setCell (p := ⟨G, 11, none⟩) hG _
theorem putLame_only (X : World) (G : Nat) (u0 u1 u2 u3 u4 u5 : Value) : Only G X ((((((X.setCell ⟨G, 6, none⟩ (u0)).setCell ⟨G, 7, none⟩ (u1)).setCell ⟨G, 8, none⟩ (u2)).setCell ⟨G, 9, none⟩ (u3)).setCell ⟨G, 10, none⟩ (u4)).setCell ⟨G, 11, none⟩ (u5)) := ((((((Only.refl G X).trans (Only.setCell 6 _)).trans (Only.setCell 7 _)).trans (Only.setCell 8 _)).trans (Only.setCell 9 _)).trans (Only.setCell 10 _)).trans (Only.setCell 11 _)
theorem putBoth {X : World} {G : Nat} {T : TypeId} {q0 q1 q2 q3 q4 q5 q6 q7 q8 q9 q10 q11 : Value} (h : VarA G T #[q0, q1, q2, q3, q4, q5, q6, q7, q8, q9, q10, q11] X) (u0 u1 u2 u3 u4 u5 u6 u7 u8 u9 u10 u11 : Value) : VarA G T #[u0, u1, u2, u3, u4, u5, u6, u7, u8, u9, u10, u11] ((((((((((((X.setCell ⟨G, 0, none⟩ (u0)).setCell ⟨G, 1, none⟩ (u1)).setCell ⟨G, 2, none⟩ (u2)).setCell ⟨G, 3, none⟩ (u3)).setCell ⟨G, 4, none⟩ (u4)).setCell ⟨G, 5, none⟩ (u5)).setCell ⟨G, 6, none⟩ (u6)).setCell ⟨G, 7, none⟩ (u7)).setCell ⟨G, 8, none⟩ (u8)).setCell ⟨G, 9, none⟩ (u9)).setCell ⟨G, 10, none⟩ (u10)).setCell ⟨G, 11, none⟩ (u11)) := by
  exact putLame (putMain h u0 u1 u2 u3 u4 u5) u6 u7 u8 u9 u10 u11
theorem putBoth_below {base : Nat} {w X : World} {G : Nat} (h : Below base w X) (hG : base ≤ G) (u0 u1 u2 u3 u4 u5 u6 u7 u8 u9 u10 u11 : Value) : Below base w ((((((((((((X.setCell ⟨G, 0, none⟩ (u0)).setCell ⟨G, 1, none⟩ (u1)).setCell ⟨G, 2, none⟩ (u2)).setCell ⟨G, 3, none⟩ (u3)).setCell ⟨G, 4, none⟩ (u4)).setCell ⟨G, 5, none⟩ (u5)).setCell ⟨G, 6, none⟩ (u6)).setCell ⟨G, 7, none⟩ (u7)).setCell ⟨G, 8, none⟩ (u8)).setCell ⟨G, 9, none⟩ (u9)).setCell ⟨G, 10, none⟩ (u10)).setCell ⟨G, 11, none⟩ (u11)) := (((((((((((h.setCell (p := ⟨G, 0, none⟩) hG _).setCell (p := ⟨G, 1, none⟩) hG _).setCell (p := ⟨G, 2, none⟩) hG _).setCell (p := ⟨G, 3, none⟩) hG _).setCell (p := ⟨G, 4, none⟩) hG _).setCell (p := ⟨G, 5, none⟩) hG _).setCell (p := ⟨G, 6, none⟩) hG _).setCell (p := ⟨G, 7, none⟩) hG _).setCell (p := ⟨G, 8, none⟩) hG _).setCell (p := ⟨G, 9, none⟩) hG _).setCell (p := ⟨G, 10, none⟩) hG _).setCell (p := ⟨G, 11, none⟩) hG _
/-- Two slots laid anew, of the call's own. -/
def SlotsMade (x0 : Int) (x1 x2 : ByteArray) (x3 : Int) (r4 : List Int) (x5 : Int) (y0 : Int) (y1 y2 : ByteArray) (y3 : Int) (s4 : List Int) (y5 : Int) (w : World) (e : Ending) (w' : World) : Prop := ∃ v4 u4 f g, e = .returned (.agg #[.int .i64 x0, .string x1, .string x2, .int .i64 x3, v4, .int .i64 x5, .int .i64 y0, .string y1, .string y2, .int .i64 y3, u4, .int .i64 y5]) ∧ (f ++ g).Nodup ∧ layIntS.own w' w.heap.size f [v4] r4 ∧ layIntS.own w' w.heap.size g [u4] s4 ∧ Below w.heap.size w w'
end Go.Proofs.YtoaifgblbfdncaaGreatDoor
