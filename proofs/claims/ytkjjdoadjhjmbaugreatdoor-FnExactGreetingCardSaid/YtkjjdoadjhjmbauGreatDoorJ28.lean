/-
  'out = append(out, x)', told whether the row stays in its block or lies in a new one; no program is spoken of here.
  A row of cells of the call's own that is moved on (s[1:]) and appended to; no program is spoken of here.
-/
import Derived.Test.YtkjjdoadjhjmbauGreatDoorJ06
import Derived.ArgAppend
import Derived.Test.YtkjjdoadjhjmbauGreatDoorJ04
namespace Go.Proofs.YtkjjdoadjhjmbauGreatDoor
open Go.RowKit

theorem grown_some {w w' : World} {r : Option Nat} (h : w.grownBy w' none) : w.grownBy w' r := ⟨h.os, h.tape, h.output, h.size, fun k hk _ => h.block k hk (by simp)⟩
theorem wpList_pushT {α : Type} {P : Program} (w : World) {ops : Array Oper} {rest : List Oper} {o : Oper} {a : Act} {Q : Exit → Act → World → Prop} (hgd : o.guard = none) (s x : Operand) (t : TypeId)
    (ho : o.op = .call { callee := .builtin .append, args := #[s, x], argTypes := #[t, t] })
    (base : Nat) (e : TypeId) (i : TypeInfo) (z : Value) (bytes : Nat) (A : Lay α) (hf : Flat A) (ht : P.underlying t = some (.slice e)) (hi : P.info? e = some i) (hz : i.zero = some z)
    (hsize : i.size = A.k) (hby : i.bytes = bytes) (hzs : z.cells.size = A.k) (hb1 : bytes ≤ 1000) (v : Value) (f : List Nat) (xs : List α) (hs : a.eval s = v) (hown : (Lay.rows e A).own w base f [v] xs)
    (y : α) (cs : Array Value) (hcs : A.rd w cs.toList y) (hx : a.eval x = .slice (some ⟨w.heap.size, 0, none⟩) 1 1)
    (hlen : xs.length + 1 ≤ 1000000000) (hbase : base ≤ w.heap.size)
    (h : ∀ v' w', (Lay.rows e A).own w' base (blk v') [v'] (xs ++ [y]) → v' ≠ .slice none 0 0 → (blk v' = blk v ∨ ∀ k ∈ blk v', w.heap.size ≤ k) → w.grownBy w' v.ownBlock → Below base w w' → wpList P ops Q rest (a.put o.dst v') w') :
    wpList P ops Q (o :: rest) a (w.alloc (.cells cs e)) := by
  have hnews : ∀ j u, cs.toList[j]? = some u → (w.alloc (.cells cs e)).cell? ((⟨w.heap.size, 0, none⟩ : Addr).add j) = some u := by
    intro j u hj
    have e1 : (⟨w.heap.size, 0, none⟩ : Addr).add j = ⟨w.heap.size, j, none⟩ := by unfold Addr.add; split <;> simp_all
    rw [e1, cell_of_row (w.alloc (.cells cs e)) w.heap.size j cs e (0, 0) (heap_alloc_new w _)]
    simpa using hj
  have hbyt : (xs.length + 1) * bytes ≤ 140737488355328 := by
    have h1 : (xs.length + 1) * bytes ≤ 1000000000 * 1000 := Nat.mul_le_mul hlen hb1
    omega
  obtain ⟨us, h1, h2, hff⟩ := flat_inv hf hown
  have hlt : ∀ k, v.ownBlock = some k → base ≤ k := fun k hk => (World.ownsRow.lt h1 k hk).1
  have hnl : cs.toList.length = 1 * A.k := by rw [A.len hcs, Nat.one_mul]
  -- what a new block gives
  have big : ∀ (olds : List Value) (n : Nat), n = xs.length → rdAll A w olds xs → ∀ v' w', w'.ownsRow (w.alloc (.cells cs e)).heap.size e A.k v' (n + 1) (olds ++ cs.toList) → (w.alloc (.cells cs e)).grownBy w' none → wpList P ops Q rest (a.put o.dst v') w' := by
    intro olds n hn hr v' w' h3 h4
    have hg : w.grownBy w' none := grown_trans (World.grownBy_alloc w _ _) h4
    have h6 : w'.ownsRow (w.alloc (.cells cs e)).heap.size e A.k v' (xs ++ [y]).length (olds ++ cs.toList) := by rw [List.length_append, ← hn]; exact h3
    have h7 := flat_own hf h6 (rdAll_join A (hf.all hr) ⟨cs.toList, [], by simp, hf.any _ _ _ _ hcs, rfl⟩)
    have hsz : (w.alloc (.cells cs e)).heap.size = w.heap.size + 1 := by simp
    refine h v' w' ((Lay.rows e A).lower h7 (by omega)) (fun ev => ?_) (.inr fun k hk => ?_) (grown_some hg) (below_grown (grown_some hg) hlt hbase)
    · obtain ⟨a', c', hv'⟩ := rows_form ((Lay.rows e A).read h7)
      rw [ev] at hv'
      simp at hv'
    · have := ((Lay.rows e A).blocks h7 k hk).1
      omega
  rcases h1.2 with ⟨hv, h0⟩ | ⟨g, cap, cur, hv, _, _, hcap, _⟩
  · subst hv
    obtain rfl : xs = [] := List.length_eq_zero_iff.1 h0
    exact wpList_append_grows (w.alloc (.cells cs e)) hgd s x t ho e i z A.k bytes ht hi hz hsize hby hzs A.pos none 0 0 [] hs (fun _ => ⟨rfl, rfl⟩) (by simp) (fun b hb => by cases hb) ⟨w.heap.size, 0, none⟩ 1 1 cs.toList hx hnl hnews (A.one hcs) (by omega) (by unfold maxLen; omega) (by simpa using hbyt) (big [] 0 rfl rfl)
  · subst hv
    by_cases hfit : xs.length + 1 ≤ cap
    · refine wpList_append_fits (w.alloc (.cells cs e)) hgd s x t ho base e i A.k ht hi hsize g xs.length cap us hs (World.ownsRow.alloc h1 _) ⟨w.heap.size, 0, none⟩ 1 1 cs.toList hx hnl hnews (A.one hcs) hfit ?_
      intro w' h3 h4
      have hg : w.grownBy w' (some g) := grown_trans (World.grownBy_alloc w _ _) h4
      have h6 : w'.ownsRow base e A.k (.slice (some ⟨g, 0, none⟩) (xs.length + 1) cap) (xs ++ [y]).length (us ++ cs.toList) := by rw [List.length_append]; exact h3
      exact h _ w' (flat_own hf h6 (rdAll_join A (hf.all h2) ⟨cs.toList, [], by simp, hf.any _ _ _ _ hcs, rfl⟩)) (by simp) (.inl rfl) hg (below_grown hg hlt hbase)
    · have hrd := (Lay.rows e A).read hown
      obtain ⟨v2, hv2, hrd⟩ := hrd
      simp only [List.cons.injEq, and_true] at hv2
      subst hv2
      rcases hrd with ⟨_, a', c', hv', _⟩ | ⟨g', off', cap', us', hv', _, hg', hc', hr'⟩
      · simp only [Value.slice.injEq] at hv'
        obtain ⟨rfl, hxl, -⟩ := hv'
        obtain rfl : xs = [] := List.length_eq_zero_iff.1 hxl
        exact wpList_append_grows (w.alloc (.cells cs e)) hgd s x t ho e i z A.k bytes ht hi hz hsize hby hzs A.pos _ 0 cap [] hs (fun e => by cases e) (by simp) (fun b _ j u hj => by simp at hj) ⟨w.heap.size, 0, none⟩ 1 1 cs.toList hx hnl hnews (A.one hcs) (by simp at hfit; omega) (by unfold maxLen; omega) (by simpa using hbyt) (big [] 0 rfl rfl)
      · simp only [Value.slice.injEq, Option.some.injEq, Addr.mk.injEq, and_true, true_and] at hv'
        obtain ⟨⟨rfl, rfl⟩, rfl⟩ := hv'
        refine wpList_append_grows (w.alloc (.cells cs e)) hgd s x t ho e i z A.k bytes ht hi hz hsize hby hzs A.pos _ xs.length cap us' hs (fun e => by cases e) (rdAll_len A hr') (fun b hb j u hj => ?_) ⟨w.heap.size, 0, none⟩ 1 1 cs.toList hx hnl hnews (A.one hcs) (by omega) (by unfold maxLen; omega) hbyt (big us' _ rfl hr')
        cases hb
        have e1 : (⟨g, 0, none⟩ : Addr).add j = ⟨g, j, none⟩ := by unfold Addr.add; split <;> simp_all
        have h9 := hc' j u hj
        rw [Nat.zero_add] at h9
        rw [e1, ((Below.refl w.heap.size w).alloc (Nat.le_refl _) (.cells cs e)).cell (p := ⟨g, j, none⟩) hg']
        exact h9

/-- An append of one, run: the row stays in its block or lies in a new one. -/
theorem run_pushT {α : Type} {P : Program} (W : World) (base : Nat) (t ty e : TypeId) (i : TypeInfo) (z : Value) (bytes : Nat) (A : Lay α) (hf : Flat A) (ht : P.underlying t = some (.slice e)) (hi : P.info? e = some i) (hz : i.zero = some z)
    (hsize : i.size = A.k) (hby : i.bytes = bytes) (hzs : z.cells.size = A.k) (hb1 : bytes ≤ 1000) (v : Value) (f : List Nat) (xs : List α) (hown : (Lay.rows e A).own W base f [v] xs)
    (y : α) (cs : List Value) (hcs : A.rd W cs y) (ad : Addr) (hc : ∀ j u, cs[j]? = some u → W.cell? (ad.add j) = some u) (hlen : xs.length + 1 ≤ 1000000000) (hbase : base ≤ W.heap.size) :
    ∃ v' w', (Builtin.append_ #[t, t] ty #[v, .slice (some ad) 1 1]).run P W = .ok v' w' ∧ (Lay.rows e A).own w' base (blk v') [v'] (xs ++ [y]) ∧ v' ≠ .slice none 0 0 ∧ (blk v' = blk v ∨ ∀ k ∈ blk v', W.heap.size ≤ k) ∧ W.grownBy w' v.ownBlock ∧ Below base W w' := by
  have hbyt : (xs.length + 1) * bytes ≤ 140737488355328 := by
    have h1 : (xs.length + 1) * bytes ≤ 1000000000 * 1000 := Nat.mul_le_mul hlen hb1
    omega
  obtain ⟨us, h1, h2, hff⟩ := flat_inv hf hown
  have hlt : ∀ k, v.ownBlock = some k → base ≤ k := fun k hk => (World.ownsRow.lt h1 k hk).1
  have hnl : cs.length = 1 * A.k := by rw [A.len hcs, Nat.one_mul]
  have big : ∀ (olds : List Value) (n : Nat), n = xs.length → rdAll A W olds xs → ∀ v' w', w'.ownsRow W.heap.size e A.k v' (n + 1) (olds ++ cs) → W.grownBy w' none → (Lay.rows e A).own w' base (blk v') [v'] (xs ++ [y]) ∧ v' ≠ .slice none 0 0 ∧ (blk v' = blk v ∨ ∀ k ∈ blk v', W.heap.size ≤ k) ∧ W.grownBy w' v.ownBlock ∧ Below base W w' := by
    intro olds n hn hr v' w' h3 hg
    have h6 : w'.ownsRow W.heap.size e A.k v' (xs ++ [y]).length (olds ++ cs) := by rw [List.length_append, ← hn]; exact h3
    have h7 := flat_own hf h6 (rdAll_join A (hf.all hr) ⟨cs, [], by simp, hf.any _ _ _ _ hcs, rfl⟩)
    refine ⟨(Lay.rows e A).lower h7 hbase, fun ev => ?_, .inr fun k hk => ((Lay.rows e A).blocks h7 k hk).1, grown_some hg, below_grown (grown_some hg) hlt hbase⟩
    obtain ⟨a', c', hv'⟩ := rows_form ((Lay.rows e A).read h7)
    rw [ev] at hv'
    simp at hv'
  rcases h1.2 with ⟨hv, h0⟩ | ⟨g, cap, cur, hv, _, _, hcap, _⟩
  · subst hv
    obtain rfl : xs = [] := List.length_eq_zero_iff.1 h0
    obtain ⟨v', w', hrun, r1, r2, _⟩ := run_append_own (P := P) W W.heap.size t ty e i z A.k bytes ht hi hz hsize hby hzs A.pos (.slice none 0 0) 0 [] (World.ownsRow_nil W _ e A.k) ad 1 1 cs hnl hc (A.one hcs) (by unfold maxLen; omega) (by simpa using hbyt) (Nat.le_refl _)
    exact ⟨v', w', hrun, big [] 0 rfl rfl v' w' r1 r2⟩
  · subst hv
    by_cases hfit : xs.length + 1 ≤ cap
    · obtain ⟨w', hrun, r1, r2⟩ := run_append_fits (P := P) W base t ty e i A.k ht hi hsize g xs.length cap us h1 ad 1 1 cs hnl hc (A.one hcs) hfit
      have h6 : w'.ownsRow base e A.k (.slice (some ⟨g, 0, none⟩) (xs.length + 1) cap) (xs ++ [y]).length (us ++ cs) := by rw [List.length_append]; exact r1
      exact ⟨_, w', hrun, flat_own hf h6 (rdAll_join A (hf.all h2) ⟨cs, [], by simp, hf.any _ _ _ _ hcs, rfl⟩), by simp, .inl rfl, r2, below_grown r2 hlt hbase⟩
    · have hrd := (Lay.rows e A).read hown
      obtain ⟨v2, hv2, hrd⟩ := hrd
      simp only [List.cons.injEq, and_true] at hv2
      subst hv2
      rcases hrd with ⟨_, a', c', hv', _⟩ | ⟨g', off', cap', us', hv', _, hg', hc', hr'⟩
      · simp only [Value.slice.injEq] at hv'
        obtain ⟨rfl, hxl, -⟩ := hv'
        obtain rfl : xs = [] := List.length_eq_zero_iff.1 hxl
        obtain ⟨v', w', hrun, r1, r2⟩ := run_append_arg_grows (P := P) W t ty e i z A.k bytes ht hi hz hsize hby hzs A.pos ⟨g, 0, none⟩ 0 cap [] (by simp) (fun j u hj => by simp at hj) ad 1 1 cs hnl hc (by simp at hfit; omega) (by unfold maxLen; omega) (by simpa using hbyt)
        exact ⟨v', w', hrun, big [] 0 rfl rfl v' w' r1 r2⟩
      · simp only [Value.slice.injEq, Option.some.injEq, Addr.mk.injEq, and_true, true_and] at hv'
        obtain ⟨⟨rfl, rfl⟩, rfl⟩ := hv'
        obtain ⟨v', w', hrun, r1, r2⟩ := run_append_arg_grows (P := P) W t ty e i z A.k bytes ht hi hz hsize hby hzs A.pos ⟨g, 0, none⟩ xs.length cap us' (rdAll_len A hr') (fun j u hj => by
          have e1 : (⟨g, 0, none⟩ : Addr).add j = ⟨g, j, none⟩ := by unfold Addr.add; split <;> simp_all
          have h9 := hc' j u hj
          rw [Nat.zero_add] at h9
          rw [e1]
          exact h9) ad 1 1 cs hnl hc (by omega) (by unfold maxLen; omega) hbyt
        exact ⟨v', w', hrun, big us' _ rfl hr' v' w' r1 r2⟩
/-- 'out = append(out, x)' as a step of a region that draws its order, told whether the row stays in its block. -/
theorem step_pushT {α : Type} {P : Program} {ops : Array Oper} {o : Oper} {a : Act} {W : World} {K : Act → World → Prop} {Q : Exit → Act → World → Prop} {E : Prop}
    (hg : o.guard = none) (s x : Operand) (t : TypeId) (hop : o.op = Op.call { callee := Callee.builtin Builtin.append, args := #[s, x], argTypes := #[t, t] })
    (base : Nat) (e : TypeId) (i : TypeInfo) (z : Value) (bytes : Nat) (A : Lay α) (hf : Flat A) (ht : P.underlying t = some (.slice e)) (hi : P.info? e = some i) (hz : i.zero = some z)
    (hsize : i.size = A.k) (hby : i.bytes = bytes) (hzs : z.cells.size = A.k) (hb1 : bytes ≤ 1000) (v : Value) (f : List Nat) (xs : List α) (hs : a.eval s = v) (hown : (Lay.rows e A).own W base f [v] xs)
    (y : α) (cs : List Value) (hcs : A.rd W cs y) (ad : Addr) (hx : a.eval x = .slice (some ad) 1 1) (hc : ∀ j u, cs[j]? = some u → W.cell? (ad.add j) = some u)
    (hlen : xs.length + 1 ≤ 1000000000) (hbase : base ≤ W.heap.size)
    (hK : ∀ v' w', (Lay.rows e A).own w' base (blk v') [v'] (xs ++ [y]) → v' ≠ .slice none 0 0 → (blk v' = blk v ∨ ∀ k ∈ blk v', W.heap.size ≤ k) → W.grownBy w' v.ownBlock → Below base W w' → K (a.put o.dst v') w') :
    if Region.wanted o (yielded ops a.tmps) = true then Oper.wp P o a W K Q else E := by
  have hw : Region.wanted o (yielded ops a.tmps) = true := by simp [Region.wanted, hg]
  rw [if_pos hw]
  obtain ⟨v', w', hrun, r1, r2, r3, r4, r5⟩ := run_pushT (P := P) W base t o.type e i z bytes A hf ht hi hz hsize hby hzs hb1 v f xs hown y cs hcs ad hc hlen hbase
  unfold Oper.wp
  simp [execOp, hop, resolve, invoke, builtin, hs, hx, hrun, Result.andThen]
  exact hK v' w' r1 r2 r3 r4 r5

end Go.Proofs.YtkjjdoadjhjmbauGreatDoor
namespace Go.Proofs.YtkjjdoadjhjmbauGreatDoor
open Go.RowKit

/-- The cells us lie behind the slice v, in a block of the call's own. -/
def MovR (e : TypeId) (w : World) (base : Nat) (v : Value) (us : List Value) : Prop :=
  (v = .slice none 0 0 ∧ us = []) ∨
  ∃ g off cap cur, v = .slice (some ⟨g, off, none⟩) us.length cap ∧ base ≤ g ∧ w.heap[g]? = some (.cells cur e (0, 0)) ∧ us.length ≤ cap ∧ off + cap ≤ cur.size ∧ ∀ i u, us[i]? = some u → cur[off + i]? = some u
section
variable {e : TypeId} {w w' : World} {base : Nat} {v : Value} {us : List Value}
theorem MovR.form (h : MovR e w base v us) : ∃ ao cap, v = .slice ao us.length cap := by
  rcases h with ⟨rfl, rfl⟩ | ⟨g, off, cap, cur, rfl, -⟩
  · exact ⟨none, 0, rfl⟩
  · exact ⟨_, _, rfl⟩
theorem MovR.low (h : MovR e w base v us) : ∀ k, v.ownBlock = some k → base ≤ k := by
  rcases h with ⟨rfl, -⟩ | ⟨g, off, cap, cur, rfl, hb, -⟩
  · intro k hk
    cases hk
  · intro k hk
    cases hk
    exact hb
theorem MovR.lt (h : MovR e w base v us) : ∀ k, v.ownBlock = some k → k < w.heap.size := by
  rcases h with ⟨rfl, -⟩ | ⟨g, off, cap, cur, rfl, -, hg, -⟩
  · intro k hk
    cases hk
  · intro k hk
    cases hk
    exact lt_of_block hg
theorem MovR.same (h : MovR e w base v us) (hk : ∀ k, v.ownBlock = some k → w'.heap[k]? = w.heap[k]?) : MovR e w' base v us := by
  rcases h with ⟨rfl, rfl⟩ | ⟨g, off, cap, cur, rfl, h1, h2, h3, h4, h5⟩
  · exact .inl ⟨rfl, rfl⟩
  · exact .inr ⟨g, off, cap, cur, rfl, h1, (hk g rfl).trans h2, h3, h4, h5⟩
theorem MovR.next (h : MovR e w base v us) (hb : Below w.heap.size w w') : MovR e w' base v us := h.same fun k hk => hb.block k (h.lt k hk)
theorem MovR.ne {q : Nat} {T : TypeId} {cs : Array Value} (h : MovR e w base v us) (hv : VarA q T cs w) (hT : T ≠ e) : v.ownBlock ≠ some q := by
  rcases h with ⟨rfl, -⟩ | ⟨g, off, cap, cur, rfl, -, hg, -⟩
  · intro hk
    cases hk
  · intro hk
    cases hk
    have h1 := hv.row.symm.trans hg
    simp only [Option.some.injEq, Obj.cells.injEq] at h1
    exact hT h1.2.1
theorem MovR.only {q : Nat} (h : MovR e w base v us) (ho : Only q w w') (hq : v.ownBlock ≠ some q) : MovR e w' base v us := h.same fun k hk => ho.block k (h.lt k hk) (fun e => hq (by rw [hk, e]))
theorem MovR.grown {r : Option Nat} (h : MovR e w base v us) (hg : w.grownBy w' r) (hr : ∀ k, v.ownBlock = some k → some k ≠ r) : MovR e w' base v us := h.same fun k hk => hg.block k (h.lt k hk) (hr k hk)
/-- The first cell can be read. -/
theorem MovR.head {u : Value} (h : MovR e w base v (u :: us)) : ∃ g off cap, v = .slice (some ⟨g, off, none⟩) (us.length + 1) cap ∧ w.cell? ⟨g, off, none⟩ = some u ∧ us.length + 1 ≤ cap := by
  rcases h with ⟨-, h⟩ | ⟨g, off, cap, cur, rfl, -, hg, h3, -, h5⟩
  · cases h
  · refine ⟨g, off, cap, rfl, ?_, h3⟩
    rw [cell_of_row w g off cur e (0, 0) hg]
    exact h5 0 u rfl
/-- It is moved on by one. -/
theorem MovR.tail {u : Value} {g off cap : Nat} (h : MovR e w base (.slice (some ⟨g, off, none⟩) (us.length + 1) cap) (u :: us)) : MovR e w base (.slice (if cap = 1 then some ⟨g, off, none⟩ else some ⟨g, off + 1, none⟩) us.length (cap - 1)) us := by
  rcases h with ⟨-, h⟩ | ⟨g', off', cap', cur, hv, hb, hg, h3, h4, h5⟩
  · cases h
  · simp only [Value.slice.injEq, Option.some.injEq, Addr.mk.injEq, and_true] at hv
    obtain ⟨⟨rfl, rfl⟩, -, rfl⟩ := hv
    simp only [List.length_cons] at h3
    by_cases h1 : cap = 1
    · subst h1
      obtain rfl : us = [] := List.length_eq_zero_iff.1 (by omega)
      exact .inr ⟨g, off, 0, cur, rfl, hb, hg, by simp, by omega, fun i u hi => by simp at hi⟩
    · rw [if_neg h1]
      refine .inr ⟨g, off + 1, cap - 1, cur, rfl, hb, hg, by omega, by omega, fun i u hi => ?_⟩
      have h6 := h5 (i + 1) u (by simpa using hi)
      rw [show off + (i + 1) = off + 1 + i by omega] at h6
      exact h6
theorem MovR.of_own {n : Nat} (h : w.ownsRow base e 1 v n us) : MovR e w base v us := by
  obtain ⟨h0, ⟨rfl, rfl⟩ | ⟨g, cap, cur, rfl, hb, hg, h3, h4, h5, h6⟩⟩ := h
  · exact .inl ⟨rfl, List.length_eq_zero_iff.1 h0⟩
  · rw [Nat.mul_one] at h0 h5 h6
    subst h0
    refine .inr ⟨g, 0, cap, cur, rfl, hb, hg, h3, by omega, fun i u hi => ?_⟩
    rw [← h6, List.getElem?_take] at hi
    split at hi
    · rw [Nat.zero_add]
      simpa using hi
    · cases hi
end
/-- What an append leaves. -/
structure PushMv (e : TypeId) (W : World) (base : Nat) (v : Value) (us : List Value) (u : Value) (v' : Value) (w' : World) : Prop where
  row : MovR e w' base v' (us ++ [u])
  stay : v'.ownBlock = v.ownBlock ∨ ∃ k, v'.ownBlock = some k ∧ W.heap.size ≤ k
  grown : W.grownBy w' v.ownBlock
  below : Below base W w'

theorem run_pushMv {P : Program} (W : World) (base : Nat) (t ty e : TypeId) (i : TypeInfo) (z : Value) (bytes : Nat) (ht : P.underlying t = some (.slice e)) (hi : P.info? e = some i) (hz : i.zero = some z)
    (hsize : i.size = 1) (hby : i.bytes = bytes) (hzs : z.cells.size = 1) (hb1 : bytes ≤ 1000) (v : Value) (us : List Value) (hown : MovR e W base v us)
    (u : Value) (hu : u.oneCell' = true) (ad : Addr) (hc : W.cell? ad = some u) (hlen : us.length + 1 ≤ 1000000000) (hbase : base ≤ W.heap.size) :
    ∃ v' w', (Builtin.append_ #[t, t] ty #[v, .slice (some ad) 1 1]).run P W = .ok v' w' ∧ PushMv e W base v us u v' w' := by
  have hbyt : (us.length + 1) * bytes ≤ 140737488355328 := by
    have h1 : (us.length + 1) * bytes ≤ 1000000000 * 1000 := Nat.mul_le_mul hlen hb1
    omega
  have hnews : ∀ j x, [u][j]? = some x → W.cell? (ad.add j) = some x := by
    intro j x hj
    match j, hj with
    | 0, hj =>
      simp only [List.getElem?_cons_zero, Option.some.injEq] at hj
      subst hj
      rw [show ad.add 0 = ad by unfold Addr.add; split <;> simp_all]
      exact hc
    | j + 1, hj => simp at hj
  have hlow := hown.low
  have big : ∀ v' w', w'.ownsRow W.heap.size e 1 v' (us.length + 1) (us ++ [u]) → W.grownBy w' none → PushMv e W base v us u v' w' := by
    intro v' w' h3 hg
    have h4 := MovR.of_own h3
    have h5 : MovR e w' base v' (us ++ [u]) := by
      rcases h4 with ⟨-, h⟩ | ⟨g, off, cap, cur, h1, h2, h6⟩
      · simp at h
      · exact .inr ⟨g, off, cap, cur, h1, Nat.le_trans hbase h2, h6⟩
    refine ⟨h5, .inr ?_, grown_some hg, below_grown (grown_some hg) hlow hbase⟩
    rcases h4 with ⟨-, h⟩ | ⟨g, off, cap, cur, rfl, h2, -⟩
    · simp at h
    · exact ⟨g, rfl, h2⟩
  rcases hown with ⟨rfl, rfl⟩ | ⟨g, off, cap, cur, rfl, hb, hg, h3, h4, h5⟩
  · obtain ⟨v', w', hrun, r1, r2, _⟩ := run_append_own (P := P) W W.heap.size t ty e i z 1 bytes ht hi hz hsize hby hzs (by decide) (.slice none 0 0) 0 [] (World.ownsRow_nil W _ e 1) ad 1 1 [u] rfl hnews (by simpa using hu) (by unfold maxLen; omega) (by simpa using hbyt) (Nat.le_refl _)
    exact ⟨v', w', hrun, big v' w' r1 r2⟩
  · by_cases hfit : us.length + 1 ≤ cap
    · have hcell : ∀ k, k < cur.size → (W.cell? ⟨g, k, none⟩).isSome = true ∧ W.frozen? ⟨g, k, none⟩ = false := fun k hk => by
        rw [cell_of_row W g k cur e (0, 0) hg, frozen_of_row W g k cur e hg]
        simp [hk]
      have hrun := run_append_room_cells (P := P) W t ty e i ht hi g off us.length cap ad 1 1 [u] (by rw [hsize]; rfl) hnews (by simpa using hu) hfit (fun j hj => (hcell _ (by simp at hj; rw [hsize]; omega)).1) (fun j hj => (hcell _ (by simp at hj; rw [hsize]; omega)).2)
      rw [hsize, Nat.mul_one] at hrun
      refine ⟨_, _, hrun, ?_⟩
      have hw : W.setCells g (off + us.length) [u] = W.setCell ⟨g, off + us.length, none⟩ u := rfl
      rw [hw]
      have hgr : W.grownBy (W.setCell ⟨g, off + us.length, none⟩ u) (some g) := by
        have ho : Only g W (W.setCell ⟨g, off + us.length, none⟩ u) := Only.setCell _ _
        exact ⟨ho.os, ho.tape, ho.output, ho.size, fun k hk hn => ho.block k hk (fun e => hn (by rw [e]))⟩
      refine ⟨.inr ⟨g, off, cap, _, by rw [List.length_append]; rfl, hb, heap_setCell_same W g (off + us.length) cur e u hg, by simpa using hfit, by simpa using h4, fun k x hk => ?_⟩, .inl rfl, hgr, below_grown hgr hlow hbase⟩
      rw [Array.getElem?_setIfInBounds]
      by_cases hk2 : k < us.length
      · rw [if_neg (by omega)]
        rw [List.getElem?_append_left hk2] at hk
        exact h5 k x hk
      · have hkl := (List.getElem?_eq_some_iff.1 hk).1
        simp at hkl
        obtain rfl : k = us.length := by omega
        rw [if_pos rfl, if_pos (by omega)]
        rw [List.getElem?_append_right (Nat.le_refl _), Nat.sub_self] at hk
        simpa using hk
    · obtain ⟨v', w', hrun, r1, r2⟩ := run_append_arg_grows (P := P) W t ty e i z 1 bytes ht hi hz hsize hby hzs (by decide) ⟨g, off, none⟩ us.length cap us (by rw [Nat.mul_one]) (fun j x hj => by
        rw [show (⟨g, off, none⟩ : Addr).add j = ⟨g, off + j, none⟩ by unfold Addr.add; split <;> simp_all, cell_of_row W g (off + j) cur e (0, 0) hg]
        exact h5 j x hj) ad 1 1 [u] rfl hnews (by omega) (by unfold maxLen; omega) hbyt
      exact ⟨v', w', hrun, big v' w' r1 r2⟩

/-- 'out = append(out, x)' as a step of a region that draws its order. -/
theorem step_pushMv {P : Program} {ops : Array Oper} {o : Oper} {a : Act} {W : World} {K : Act → World → Prop} {Q : Exit → Act → World → Prop} {E : Prop}
    (hg : o.guard = none) (s x : Operand) (t : TypeId) (hop : o.op = Op.call { callee := Callee.builtin Builtin.append, args := #[s, x], argTypes := #[t, t] })
    (base : Nat) (e : TypeId) (i : TypeInfo) (z : Value) (bytes : Nat) (ht : P.underlying t = some (.slice e)) (hi : P.info? e = some i) (hz : i.zero = some z)
    (hsize : i.size = 1) (hby : i.bytes = bytes) (hzs : z.cells.size = 1) (hb1 : bytes ≤ 1000) (v : Value) (us : List Value) (hs : a.eval s = v) (hown : MovR e W base v us)
    (u : Value) (hu : u.oneCell' = true) (ad : Addr) (hx : a.eval x = .slice (some ad) 1 1) (hc : W.cell? ad = some u) (hlen : us.length + 1 ≤ 1000000000) (hbase : base ≤ W.heap.size)
    (hK : ∀ v' w', PushMv e W base v us u v' w' → K (a.put o.dst v') w') :
    if Region.wanted o (yielded ops a.tmps) = true then Oper.wp P o a W K Q else E := by
  have hw : Region.wanted o (yielded ops a.tmps) = true := by simp [Region.wanted, hg]
  rw [if_pos hw]
  obtain ⟨v', w', hrun, r1⟩ := run_pushMv (P := P) W base t o.type e i z bytes ht hi hz hsize hby hzs hb1 v us hown u hu ad hc hlen hbase
  unfold Oper.wp
  simp [execOp, hop, resolve, invoke, builtin, hs, hx, hrun, Result.andThen]
  exact hK v' w' r1

end Go.Proofs.YtkjjdoadjhjmbauGreatDoor
