/-
  The program's spanOf: right numbers as a first one and bits.
  The program's IsFresh (and SeenOk).
  'out = append(out, x)', told whether the row stays in its block or lies in a new one; no program is spoken of here.
-/
import Derived.Test.YtogninaejehinawJ09
import Derived.Test.YtogninaejehinawJ11
import Derived.Test.YtogninaejehinawJ10
import Derived.ArgAppend
namespace Go.Proofs.Ytogninaejehinaw
open Go.RowKit

/-- The span that is made, in its variable, and the result's variable. -/
structure SP (w : World) (f : Int) (b : Nat) (X : World) : Prop where
  r : VarP w.heap.size SpanT (.int .i64 0) (.int .u8 0) X
  v : VarP (w.heap.size + 1) SpanT (.int .i64 f) (.int .u8 (b : Int)) X
  below : Below w.heap.size w X
theorem SP.next {w : World} {f : Int} {b : Nat} {X Y : World} (h : SP w f b X) (hb : Below X.heap.size X Y) : SP w f b Y := ⟨h.r.next hb, h.v.next hb, h.below.trans (hb.mono h.below.size)⟩
theorem SP.set0 {w : World} {f : Int} {b : Nat} {X : World} (h : SP w f b X) (x : Int) : SP w x b (X.setCell ⟨w.heap.size + 1, 0, none⟩ (.int .i64 x)) := ⟨h.r.only (Only.setCell 0 _) (by omega), h.v.set0 _, h.below.setCell (p := ⟨w.heap.size + 1, 0, none⟩) (by show w.heap.size ≤ w.heap.size + 1; omega) _⟩
theorem SP.set1 {w : World} {f : Int} {b : Nat} {X : World} (h : SP w f b X) (x : Nat) : SP w f x (X.setCell ⟨w.heap.size + 1, 1, none⟩ (.int .u8 (x : Int))) := ⟨h.r.only (Only.setCell 1 _) (by omega), h.v.set1 _, h.below.setCell (p := ⟨w.heap.size + 1, 1, none⟩) (by show w.heap.size ≤ w.heap.size + 1; omega) _⟩

/-- The next number in its place among the bits. -/
theorem span_next {xs : List Int} (hs : SeenP xs) {j : Nat} (hj : j < xs.length) {f f2 : Int} {b k : Nat} (h : SpanIs (xs.take j) f b) (h0 : j = 0 → f2 = xs[j]) (h1 : 0 < j → f2 = f) (hk : (f2 - xs[j]).toNat = k) : SpanIs (xs.take (j + 1)) f2 (b ||| 2 ^ k) ∧ k < 6 ∧ f2 - xs[j] = (k : Int) ∧ 0 ≤ f2 ∧ f2 ≤ 1000000000 := by
  have hx := hs.2.1 _ (List.getElem_mem hj)
  rcases Nat.eq_zero_or_pos j with e | e
  · subst e
    have h2 := h0 rfl
    obtain rfl : k = 0 := by omega
    obtain ⟨-, rfl⟩ := span_none (by rw [List.take_zero] at h; exact h)
    refine ⟨?_, by omega, by omega, by omega, by omega⟩
    rw [List.take_add_one, List.take_zero, List.getElem?_eq_getElem hj, h2]
    exact span_one _
  · have h2 := h1 e
    have hne : xs.take j ≠ [] := by
      intro h3
      have h4 := congrArg List.length h3
      rw [List.length_take, List.length_nil] at h4
      omega
    have hmem := top_mem hne
    have ht := h.top
    have h8 := List.length_pos_iff.2 hne
    have h3 := hs.2.1 _ (List.mem_of_mem_take hmem)
    have h5 : topZ (xs.take j) = topZ xs := by
      cases xs with
      | nil => exact absurd hj (by simp)
      | cons y l =>
        cases j with
        | zero => omega
        | succ j => rfl
    have h6 := top_most hs.2.2.1 _ (List.getElem_mem hj)
    have h7 := hs.2.2.2 _ (List.getElem_mem hj)
    subst h2
    refine ⟨?_, by omega, by omega, by omega, by omega⟩
    rw [List.take_add_one, List.getElem?_eq_getElem hj, ← hk]
    exact span_snoc h hne (by omega) (by omega)

end Go.Proofs.Ytogninaejehinaw
namespace Go.Proofs.Ytogninaejehinaw
open Go.RowKit

theorem span_range {xs : List Int} {f : Int} {b : Nat} (hs : SeenP xs) (h : SpanIs xs f b) : 0 ≤ f ∧ f ≤ 1000000000 := by
  have ht := h.top
  by_cases e : xs = []
  · subst e
    have : topZ [] = 0 := rfl
    omega
  · have := hs.2.1 _ (top_mem e)
    omega

end Go.Proofs.Ytogninaejehinaw
namespace Go.Proofs.Ytogninaejehinaw
open Go.RowKit

theorem grown_some {w w' : World} {r : Option Nat} (h : w.grownBy w' none) : w.grownBy w' r := ⟨h.os, h.tape, h.output, h.size, fun k hk _ => h.block k hk (by simp)⟩
theorem wpList_pushT {α : Type} {P : Program} (w : World) {ops : Array Oper} {rest : List Oper} {o : Oper} {a : Act} {Q : Exit → Act → World → Prop} (hgd : o.guard = none) (s x : Operand) (t : TypeId)
    (ho : o.op = .call { callee := .builtin .append, args := #[s, x], argTypes := #[t, t] })
    (base : Nat) (e : TypeId) (i : TypeInfo) (z : Value) (bytes : Nat) (A : Lay α) (hf : Flat A) (ht : P.underlying t = some (.slice e)) (hi : P.info? e = some i) (hz : i.zero = some z)
    (hsize : i.size = A.k) (hby : i.bytes = bytes) (hzs : z.cells.size = A.k) (hb1 : bytes ≤ 1000) (v : Value) (f : List Nat) (xs : List α) (hs : a.eval s = v) (hown : (Lay.rows e A).own w base f [v] xs)
    (y : α) (cs : Array Value) (hcs : A.rd w cs.toList y) (hx : a.eval x = .slice (some ⟨w.heap.size, 0, none⟩) 1 1)
    (hlen : xs.length + 1 ≤ 1000000000) (hbase : base ≤ w.heap.size)
    (h : ∀ v' w', (Lay.rows e A).own w' base (blk v') [v'] (xs ++ [y]) → v' ≠ .slice none 0 0 → (blk v' = blk v ∨ ∀ k ∈ blk v', w.heap.size ≤ k) → w.grownBy w' v.ownBlock → Below base w w' → wpList P ops Q rest (a.put o.dst v') w') :
    wpList P ops Q (o :: rest) a (w.alloc (.cells cs e)) := by
  have hnews : ∀ j u, cs.toList[j]? = some u → (w.alloc (.cells cs e)).cell? ((⟨w.heap.size, 0, none⟩ : Addr).add j) = some u := by
    intro j u hj
    have e1 : (⟨w.heap.size, 0, none⟩ : Addr).add j = ⟨w.heap.size, j, none⟩ := by unfold Addr.add; split <;> simp_all
    rw [e1, cell_of_row (w.alloc (.cells cs e)) w.heap.size j cs e (0, 0) (heap_alloc_new w _)]
    simpa using hj
  have hbyt : (xs.length + 1) * bytes ≤ 140737488355328 := by
    have h1 : (xs.length + 1) * bytes ≤ 1000000000 * 1000 := Nat.mul_le_mul hlen hb1
    omega
  obtain ⟨us, h1, h2, hff⟩ := flat_inv hf hown
  have hlt : ∀ k, v.ownBlock = some k → base ≤ k := fun k hk => (World.ownsRow.lt h1 k hk).1
  have hnl : cs.toList.length = 1 * A.k := by rw [A.len hcs, Nat.one_mul]
  -- what a new block gives
  have big : ∀ (olds : List Value) (n : Nat), n = xs.length → rdAll A w olds xs → ∀ v' w', w'.ownsRow (w.alloc (.cells cs e)).heap.size e A.k v' (n + 1) (olds ++ cs.toList) → (w.alloc (.cells cs e)).grownBy w' none → wpList P ops Q rest (a.put o.dst v') w' := by
    intro olds n hn hr v' w' h3 h4
    have hg : w.grownBy w' none := grown_trans (World.grownBy_alloc w _ _) h4
    have h6 : w'.ownsRow (w.alloc (.cells cs e)).heap.size e A.k v' (xs ++ [y]).length (olds ++ cs.toList) := by rw [List.length_append, ← hn]; exact h3
    have h7 := flat_own hf h6 (rdAll_join A (hf.all hr) ⟨cs.toList, [], by simp, hf.any _ _ _ _ hcs, rfl⟩)
    have hsz : (w.alloc (.cells cs e)).heap.size = w.heap.size + 1 := by simp
    refine h v' w' ((Lay.rows e A).lower h7 (by omega)) (fun ev => ?_) (.inr fun k hk => ?_) (grown_some hg) (below_grown (grown_some hg) hlt hbase)
    · obtain ⟨a', c', hv'⟩ := rows_form ((Lay.rows e A).read h7)
      rw [ev] at hv'
      simp at hv'
    · have := ((Lay.rows e A).blocks h7 k hk).1
      omega
  rcases h1.2 with ⟨hv, h0⟩ | ⟨g, cap, cur, hv, _, _, hcap, _⟩
  · subst hv
    obtain rfl : xs = [] := List.length_eq_zero_iff.1 h0
    exact wpList_append_grows (w.alloc (.cells cs e)) hgd s x t ho e i z A.k bytes ht hi hz hsize hby hzs A.pos none 0 0 [] hs (fun _ => ⟨rfl, rfl⟩) (by simp) (fun b hb => by cases hb) ⟨w.heap.size, 0, none⟩ 1 1 cs.toList hx hnl hnews (A.one hcs) (by omega) (by unfold maxLen; omega) (by simpa using hbyt) (big [] 0 rfl rfl)
  · subst hv
    by_cases hfit : xs.length + 1 ≤ cap
    · refine wpList_append_fits (w.alloc (.cells cs e)) hgd s x t ho base e i A.k ht hi hsize g xs.length cap us hs (World.ownsRow.alloc h1 _) ⟨w.heap.size, 0, none⟩ 1 1 cs.toList hx hnl hnews (A.one hcs) hfit ?_
      intro w' h3 h4
      have hg : w.grownBy w' (some g) := grown_trans (World.grownBy_alloc w _ _) h4
      have h6 : w'.ownsRow base e A.k (.slice (some ⟨g, 0, none⟩) (xs.length + 1) cap) (xs ++ [y]).length (us ++ cs.toList) := by rw [List.length_append]; exact h3
      exact h _ w' (flat_own hf h6 (rdAll_join A (hf.all h2) ⟨cs.toList, [], by simp, hf.any _ _ _ _ hcs, rfl⟩)) (by simp) (.inl rfl) hg (below_grown hg hlt hbase)
    · have hrd := (Lay.rows e A).read hown
      obtain ⟨v2, hv2, hrd⟩ := hrd
      simp only [List.cons.injEq, and_true] at hv2
      subst hv2
      rcases hrd with ⟨_, a', c', hv', _⟩ | ⟨g', off', cap', us', hv', _, hg', hc', hr'⟩
      · simp only [Value.slice.injEq] at hv'
        obtain ⟨rfl, hxl, -⟩ := hv'
        obtain rfl : xs = [] := List.length_eq_zero_iff.1 hxl
        exact wpList_append_grows (w.alloc (.cells cs e)) hgd s x t ho e i z A.k bytes ht hi hz hsize hby hzs A.pos _ 0 cap [] hs (fun e => by cases e) (by simp) (fun b _ j u hj => by simp at hj) ⟨w.heap.size, 0, none⟩ 1 1 cs.toList hx hnl hnews (A.one hcs) (by simp at hfit; omega) (by unfold maxLen; omega) (by simpa using hbyt) (big [] 0 rfl rfl)
      · simp only [Value.slice.injEq, Option.some.injEq, Addr.mk.injEq, and_true, true_and] at hv'
        obtain ⟨⟨rfl, rfl⟩, rfl⟩ := hv'
        refine wpList_append_grows (w.alloc (.cells cs e)) hgd s x t ho e i z A.k bytes ht hi hz hsize hby hzs A.pos _ xs.length cap us' hs (fun e => by cases e) (rdAll_len A hr') (fun b hb j u hj => ?_) ⟨w.heap.size, 0, none⟩ 1 1 cs.toList hx hnl hnews (A.one hcs) (by omega) (by unfold maxLen; omega) hbyt (big us' _ rfl hr')
        cases hb
        have e1 : (⟨g, 0, none⟩ : Addr).add j = ⟨g, j, none⟩ := by unfold Addr.add; split <;> simp_all
        have h9 := hc' j u hj
        rw [Nat.zero_add] at h9
        rw [e1, ((Below.refl w.heap.size w).alloc (Nat.le_refl _) (.cells cs e)).cell (p := ⟨g, j, none⟩) hg']
        exact h9

/-- An append of one, run: the row stays in its block or lies in a new one. -/
theorem run_pushT {α : Type} {P : Program} (W : World) (base : Nat) (t ty e : TypeId) (i : TypeInfo) (z : Value) (bytes : Nat) (A : Lay α) (hf : Flat A) (ht : P.underlying t = some (.slice e)) (hi : P.info? e = some i) (hz : i.zero = some z)
    (hsize : i.size = A.k) (hby : i.bytes = bytes) (hzs : z.cells.size = A.k) (hb1 : bytes ≤ 1000) (v : Value) (f : List Nat) (xs : List α) (hown : (Lay.rows e A).own W base f [v] xs)
    (y : α) (cs : List Value) (hcs : A.rd W cs y) (ad : Addr) (hc : ∀ j u, cs[j]? = some u → W.cell? (ad.add j) = some u) (hlen : xs.length + 1 ≤ 1000000000) (hbase : base ≤ W.heap.size) :
    ∃ v' w', (Builtin.append_ #[t, t] ty #[v, .slice (some ad) 1 1]).run P W = .ok v' w' ∧ (Lay.rows e A).own w' base (blk v') [v'] (xs ++ [y]) ∧ v' ≠ .slice none 0 0 ∧ (blk v' = blk v ∨ ∀ k ∈ blk v', W.heap.size ≤ k) ∧ W.grownBy w' v.ownBlock ∧ Below base W w' := by
  have hbyt : (xs.length + 1) * bytes ≤ 140737488355328 := by
    have h1 : (xs.length + 1) * bytes ≤ 1000000000 * 1000 := Nat.mul_le_mul hlen hb1
    omega
  obtain ⟨us, h1, h2, hff⟩ := flat_inv hf hown
  have hlt : ∀ k, v.ownBlock = some k → base ≤ k := fun k hk => (World.ownsRow.lt h1 k hk).1
  have hnl : cs.length = 1 * A.k := by rw [A.len hcs, Nat.one_mul]
  have big : ∀ (olds : List Value) (n : Nat), n = xs.length → rdAll A W olds xs → ∀ v' w', w'.ownsRow W.heap.size e A.k v' (n + 1) (olds ++ cs) → W.grownBy w' none → (Lay.rows e A).own w' base (blk v') [v'] (xs ++ [y]) ∧ v' ≠ .slice none 0 0 ∧ (blk v' = blk v ∨ ∀ k ∈ blk v', W.heap.size ≤ k) ∧ W.grownBy w' v.ownBlock ∧ Below base W w' := by
    intro olds n hn hr v' w' h3 hg
    have h6 : w'.ownsRow W.heap.size e A.k v' (xs ++ [y]).length (olds ++ cs) := by rw [List.length_append, ← hn]; exact h3
    have h7 := flat_own hf h6 (rdAll_join A (hf.all hr) ⟨cs, [], by simp, hf.any _ _ _ _ hcs, rfl⟩)
    refine ⟨(Lay.rows e A).lower h7 hbase, fun ev => ?_, .inr fun k hk => ((Lay.rows e A).blocks h7 k hk).1, grown_some hg, below_grown (grown_some hg) hlt hbase⟩
    obtain ⟨a', c', hv'⟩ := rows_form ((Lay.rows e A).read h7)
    rw [ev] at hv'
    simp at hv'
  rcases h1.2 with ⟨hv, h0⟩ | ⟨g, cap, cur, hv, _, _, hcap, _⟩
  · subst hv
    obtain rfl : xs = [] := List.length_eq_zero_iff.1 h0
    obtain ⟨v', w', hrun, r1, r2, _⟩ := run_append_own (P := P) W W.heap.size t ty e i z A.k bytes ht hi hz hsize hby hzs A.pos (.slice none 0 0) 0 [] (World.ownsRow_nil W _ e A.k) ad 1 1 cs hnl hc (A.one hcs) (by unfold maxLen; omega) (by simpa using hbyt) (Nat.le_refl _)
    exact ⟨v', w', hrun, big [] 0 rfl rfl v' w' r1 r2⟩
  · subst hv
    by_cases hfit : xs.length + 1 ≤ cap
    · obtain ⟨w', hrun, r1, r2⟩ := run_append_fits (P := P) W base t ty e i A.k ht hi hsize g xs.length cap us h1 ad 1 1 cs hnl hc (A.one hcs) hfit
      have h6 : w'.ownsRow base e A.k (.slice (some ⟨g, 0, none⟩) (xs.length + 1) cap) (xs ++ [y]).length (us ++ cs) := by rw [List.length_append]; exact r1
      exact ⟨_, w', hrun, flat_own hf h6 (rdAll_join A (hf.all h2) ⟨cs, [], by simp, hf.any _ _ _ _ hcs, rfl⟩), by simp, .inl rfl, r2, below_grown r2 hlt hbase⟩
    · have hrd := (Lay.rows e A).read hown
      obtain ⟨v2, hv2, hrd⟩ := hrd
      simp only [List.cons.injEq, and_true] at hv2
      subst hv2
      rcases hrd with ⟨_, a', c', hv', _⟩ | ⟨g', off', cap', us', hv', _, hg', hc', hr'⟩
      · simp only [Value.slice.injEq] at hv'
        obtain ⟨rfl, hxl, -⟩ := hv'
        obtain rfl : xs = [] := List.length_eq_zero_iff.1 hxl
        obtain ⟨v', w', hrun, r1, r2⟩ := run_append_arg_grows (P := P) W t ty e i z A.k bytes ht hi hz hsize hby hzs A.pos ⟨g, 0, none⟩ 0 cap [] (by simp) (fun j u hj => by simp at hj) ad 1 1 cs hnl hc (by simp at hfit; omega) (by unfold maxLen; omega) (by simpa using hbyt)
        exact ⟨v', w', hrun, big [] 0 rfl rfl v' w' r1 r2⟩
      · simp only [Value.slice.injEq, Option.some.injEq, Addr.mk.injEq, and_true, true_and] at hv'
        obtain ⟨⟨rfl, rfl⟩, rfl⟩ := hv'
        obtain ⟨v', w', hrun, r1, r2⟩ := run_append_arg_grows (P := P) W t ty e i z A.k bytes ht hi hz hsize hby hzs A.pos ⟨g, 0, none⟩ xs.length cap us' (rdAll_len A hr') (fun j u hj => by
          have e1 : (⟨g, 0, none⟩ : Addr).add j = ⟨g, j, none⟩ := by unfold Addr.add; split <;> simp_all
          have h9 := hc' j u hj
          rw [Nat.zero_add] at h9
          rw [e1]
          exact h9) ad 1 1 cs hnl hc (by omega) (by unfold maxLen; omega) hbyt
        exact ⟨v', w', hrun, big us' _ rfl hr' v' w' r1 r2⟩
/-- 'out = append(out, x)' as a step of a region that draws its order, told whether the row stays in its block. -/
theorem step_pushT {α : Type} {P : Program} {ops : Array Oper} {o : Oper} {a : Act} {W : World} {K : Act → World → Prop} {Q : Exit → Act → World → Prop} {E : Prop}
    (hg : o.guard = none) (s x : Operand) (t : TypeId) (hop : o.op = Op.call { callee := Callee.builtin Builtin.append, args := #[s, x], argTypes := #[t, t] })
    (base : Nat) (e : TypeId) (i : TypeInfo) (z : Value) (bytes : Nat) (A : Lay α) (hf : Flat A) (ht : P.underlying t = some (.slice e)) (hi : P.info? e = some i) (hz : i.zero = some z)
    (hsize : i.size = A.k) (hby : i.bytes = bytes) (hzs : z.cells.size = A.k) (hb1 : bytes ≤ 1000) (v : Value) (f : List Nat) (xs : List α) (hs : a.eval s = v) (hown : (Lay.rows e A).own W base f [v] xs)
    (y : α) (cs : List Value) (hcs : A.rd W cs y) (ad : Addr) (hx : a.eval x = .slice (some ad) 1 1) (hc : ∀ j u, cs[j]? = some u → W.cell? (ad.add j) = some u)
    (hlen : xs.length + 1 ≤ 1000000000) (hbase : base ≤ W.heap.size)
    (hK : ∀ v' w', (Lay.rows e A).own w' base (blk v') [v'] (xs ++ [y]) → v' ≠ .slice none 0 0 → (blk v' = blk v ∨ ∀ k ∈ blk v', W.heap.size ≤ k) → W.grownBy w' v.ownBlock → Below base W w' → K (a.put o.dst v') w') :
    if Region.wanted o (yielded ops a.tmps) = true then Oper.wp P o a W K Q else E := by
  have hw : Region.wanted o (yielded ops a.tmps) = true := by simp [Region.wanted, hg]
  rw [if_pos hw]
  obtain ⟨v', w', hrun, r1, r2, r3, r4, r5⟩ := run_pushT (P := P) W base t o.type e i z bytes A hf ht hi hz hsize hby hzs hb1 v f xs hown y cs hcs ad hc hlen hbase
  unfold Oper.wp
  simp [execOp, hop, resolve, invoke, builtin, hs, hx, hrun, Result.andThen]
  exact hK v' w' r1 r2 r3 r4 r5

end Go.Proofs.Ytogninaejehinaw
