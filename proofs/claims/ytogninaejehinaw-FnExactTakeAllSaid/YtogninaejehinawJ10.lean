/-
  Rows of flat data of the call's own: appended to, copied, written into; no program is spoken of here.
-/
import Derived.Test.YtogninaejehinawJ07
import Derived.Laws.AppendOwnNone
namespace Go.Proofs.Ytogninaejehinaw
open Go.RowKit

section
variable {α : Type}

/-- Data without rows within. -/
structure Flat (A : Lay α) : Prop where
  own : ∀ (w : World) (b : Nat) (c : List Value) (x : α), A.rd w c x → A.own w b [] c x
  none : ∀ (w : World) (b : Nat) (f : List Nat) (c : List Value) (x : α), A.own w b f c x → f = []
  any : ∀ (w w' : World) (c : List Value) (x : α), A.rd w c x → A.rd w' c x
theorem Flat.all {A : Lay α} (hf : Flat A) {w w' : World} : ∀ {us : List Value} {xs : List α}, rdAll A w us xs → rdAll A w' us xs
  | _, [], h => h
  | _, _ :: _, h => by
    obtain ⟨c, us', rfl, h1, h2⟩ := h
    exact ⟨c, us', rfl, hf.any _ _ _ _ h1, hf.all h2⟩
theorem Flat.ownAll {A : Lay α} (hf : Flat A) {w : World} {b : Nat} : ∀ {us : List Value} {xs : List α}, rdAll A w us xs → ownAll A w b [] us xs
  | _, [], h => ⟨rfl, h⟩
  | _, _ :: _, h => by
    obtain ⟨c, us', rfl, h1, h2⟩ := h
    exact ⟨[], [], c, us', rfl, rfl, hf.own _ _ _ _ h1, hf.ownAll h2⟩
theorem Flat.noAll {A : Lay α} (hf : Flat A) {w : World} {b : Nat} : ∀ {f : List Nat} {us : List Value} {xs : List α}, Go.Proofs.Ytogninaejehinaw.ownAll A w b f us xs → f = []
  | _, _, [], h => h.1
  | _, _, _ :: _, h => by
    obtain ⟨f, g, c, us', rfl, rfl, h1, h2⟩ := h
    rw [hf.none _ _ _ _ _ h1, hf.noAll h2]
    rfl
theorem rdAll_join (A : Lay α) {w : World} : ∀ {u1 u2 : List Value} {X Y : List α}, rdAll A w u1 X → rdAll A w u2 Y → rdAll A w (u1 ++ u2) (X ++ Y)
  | u1, u2, [], Y, h, h2 => by rw [show u1 = [] from h]; exact h2
  | u1, u2, x :: X, Y, h, h2 => by
    obtain ⟨c, us', rfl, i1, i2⟩ := h
    exact ⟨c, us' ++ u2, by rw [List.append_assoc], i1, rdAll_join A i2 h2⟩
/-- The blocks of a flat row. -/
def blk (v : Value) : List Nat := v.ownBlock.toList
theorem blk_dup (v : Value) : (blk v).Nodup := by unfold blk; cases v.ownBlock <;> simp
theorem flat_own {e : TypeId} {A : Lay α} (hf : Flat A) {w : World} {b : Nat} {v : Value} {us : List Value} {xs : List α} (h : w.ownsRow b e A.k v xs.length us) (hr : rdAll A w us xs) : (Lay.rows e A).own w b (blk v) [v] xs := by
  refine ⟨v, rfl, ?_⟩
  rcases h.2 with ⟨rfl, h0⟩ | ⟨g, cap, cur, rfl, _⟩
  · exact .inl ⟨rfl, List.length_eq_zero_iff.1 h0, rfl⟩
  · exact .inr ⟨g, cap, us, [], rfl, rfl, h, hf.ownAll hr⟩
theorem flat_inv {e : TypeId} {A : Lay α} (hf : Flat A) {w : World} {b : Nat} {f : List Nat} {v : Value} {xs : List α} (h : (Lay.rows e A).own w b f [v] xs) : ∃ us, w.ownsRow b e A.k v xs.length us ∧ rdAll A w us xs ∧ f = blk v := by
  obtain ⟨v', hv, h⟩ := h
  obtain rfl : v = v' := by simpa using hv
  rcases h with ⟨rfl, rfl, rfl⟩ | ⟨g, cap, us, fq, rfl, rfl, h1, h2⟩
  · exact ⟨[], ⟨by simp, .inl ⟨rfl, rfl⟩⟩, rfl, rfl⟩
  · refine ⟨us, h1, ownAll_rd A h2, ?_⟩
    rw [hf.noAll h2]
    rfl
theorem flat_some {e : TypeId} {A : Lay α} (hf : Flat A) {w : World} {b : Nat} {f : List Nat} {v : Value} {xs : List α} (h : (Lay.rows e A).own w b f [v] xs) (hv : v ≠ .slice none 0 0) : ∃ g cap, v = .slice (some ⟨g, 0, none⟩) xs.length cap ∧ f = [g] ∧ b ≤ g ∧ g < w.heap.size := by
  obtain ⟨us, h1, _, rfl⟩ := flat_inv hf h
  rcases h1.2 with ⟨h, _⟩ | ⟨g, cap, cur, rfl, hb, hh, _⟩
  · exact absurd h hv
  · exact ⟨g, cap, rfl, rfl, hb, lt_of_block hh⟩
/-- A fresh empty row. -/
theorem flat_lit {e : TypeId} {A : Lay α} (w : World) (b : Nat) (hb : b ≤ w.heap.size) : (Lay.rows e A).own (w.alloc (.cells #[] e)) b [w.heap.size] [.slice (some ⟨w.heap.size, 0, none⟩) 0 0] [] :=
  ⟨_, rfl, .inr ⟨w.heap.size, 0, [], [], rfl, rfl, World.ownsRow_lit w #[] 0 hb (by decide) (by simp), rfl, rfl⟩⟩

/-- 'append(out, list...)': out a flat row of the call's own, list one that can be read. -/
theorem wpList_copyF {P : Program} (w : World) {ops : Array Oper} {rest : List Oper} {o : Oper} {a : Act} {Q : Exit → Act → World → Prop} (hgd : o.guard = none) (s x : Operand) (t : TypeId)
    (ho : o.op = .call { callee := .builtin .append, args := #[s, x], argTypes := #[t, t] })
    (base : Nat) (e : TypeId) (i : TypeInfo) (z : Value) (bytes : Nat) (A : Lay α) (hf : Flat A) (ht : P.underlying t = some (.slice e)) (hi : P.info? e = some i) (hz : i.zero = some z)
    (hsize : i.size = A.k) (hby : i.bytes = bytes) (hzs : z.cells.size = A.k) (hb1 : bytes ≤ 1000) (v : Value) (f : List Nat) (xs : List α) (hs : a.eval s = v) (hown : (Lay.rows e A).own w base f [v] xs) (hv0 : v ≠ .slice none 0 0)
    (u : Value) (ys : List α) (hx : a.eval x = u) (hys : (Lay.rows e A).rd w [u] ys)
    (hlen : xs.length + ys.length ≤ 1000000000) (hbase : base ≤ w.heap.size)
    (h : ∀ v' w', (Lay.rows e A).own w' base (blk v') [v'] (xs ++ ys) → v' ≠ .slice none 0 0 → w.grownBy w' v.ownBlock → Below base w w' → wpList P ops Q rest (a.put o.dst v') w') :
    wpList P ops Q (o :: rest) a w := by
  obtain ⟨us, h1, h2, rfl⟩ := flat_inv hf hown
  obtain ⟨u', hu, hys⟩ := hys
  obtain rfl : u = u' := by simpa using hu
  have hlt : ∀ k, v.ownBlock = some k → base ≤ k := fun k hk => (World.ownsRow.lt h1 k hk).1
  rcases hys with ⟨rfl, a', cap, rfl, hcap⟩ | ⟨g, off, cap, vs, rfl, _, hg, hc, hr⟩
  · cases a' with
    | none =>
      rw [hcap rfl] at hx
      refine wpList_append_own_none hgd s x t ho base e i A.k ht hi v xs.length us hs h1 hx ?_
      rw [List.append_nil] at h
      exact h v w (flat_own hf h1 h2) hv0 (World.grownBy.refl _ _) (Below.refl _ _)
    | some ad =>
      refine wpList_append_own w hgd s x t ho base e i z A.k bytes ht hi hz hsize hby hzs A.pos v xs.length us hs h1 ad 0 cap [] hx (by simp) (by simp) (by simp) (by unfold maxLen; simp at hlen; omega) (by have h1 : xs.length * bytes ≤ 1000000000 * 1000 := Nat.mul_le_mul (by simp at hlen; omega) hb1; simp; omega) hbase ?_
      intro v' w' h3 h4 h5
      refine h v' w' ?_ (fun e => hv0 (h5.1 e).1) h4 (below_grown h4 hlt hbase)
      rw [List.append_nil] at h3 ⊢
      exact flat_own hf h3 (hf.all h2)
  · refine wpList_append_own w hgd s x t ho base e i z A.k bytes ht hi hz hsize hby hzs A.pos v xs.length us hs h1 ⟨g, off, none⟩ ys.length cap vs hx (rdAll_len A hr) ?_ (rdAll_one A hr) (by unfold maxLen; omega) (by have h1 : (xs.length + ys.length) * bytes ≤ 1000000000 * 1000 := Nat.mul_le_mul hlen hb1; omega) hbase ?_
    · intro j q hj
      have e1 : (⟨g, off, none⟩ : Addr).add j = ⟨g, off + j, none⟩ := by unfold Addr.add; split <;> simp_all
      rw [e1]
      exact hc j q hj
    · intro v' w' h3 h4 h5
      refine h v' w' ?_ (fun e => hv0 (h5.1 e).1) h4 (below_grown h4 hlt hbase)
      have h6 : w'.ownsRow base e A.k v' (xs ++ ys).length (us ++ vs) := by rw [List.length_append]; exact h3
      exact flat_own hf h6 (rdAll_join A (hf.all h2) (hf.all hr))

/-- 'out = append(out, x)': out a flat row of the call's own. -/
theorem wpList_pushF {P : Program} (w : World) {ops : Array Oper} {rest : List Oper} {o : Oper} {a : Act} {Q : Exit → Act → World → Prop} (hgd : o.guard = none) (s x : Operand) (t : TypeId)
    (ho : o.op = .call { callee := .builtin .append, args := #[s, x], argTypes := #[t, t] })
    (base : Nat) (e : TypeId) (i : TypeInfo) (z : Value) (bytes : Nat) (A : Lay α) (hf : Flat A) (ht : P.underlying t = some (.slice e)) (hi : P.info? e = some i) (hz : i.zero = some z)
    (hsize : i.size = A.k) (hby : i.bytes = bytes) (hzs : z.cells.size = A.k) (hb1 : bytes ≤ 1000) (v : Value) (f : List Nat) (xs : List α) (hs : a.eval s = v) (hown : (Lay.rows e A).own w base f [v] xs)
    (y : α) (cs : Array Value) (hcs : A.rd w cs.toList y) (hx : a.eval x = .slice (some ⟨w.heap.size, 0, none⟩) 1 1)
    (hlen : xs.length + 1 ≤ 1000000000) (hbase : base ≤ w.heap.size)
    (h : ∀ v' w', (Lay.rows e A).own w' base (blk v') [v'] (xs ++ [y]) → v' ≠ .slice none 0 0 → w.grownBy w' v.ownBlock → Below base w w' → wpList P ops Q rest (a.put o.dst v') w') :
    wpList P ops Q (o :: rest) a (w.alloc (.cells cs e)) := by
  obtain ⟨us, h1, h2, rfl⟩ := flat_inv hf hown
  have hlt : ∀ k, v.ownBlock = some k → base ≤ k := fun k hk => (World.ownsRow.lt h1 k hk).1
  refine wpList_append_own (w.alloc (.cells cs e)) hgd s x t ho base e i z A.k bytes ht hi hz hsize hby hzs A.pos v xs.length us hs (World.ownsRow.alloc h1 _) ⟨w.heap.size, 0, none⟩ 1 1 cs.toList hx (by rw [A.len hcs, Nat.one_mul]) ?_ (A.one hcs) (by unfold maxLen; omega) ?_ (by simp; omega) ?_
  · intro j u hj
    have e1 : (⟨w.heap.size, 0, none⟩ : Addr).add j = ⟨w.heap.size, j, none⟩ := by unfold Addr.add; split <;> simp_all
    rw [e1, cell_of_row (w.alloc (.cells cs e)) w.heap.size j cs e (0, 0) (heap_alloc_new w _)]
    simpa using hj
  · have h1 : (xs.length + 1) * bytes ≤ 1000000000 * 1000 := Nat.mul_le_mul hlen hb1
    omega
  · intro v' w' h3 h4 h5
    have hg : w.grownBy w' v.ownBlock := grown_trans (World.grownBy_alloc w _ _) h4
    refine h v' w' ?_ (fun e => by have := (h5.1 e).2; omega) hg (below_grown hg hlt hbase)
    have h6 : w'.ownsRow base e A.k v' (xs ++ [y]).length (us ++ cs.toList) := by rw [List.length_append]; exact h3
    exact flat_own hf h6 (rdAll_join A (hf.all h2) ⟨cs.toList, [], by simp, hf.any _ _ _ _ hcs, rfl⟩)
/-- One element of a flat row of the call's own: its cells, and what becomes of it when some are written. -/
theorem flat_at {e : TypeId} {A : Lay α} (hf : Flat A) {w : World} {b : Nat} {f : List Nat} {v : Value} {xs : List α} (h : (Lay.rows e A).own w b f [v] xs) (j : Nat) (x : α) (hx : xs[j]? = some x) :
    ∃ g cap c, v = .slice (some ⟨g, 0, none⟩) xs.length cap ∧ f = [g] ∧ b ≤ g ∧ g < w.heap.size ∧ A.rd w c x ∧ (∀ t u, c[t]? = some u → w.cell? ⟨g, j * A.k + t, none⟩ = some u ∧ w.frozen? ⟨g, j * A.k + t, none⟩ = false) ∧
      ∀ (vs : List Value) (t : Nat) (y : α), t + vs.length ≤ A.k → A.rd w (setL c t vs) y → (Lay.rows e A).own (setCells w g (j * A.k + t) vs) b f [v] (xs.set j y) ∧ Chg [g] w (setCells w g (j * A.k + t) vs) := by
  have hj : j < xs.length := (List.getElem?_eq_some_iff.1 hx).1
  have hxj : xs[j] = x := (List.getElem?_eq_some_iff.1 hx).2
  have e0 : xs = xs.take j ++ x :: xs.drop (j + 1) := by rw [← hxj, List.getElem_cons_drop, List.take_append_drop]
  have hl : (xs.take j ++ x :: xs.drop (j + 1)).length = xs.length := by rw [← e0]
  have h2 := h
  rw [e0] at h2
  have hfd : f.Nodup := by
    obtain ⟨us, _, _, rfl⟩ := flat_inv hf h
    exact blk_dup v
  obtain ⟨g, cap, f1, f2, f3, u1, c, u3, hv, rfl, Z⟩ := rows_open h2 hfd
  rw [hl] at hv
  have n1 := hf.noAll Z.left
  have n2 := hf.none _ _ _ _ _ Z.mid
  have n3 := hf.noAll Z.right
  subst n1 n2 n3
  have hjl : (xs.take j).length = j := by rw [List.length_take]; omega
  have hcl := A.len (A.read Z.mid)
  have hcell := fun t u hu => Z.cell t u hu
  rw [hjl] at hcell
  refine ⟨g, cap, c, hv, rfl, Z.lt.1, Z.lt.2, A.read Z.mid, hcell, fun vs t y ht hy => ?_⟩
  have hs := Z.store vs t (by omega) [] y (hf.own _ _ _ _ hy) Z.dup
  rw [hjl] at hs
  refine ⟨?_, hs.2⟩
  have es : xs.set j y = xs.take j ++ y :: xs.drop (j + 1) := by rw [List.set_eq_take_append_cons_drop, if_pos hj]
  have h3 := hs.1.shut
  have e4 : (xs.take j ++ y :: xs.drop (j + 1)).length = xs.length := by rw [← es, List.length_set]
  rw [e4] at h3
  rw [es, hv]
  exact h3

end
end Go.Proofs.Ytogninaejehinaw
