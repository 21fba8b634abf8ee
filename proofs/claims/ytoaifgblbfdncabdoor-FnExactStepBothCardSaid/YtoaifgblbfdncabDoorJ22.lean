/-
  Rows of words of 32 bits in memory; no program is spoken of here.
-/
import Derived.Test.YtoaifgblbfdncabDoorJ01
namespace Go.Proofs.YtoaifgblbfdncabDoor
open Go.RowKit

/-- The cells of words. -/
def wcells (xs : List Nat) : List Value := xs.map fun (x : Nat) => Value.int .u32 (x : Int)
theorem wcells_length (xs : List Nat) : (wcells xs).length = xs.length := by simp [wcells]
theorem wcells_at (xs : List Nat) (j : Nat) (h : j < xs.length) : (wcells xs)[j]? = some (.int .u32 (xs.getD j 0 : Nat)) := by
  unfold wcells
  rw [List.getElem?_map, List.getD_eq_getElem?_getD, List.getElem?_eq_getElem h]
  rfl
theorem wcells_append (xs ys : List Nat) : wcells (xs ++ ys) = wcells xs ++ wcells ys := by unfold wcells; rw [List.map_append]

/-- The slice value v is nil or the call's own (from block 'base' on), and holds these words. -/
def OwnW (w : World) (base : Nat) (e : TypeId) (v : Value) (xs : List Nat) : Prop := w.ownsRow base e 1 v xs.length (wcells xs)

theorem OwnW.lit (w : World) (base : Nat) (e : TypeId) (hb : base ≤ w.heap.size) : OwnW (w.alloc (.cells #[] e)) base e (.slice (some ⟨w.heap.size, 0, none⟩) 0 0) [] :=
  World.ownsRow_lit w #[] 0 hb (by decide) rfl
theorem OwnW.alloc {w : World} {base : Nat} {e : TypeId} {v : Value} {xs : List Nat} (h : OwnW w base e v xs) (o : Obj) : OwnW (w.alloc o) base e v xs := World.ownsRow.alloc h o
theorem OwnW.drew {w : World} {base : Nat} {e : TypeId} {v : Value} {xs : List Nat} (h : OwnW w base e v xs) : OwnW w.drew base e v xs := World.ownsRow.drew h
theorem OwnW.drewN {w : World} {base : Nat} {e : TypeId} {v : Value} {xs : List Nat} (h : OwnW w base e v xs) (n : Nat) : OwnW (w.drewN n) base e v xs := h
theorem OwnW.below {w w' : World} {base : Nat} {e : TypeId} {v : Value} {xs : List Nat} (h : OwnW w base e v xs) (hb : Below w.heap.size w w') : OwnW w' base e v xs := by
  refine ⟨h.1, ?_⟩
  rcases h.2 with hn | ⟨g, cap, cur, hv, hb', hg, rest⟩
  · exact .inl hn
  · exact .inr ⟨g, cap, cur, hv, hb', by rw [hb.block g (lt_of_block hg)]; exact hg, rest⟩
theorem OwnW.mono {w : World} {base base' : Nat} {e : TypeId} {v : Value} {xs : List Nat} (h : OwnW w base e v xs) (hb : base' ≤ base) : OwnW w base' e v xs := by
  refine ⟨h.1, ?_⟩
  rcases h.2 with hn | ⟨g, cap, cur, hv, hb', rest⟩
  · exact .inl hn
  · exact .inr ⟨g, cap, cur, hv, by omega, rest⟩
theorem OwnW.form {w : World} {base : Nat} {e : TypeId} {v : Value} {xs : List Nat} (h : OwnW w base e v xs) (h0 : 0 < xs.length) : ∃ g cap, v = .slice (some ⟨g, 0, none⟩) xs.length cap ∧ base ≤ g ∧ g < w.heap.size ∧
    ∀ j, j < xs.length → w.cell? ⟨g, j, none⟩ = some (.int .u32 (xs.getD j 0 : Nat)) := by
  have h' : w.ownsRow base e 1 v xs.length (wcells xs) := h
  rcases h'.2 with ⟨rfl, hz⟩ | ⟨g, cap, cur, rfl, hb, hh, _, _, _, _⟩
  · omega
  · refine ⟨g, cap, rfl, hb, lt_of_block hh, fun j hj => ?_⟩
    rw [h'.cellAt j (by omega), wcells_at xs j hj]
theorem OwnW.cell {w : World} {base g cap n : Nat} {e : TypeId} {xs : List Nat} (h : OwnW w base e (.slice (some ⟨g, 0, none⟩) n cap) xs) (hn : xs.length = n) (j : Nat) (hj : j < n) : w.cell? ⟨g, j, none⟩ = some (.int .u32 (xs.getD j 0 : Nat)) := by
  subst hn
  have h' : w.ownsRow base e 1 (.slice (some ⟨g, 0, none⟩) xs.length cap) xs.length (wcells xs) := h
  rw [h'.cellAt j (by omega), wcells_at xs j hj]
theorem OwnW.free {w : World} {base g cap n : Nat} {e : TypeId} {xs : List Nat} (h : OwnW w base e (.slice (some ⟨g, 0, none⟩) n cap) xs) (hn : xs.length = n) (j : Nat) : w.frozen? ⟨g, j, none⟩ = false := by
  subst hn
  exact World.ownsRow.frozenAt (base := base) (e := e) (size := 1) (xs := wcells xs) (n := xs.length) (cap := cap) h j
theorem OwnW.set {w : World} {base g cap n : Nat} {e : TypeId} {xs : List Nat} (h : OwnW w base e (.slice (some ⟨g, 0, none⟩) n cap) xs) (hn : xs.length = n) (j x : Nat) :
    OwnW (w.setCell ⟨g, j, none⟩ (.int .u32 (x : Int))) base e (.slice (some ⟨g, 0, none⟩) n cap) (xs.set j x) := by
  subst hn
  have h' : w.ownsRow base e 1 (.slice (some ⟨g, 0, none⟩) xs.length cap) xs.length (wcells xs) := h
  have := (h'.stored j (.int .u32 (x : Int))).1
  unfold OwnW
  rw [List.length_set]
  have e1 : wcells (xs.set j x) = (wcells xs).set j (.int .u32 (x : Int)) := by unfold wcells; rw [List.map_set]
  rw [e1]
  exact this

theorem push_cellsW (w : World) (e : TypeId) (z : Nat) :
    ∀ j u, [Value.int .u32 (z : Int)][j]? = some u → (w.alloc (.cells #[.int .u32 (z : Int)] e)).cell? ((⟨w.heap.size, 0, none⟩ : Addr).add j) = some u := by
  intro j u hj
  match j, hj with
  | 0, hj => simp at hj; subst hj; simp [Addr.add]

/-- 'out = append(out, x)': out a row of words of the call's own. -/
theorem wpList_pushW {P : Program} (w : World) {ops : Array Oper} {rest : List Oper} {o : Oper} {a : Act} {Q : Exit → Act → World → Prop} (hgd : o.guard = none) (s x : Operand) (t : TypeId)
    (ho : o.op = .call { callee := .builtin .append, args := #[s, x], argTypes := #[t, t] })
    (base : Nat) (e : TypeId) (i : TypeInfo) (ht : P.underlying t = some (.slice e)) (hi : P.info? e = some i) (hz : i.zero = some (.int .u32 0))
    (hsize : i.size = 1) (hby : i.bytes = 4) (v : Value) (xs : List Nat) (hs : a.eval s = v) (hown : OwnW w base e v xs)
    (z : Nat) (y : Int) (hx : a.eval x = .slice (some ⟨w.heap.size, 0, none⟩) 1 1) (hy : y = (z : Int))
    (hlen : xs.length + 1 ≤ 1000000000) (hbase : base ≤ w.heap.size)
    (h : ∀ v' w', OwnW w' base e v' (xs ++ [z]) → Below base w w' → wpList P ops Q rest (a.put o.dst v') w') :
    wpList P ops Q (o :: rest) a (w.alloc (.cells #[.int .u32 y] e)) := by
  subst hy
  refine wpList_append_own (w.alloc (.cells #[.int .u32 (z : Int)] e)) hgd s x t ho base e i (.int .u32 0) 1 4 ht hi hz hsize hby rfl (by decide) v xs.length (wcells xs) hs (World.ownsRow.alloc hown _) ⟨w.heap.size, 0, none⟩ 1 1 [.int .u32 (z : Int)] hx rfl (push_cellsW w e z) (by intro u hu; simp at hu; subst hu; rfl) (by unfold maxLen; omega) (by omega) (by simp; omega) ?_
  intro v' w' h1 h2 _
  refine h v' w' ?_ ?_
  · unfold OwnW
    rw [List.length_append, wcells_append]
    exact h1
  · exact ((Below.refl base w).alloc hbase _).grown h2 (by simp; omega) (fun k hk => (World.ownsRow.lt hown k hk).1)

/-- 'append' onto a row of one's own: the cells of the old row stay, in place or not. -/
theorem run_append_keeps {P : Program} (w : World) (base : Nat) (t ty e : TypeId) (i : TypeInfo) (z : Value) (bytes : Nat) (ht : P.underlying t = some (.slice e)) (hi : P.info? e = some i) (hz : i.zero = some z)
    (hsize : i.size = 1) (hby : i.bytes = bytes) (hzs : z.cells.size = 1)
    (g cap n : Nat) (xs : List Value) (hown : w.ownsRow base e 1 (.slice (some ⟨g, 0, none⟩) n cap) n xs)
    (a : Addr) (m c : Nat) (news : List Value) (hl : news.length = m) (hnews : ∀ j u, news[j]? = some u → w.cell? (a.add j) = some u) (h1 : ∀ u ∈ news, u.oneCell' = true)
    (h63 : n + m ≤ maxLen) (hbytes : (n + m) * bytes ≤ 140737488355328) (hbase : base ≤ w.heap.size) :
    ∃ v' w', (Builtin.append_ #[t, t] ty #[.slice (some ⟨g, 0, none⟩) n cap, .slice (some a) m c]).run P w = .ok v' w' ∧ w'.ownsRow base e 1 v' (n + m) (xs ++ news) ∧ w.grownBy w' (some g) ∧
      w'.ownsRow base e 1 (.slice (some ⟨g, 0, none⟩) n cap) n xs := by
  have hl' : news.length = m * 1 := by omega
  obtain ⟨v', w', hr, h2, h3, _⟩ := run_append_own (P := P) w base t ty e i z 1 bytes ht hi hz hsize hby hzs (by decide) (.slice (some ⟨g, 0, none⟩) n cap) n xs hown a m c news hl' hnews h1 h63 hbytes hbase
  refine ⟨v', w', hr, h2, h3, ?_⟩
  have hsmall : n + m ≤ 9223372036854775807 := by simp only [maxLen] at h63; omega
  have hx : xs.length = n := by have := hown.1; omega
  rcases hown.2 with ⟨h', _⟩ | ⟨g', cap', cur, h', hbg, hg, hnc, hcm, hcs, htake⟩
  · simp at h'
  · simp only [Value.slice.injEq, Option.some.injEq, Addr.mk.injEq, and_true, true_and] at h'
    obtain ⟨rfl, rfl⟩ := h'
    by_cases hroom : n + m ≤ cap
    · have hfit : n * i.size + news.length ≤ cur.size := by rw [hsize, hcs]; omega
      have hr2 := run_append_room (P := P) w t ty e i ht hi g n cap cur hg a m c news (by rw [hsize]; exact hl') hnews h1 hroom hfit
      have hv : v' = .slice (some ⟨g, 0, none⟩) (n + m) cap := by
        have := hr.symm.trans hr2
        injection this
      subst hv
      rcases h2.2 with ⟨h', _⟩ | ⟨g2, cap2, cur2, h', hbg2, hg2, hnc2, hcm2, hcs2, htake2⟩
      · simp at h'
      · simp only [Value.slice.injEq, Option.some.injEq, Addr.mk.injEq, and_true, true_and] at h'
        obtain ⟨rfl, rfl⟩ := h'
        refine ⟨hown.1, .inr ⟨g, cap, cur2, rfl, hbg, hg2, hnc, hcm, hcs2, ?_⟩⟩
        have h5 := congrArg (List.take n) htake2
        rw [List.take_take, List.take_append_of_le_length (by omega), List.take_of_length_le (l := xs) (by omega)] at h5
        rw [Nat.mul_one, ← h5]
        congr 1
        omega
    · have holds : ∀ j u, xs[j]? = some u → w.cell? ((⟨g, 0, none⟩ : Addr).add j) = some u := hown.cells (g := g) rfl
      have hr2 := run_append_grow (P := P) w t ty e i z ht hi hz ⟨g, 0, none⟩ n cap xs (by rw [hsize]; omega) holds a m c news (by rw [hsize]; exact hl') hnews (by omega) (by omega) (growslice_fits (by omega) (by rw [hby]; exact hbytes))
      have hw := hr.symm.trans hr2
      injection hw with _ hw
      subst hw
      have hlt : g < w.heap.size := lt_of_block hg
      refine ⟨hown.1, .inr ⟨g, cap, cur, rfl, hbg, ?_, hnc, hcm, hcs, htake⟩⟩
      rw [heap_alloc_old w.drew _ hlt]
      exact hg

/-- The same as a step of a region that draws its order; the old row stays. -/
theorem step_pushWat {P : Program} {ops : Array Oper} {o : Oper} {a : Act} {W : World} {K : Act → World → Prop} {Q : Exit → Act → World → Prop} {E : Prop}
    (hg : o.guard = none) (s x : Operand) (t : TypeId) (hop : o.op = Op.call { callee := Callee.builtin Builtin.append, args := #[s, x], argTypes := #[t, t] })
    (base : Nat) (e : TypeId) (i : TypeInfo) (ht : P.underlying t = some (.slice e)) (hi : P.info? e = some i) (hz : i.zero = some (.int .u32 0))
    (hsize : i.size = 1) (hby : i.bytes = 4) (g cap n : Nat) (xs : List Nat) (hs : a.eval s = .slice (some ⟨g, 0, none⟩) n cap) (hn : xs.length = n) (hown : OwnW W base e (.slice (some ⟨g, 0, none⟩) n cap) xs)
    (z : Nat) (ad : Addr) (hx : a.eval x = .slice (some ad) 1 1) (hc : ∀ j u, [Value.int .u32 (z : Int)][j]? = some u → W.cell? (ad.add j) = some u)
    (hlen : n + 1 ≤ 1000000000) (hbase : base ≤ W.heap.size)
    (hK : ∀ v' w', OwnW w' base e v' (xs ++ [z]) → Below base W w' → OwnW w' base e (.slice (some ⟨g, 0, none⟩) n cap) xs → K (a.put o.dst v') w') :
    if Region.wanted o (yielded ops a.tmps) = true then Oper.wp P o a W K Q else E := by
  subst hn
  have hw : Region.wanted o (yielded ops a.tmps) = true := by simp [Region.wanted, hg]
  rw [if_pos hw]
  obtain ⟨v', w', hrun, r1, r2, r3⟩ := run_append_keeps (P := P) W base t o.type e i (.int .u32 0) 4 ht hi hz hsize hby rfl g cap xs.length (wcells xs) hown ad 1 1 [.int .u32 (z : Int)] rfl hc
    (by intro u hu; simp at hu; subst hu; rfl) (by unfold maxLen; omega) (by omega) hbase
  unfold Oper.wp
  simp [execOp, hop, resolve, invoke, builtin, hs, hx, hrun, Result.andThen]
  refine hK v' w' ?_ ?_ r3
  · unfold OwnW
    rw [List.length_append, wcells_append]
    exact r1
  · exact (Below.refl base W).grown r2 hbase (fun k hk => by cases hk; exact (World.ownsRow.lt hown _ rfl).1)

/-- Behind the word that the statement itself has laid. -/
theorem step_pushW {P : Program} {ops : Array Oper} {o : Oper} {a : Act} {w : World} {K : Act → World → Prop} {Q : Exit → Act → World → Prop} {E : Prop}
    (hg : o.guard = none) (s x : Operand) (t : TypeId) (hop : o.op = Op.call { callee := Callee.builtin Builtin.append, args := #[s, x], argTypes := #[t, t] })
    (base : Nat) (e : TypeId) (i : TypeInfo) (ht : P.underlying t = some (.slice e)) (hi : P.info? e = some i) (hz : i.zero = some (.int .u32 0))
    (hsize : i.size = 1) (hby : i.bytes = 4) (g cap n : Nat) (xs : List Nat) (hs : a.eval s = .slice (some ⟨g, 0, none⟩) n cap) (hn : xs.length = n) (hown : OwnW w base e (.slice (some ⟨g, 0, none⟩) n cap) xs)
    (z : Nat) (y : Int) (hx : a.eval x = .slice (some ⟨w.heap.size, 0, none⟩) 1 1) (hy : y = (z : Int))
    (hlen : n + 1 ≤ 1000000000) (hbase : base ≤ w.heap.size)
    (hK : ∀ v' w', OwnW w' base e v' (xs ++ [z]) → Below base w w' → OwnW w' base e (.slice (some ⟨g, 0, none⟩) n cap) xs → K (a.put o.dst v') w') :
    if Region.wanted o (yielded ops a.tmps) = true then Oper.wp P o a (w.alloc (.cells #[.int .u32 y] e)) K Q else E := by
  subst hy
  exact step_pushWat hg s x t hop base e i ht hi hz hsize hby g cap n xs hs hn (hown.alloc _) z ⟨w.heap.size, 0, none⟩ hx (fun j u hj => push_cellsW w e z j u hj) hlen (by simp; omega) fun v' w' h1 h2 h3 => hK v' w' h1 (((Below.refl base w).alloc hbase _).trans h2) h3

/-- Behind the word that the statement itself has laid, where nothing was called. -/
theorem step_pushWd {P : Program} {ops : Array Oper} {o : Oper} {a : Act} {w : World} {K : Act → World → Prop} {Q : Exit → Act → World → Prop} {E : Prop}
    (hg : o.guard = none) (s x : Operand) (t : TypeId) (hop : o.op = Op.call { callee := Callee.builtin Builtin.append, args := #[s, x], argTypes := #[t, t] })
    (base : Nat) (e : TypeId) (i : TypeInfo) (ht : P.underlying t = some (.slice e)) (hi : P.info? e = some i) (hz : i.zero = some (.int .u32 0))
    (hsize : i.size = 1) (hby : i.bytes = 4) (v : Value) (xs : List Nat) (hs : a.eval s = v) (hown : OwnW w base e v xs)
    (z : Nat) (y : Int) (hx : a.eval x = .slice (some ⟨w.heap.size, 0, none⟩) 1 1) (hy : y = (z : Int))
    (hlen : xs.length + 1 ≤ 1000000000) (hbase : base ≤ w.heap.size)
    (hK : ∀ v' w', OwnW w' base e v' (xs ++ [z]) → Below base w w' → K (a.put o.dst v') w') :
    if Region.wanted o (yielded ops a.tmps) = true then Oper.wp P o a ((w.alloc (.cells #[.int .u32 y] e)).drew) K Q else E := by
  subst hy
  have hw : Region.wanted o (yielded ops a.tmps) = true := by simp [Region.wanted, hg]
  rw [if_pos hw]
  have hown' : (w.alloc (.cells #[.int .u32 (z : Int)] e)).drew.ownsRow base e 1 v xs.length (wcells xs) := World.ownsRow.drew (World.ownsRow.alloc hown _)
  obtain ⟨v', w', hrun, r1, r2, _⟩ := run_append_own (P := P) (w.alloc (.cells #[.int .u32 (z : Int)] e)).drew base t o.type e i (.int .u32 0) 1 4 ht hi hz hsize hby rfl (by decide) v xs.length (wcells xs) hown' ⟨w.heap.size, 0, none⟩ 1 1 [.int .u32 (z : Int)] rfl (fun j u hj => push_cellsW w e z j u hj)
    (by intro u hu; simp at hu; subst hu; rfl) (by unfold maxLen; omega) (by omega) (by show base ≤ (w.alloc _).heap.size; simp; omega)
  unfold Oper.wp
  simp [execOp, hop, resolve, invoke, builtin, hs, hx, hrun, Result.andThen]
  refine hK v' w' ?_ ?_
  · unfold OwnW
    rw [List.length_append, wcells_append]
    exact r1
  · exact (((Below.refl base w).alloc hbase _).drew).grown r2 (by show base ≤ (w.alloc _).heap.size; simp; omega) (fun k hk => (World.ownsRow.lt hown k hk).1)

/-- 'append(out, row...)': out a row of words of the call's own, row one that can be read. -/
theorem wpList_joinW {P : Program} (w : World) {ops : Array Oper} {rest : List Oper} {o : Oper} {a : Act} {Q : Exit → Act → World → Prop} (hgd : o.guard = none) (s x : Operand) (t : TypeId)
    (ho : o.op = .call { callee := .builtin .append, args := #[s, x], argTypes := #[t, t] })
    (base : Nat) (e : TypeId) (i : TypeInfo) (ht : P.underlying t = some (.slice e)) (hi : P.info? e = some i) (hz : i.zero = some (.int .u32 0))
    (hsize : i.size = 1) (hby : i.bytes = 4) (v : Value) (xs : List Nat) (hs : a.eval s = v) (hown : OwnW w base e v xs)
    (g n c : Nat) (ys : List Nat) (hx : a.eval x = .slice (some ⟨g, 0, none⟩) n c) (hn : ys.length = n) (hc : ∀ j, j < n → w.cell? ⟨g, j, none⟩ = some (.int .u32 (ys.getD j 0 : Nat)))
    (hlen : xs.length + n ≤ 1000000000) (hbase : base ≤ w.heap.size)
    (h : ∀ v' w', OwnW w' base e v' (xs ++ ys) → Below base w w' → wpList P ops Q rest (a.put o.dst v') w') :
    wpList P ops Q (o :: rest) a w := by
  subst hn
  refine wpList_append_own w hgd s x t ho base e i (.int .u32 0) 1 4 ht hi hz hsize hby rfl (by decide) v xs.length (wcells xs) hs hown ⟨g, 0, none⟩ ys.length c (wcells ys) hx (by rw [wcells_length, Nat.mul_one]) ?_ (by intro u hu; unfold wcells at hu; obtain ⟨y, _, rfl⟩ := List.mem_map.1 hu; rfl) (by unfold maxLen; omega) (by omega) hbase ?_
  · intro j u hj
    have hjl : j < ys.length := by
      rcases Nat.lt_or_ge j ys.length with h | h
      · exact h
      · rw [List.getElem?_eq_none (by rw [wcells_length]; exact h)] at hj; cases hj
    have e1 : (⟨g, 0, none⟩ : Addr).add j = ⟨g, j, none⟩ := by unfold Addr.add; split <;> simp_all
    rw [e1, hc j hjl, ← wcells_at ys j hjl, hj]
  · intro v' w' h1 h2 _
    refine h v' w' ?_ ?_
    · unfold OwnW
      rw [List.length_append, wcells_append]
      exact h1
    · exact (Below.refl base w).grown h2 hbase (fun k hk => (World.ownsRow.lt hown k hk).1)

theorem push_cells4 (w : World) (e : TypeId) (b0 b1 b2 b3 : UInt8) :
    ∀ j u, (Lib.byteCells [b0, b1, b2, b3])[j]? = some u → (w.alloc (.cells #[.int .u8 (b0.toNat : Int), .int .u8 (b1.toNat : Int), .int .u8 (b2.toNat : Int), .int .u8 (b3.toNat : Int)] e)).cell? ((⟨w.heap.size, 0, none⟩ : Addr).add j) = some u := by
  intro j u hj
  match j, hj with
  | 0, hj => simp [Lib.byteCells] at hj; subst hj; simp [Addr.add]
  | 1, hj => simp [Lib.byteCells] at hj; subst hj; simp [Addr.add]
  | 2, hj => simp [Lib.byteCells] at hj; subst hj; simp [Addr.add]
  | 3, hj => simp [Lib.byteCells] at hj; subst hj; simp [Addr.add]

/-- 'out = append(out, a, b, c, d)': out a row of bytes of the call's own. -/
theorem wpList_push4 {P : Program} (w : World) {ops : Array Oper} {rest : List Oper} {o : Oper} {a : Act} {Q : Exit → Act → World → Prop} (hgd : o.guard = none) (s x : Operand) (t : TypeId)
    (ho : o.op = .call { callee := .builtin .append, args := #[s, x], argTypes := #[t, t] })
    (base : Nat) (e : TypeId) (i : TypeInfo) (ht : P.underlying t = some (.slice e)) (hi : P.info? e = some i) (hz : i.zero = some (.int .u8 0))
    (hsize : i.size = 1) (hby : i.bytes = 1) (v : Value) (xs : List UInt8) (hs : a.eval s = v) (hown : OwnB w base e v xs)
    (b0 b1 b2 b3 : UInt8) (z0 z1 z2 z3 : Int) (hx : a.eval x = .slice (some ⟨w.heap.size, 0, none⟩) 4 4) (h0 : z0 = b0.toNat) (h1 : z1 = b1.toNat) (h2 : z2 = b2.toNat) (h3 : z3 = b3.toNat)
    (hlen : xs.length + 4 ≤ 1000000000) (hbase : base ≤ w.heap.size)
    (h : ∀ v' w', OwnB w' base e v' (xs ++ [b0, b1, b2, b3]) → Below base w w' → wpList P ops Q rest (a.put o.dst v') w') :
    wpList P ops Q (o :: rest) a (w.alloc (.cells #[.int .u8 z0, .int .u8 z1, .int .u8 z2, .int .u8 z3] e)) := by
  subst h0 h1 h2 h3
  refine wpList_append_own (w.alloc (.cells #[.int .u8 (b0.toNat : Int), .int .u8 (b1.toNat : Int), .int .u8 (b2.toNat : Int), .int .u8 (b3.toNat : Int)] e)) hgd s x t ho base e i (.int .u8 0) 1 1 ht hi hz hsize hby rfl (by decide) v xs.length (Lib.byteCells xs) hs (World.ownsRow.alloc hown _) ⟨w.heap.size, 0, none⟩ 4 4 (Lib.byteCells [b0, b1, b2, b3]) hx rfl (push_cells4 w e b0 b1 b2 b3) (by intro u hu; simp [Lib.byteCells] at hu; rcases hu with rfl | rfl | rfl | rfl <;> rfl) (by unfold maxLen; omega) (by omega) (by simp; omega) ?_
  intro v' w' r1 r2 _
  refine h v' w' ?_ ?_
  · unfold OwnB
    rw [List.length_append, Lib.byteCells_append]
    exact r1
  · exact ((Below.refl base w).alloc hbase _).grown r2 (by simp; omega) (fun k hk => (World.ownsRow.lt hown k hk).1)

end Go.Proofs.YtoaifgblbfdncabDoor
