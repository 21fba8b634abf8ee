/-
  Rows of bytes that bear a mark behind their last cell (what '[]byte(s)' lays), and bytes put behind them; no program is spoken of here.
-/
import Derived.Test.YtoaifgblbfdncabDoorJ22
import Derived.Lib.ConvBytes
import Derived.Lib.FrozenHead
namespace Go.Proofs.YtoaifgblbfdncabDoor
open Go.RowKit

/-- No cell of the row is frozen. -/
def Unmarked (n : Nat) (fz : Nat × Nat) : Prop := n ≤ fz.1 ∨ fz.2 = 0
theorem Unmarked.free {n : Nat} {fz : Nat × Nat} (h : Unmarked n fz) {w : World} {g : Nat} {cur : Array Value} {e : TypeId} (hg : w.heap[g]? = some (.cells cur e fz)) (j : Nat) (hj : j < n) : w.frozen? ⟨g, j, none⟩ = false := by
  obtain ⟨lo, hi⟩ := fz
  simp only [World.frozen?, hg, Bool.and_eq_false_iff, decide_eq_false_iff_not]
  rcases h with h | h
  · left; simp only at h; omega
  · right; simp only at h; omega

/-- One cell is stored where nothing is frozen. -/
theorem store_oneM (P : Program) (w : World) (g o : Nat) (t : TypeId) (fz : Nat × Nat) (cur : Array Value) (v : Value) (hg : w.heap[g]? = some (.cells cur t fz)) (hfz : Unmarked cur.size fz) (ho : o < cur.size) (hv : v.oneCell' = true) :
    (storeCells ⟨g, o, none⟩ [v] 0).run P w = .ok () (w.setRow g (cur.setIfInBounds o v)) := by
  have hadd : (⟨g, o, none⟩ : Addr).add 0 = ⟨g, o, none⟩ := by unfold Addr.add; split <;> simp_all
  have hc : w.cell? ⟨g, o, none⟩ = some cur[o] := by rw [cell_of_row w g o cur t fz hg]; simp [ho]
  have h1 : (store ((⟨g, o, none⟩ : Addr).add 0) v).run P w = .ok () (w.setRow g (cur.setIfInBounds o v)) := by
    rw [hadd, run_store P w _ v _ hv, hc]
    simp [hfz.free hg o ho, setCell_eq_setRow w g o cur t fz v hg]
  simp [storeCells, h1]

/-- The slice value v is the call's own (from block 'base' on), and holds these bytes; a mark may lie behind its last cell. -/
def OwnM (w : World) (base : Nat) (e : TypeId) (v : Value) (xs : List UInt8) : Prop :=
  ∃ g cap cur fz, v = .slice (some ⟨g, 0, none⟩) xs.length cap ∧ base ≤ g ∧ w.heap[g]? = some (.cells cur e fz) ∧ Unmarked cur.size fz ∧ xs.length ≤ cap ∧ cap ≤ maxLen ∧ cur.size = cap ∧ cur.toList.take xs.length = Lib.byteCells xs

theorem OwnM.below {w w' : World} {base : Nat} {e : TypeId} {v : Value} {xs : List UInt8} (h : OwnM w base e v xs) (hb : Below w.heap.size w w') : OwnM w' base e v xs := by
  obtain ⟨g, cap, cur, fz, hv, hg0, hg, rest⟩ := h
  exact ⟨g, cap, cur, fz, hv, hg0, by rw [hb.block g (lt_of_block hg)]; exact hg, rest⟩
theorem OwnM.mono {w : World} {base base' : Nat} {e : TypeId} {v : Value} {xs : List UInt8} (h : OwnM w base e v xs) (hb : base' ≤ base) : OwnM w base' e v xs := by
  obtain ⟨g, cap, cur, fz, hv, hg0, rest⟩ := h
  exact ⟨g, cap, cur, fz, hv, by omega, rest⟩
theorem OwnM.form {w : World} {base : Nat} {e : TypeId} {v : Value} {xs : List UInt8} (h : OwnM w base e v xs) : ∃ g cap, v = .slice (some ⟨g, 0, none⟩) xs.length cap ∧ base ≤ g ∧ g < w.heap.size ∧ xs.length ≤ cap ∧
    ∀ j, j < xs.length → w.cell? ⟨g, j, none⟩ = some (.int .u8 ((xs.getD j 0).toNat : Nat)) := by
  obtain ⟨g, cap, cur, fz, rfl, hg0, hg, _, hnc, _, hcs, htake⟩ := h
  refine ⟨g, cap, rfl, hg0, lt_of_block hg, hnc, fun j hj => ?_⟩
  rw [cell_of_row w g j cur e fz hg]
  have h1 : (cur.toList.take xs.length)[j]? = (Lib.byteCells xs)[j]? := by rw [htake]
  rw [List.getElem?_take, if_pos hj] at h1
  have h2 : cur[j]? = cur.toList[j]? := by simp
  rw [h2, h1]
  simp [Lib.byteCells, hj]

/-- '[]byte(s)'. -/
theorem OwnM.ofBytes (w : World) (e : TypeId) (s : ByteArray) (hcap : grownCap w s.size 0 e ≤ maxLen) : OwnM (Lib.bytesWorld w e s) w.heap.size e (.slice (some ⟨w.heap.size, 0, none⟩) s.data.toList.length (grownCap w s.size 0 e)) s.data.toList := by
  have hge := grownCap_ge w s.size 0 e
  refine ⟨w.heap.size, grownCap w s.size 0 e, Lib.bytesCells w e s, _, rfl, Nat.le_refl _, Lib.bytesWorld_at_new w e s, .inl (Nat.le_refl _), by simpa using hge, hcap, ?_, ?_⟩
  · simp [Lib.bytesCells]; omega
  · simp only [Lib.bytesCells, Array.toList_append, Lib.byteCells]
    rw [List.take_append_of_le_length (by simp)]
    rw [List.take_of_length_le (by simp)]
    simp

theorem run_pushM {P : Program} (w : World) (base : Nat) (t ty e : TypeId) (i : TypeInfo) (ht : P.underlying t = some (.slice e)) (hi : P.info? e = some i) (hz : i.zero = some (.int .u8 0))
    (hsize : i.size = 1) (hby : i.bytes = 1) (v : Value) (xs : List UInt8) (hown : OwnM w base e v xs) (b : UInt8)
    (ad : Addr) (c : Nat) (hnew : ∀ j u, [Value.int .u8 (b.toNat : Int)][j]? = some u → w.cell? (ad.add j) = some u)
    (hlen : xs.length + 1 ≤ 1000000000) (hbase : base ≤ w.heap.size) :
    ∃ v' w', (Builtin.append_ #[t, t] ty #[v, .slice (some ad) 1 c]).run P w = .ok v' w' ∧ OwnM w' base e v' (xs ++ [b]) ∧ w.grownBy w' v.ownBlock := by
  obtain ⟨g, cap, cur, fz, rfl, hbg, hg, hum, hnc, hcm, hcs, htake⟩ := hown
  have hl : [Value.int .u8 (b.toNat : Int)].length = 1 * i.size := by rw [hsize]; rfl
  have e2 : Lib.byteCells (xs ++ [b]) = Lib.byteCells xs ++ [.int .u8 (b.toNat : Int)] := by simp [Lib.byteCells]
  have e1 : (xs ++ [b]).length = xs.length + 1 := by simp
  have hbl : (Lib.byteCells xs).length = xs.length := by simp [Lib.byteCells]
  by_cases hroom : xs.length + 1 ≤ cap
  · have hf := run_firstCells_some (P := P) w i.size 1 ad 1 c _ hl hnew
    have hst := store_oneM P w g xs.length e fz cur (Value.int .u8 (b.toNat : Int)) hg hum (by omega) rfl
    have hr : (Builtin.append_ #[t, t] ty #[.slice (some ⟨g, 0, none⟩) xs.length cap, .slice (some ad) 1 c]).run P w = .ok (.slice (some ⟨g, 0, none⟩) (xs.length + 1) cap) (w.setRow g (cur.setIfInBounds xs.length (Value.int .u8 (b.toNat : Int)))) := by
      rw [hsize] at hf
      simp [Builtin.append_, run_underlying ht, sizeOf, typeInfo, hi, hsize, Builtin.lenOf, hroom, hf, Addr.add_lit, hst]
    refine ⟨_, _, hr, ⟨g, cap, _, fz, by rw [e1], hbg, setRow_heap w g cur _ e _ hg, by simpa using hum, by omega, hcm, by simpa using hcs, ?_⟩, ⟨rfl, rfl, rfl, by simp, fun k _ hk => setRow_other w g k _ (fun e => hk (by simp [Value.ownBlock, e]))⟩⟩
    rw [e1, e2, ← htake, Array.toList_setIfInBounds]
    have hx : xs.length < cur.toList.length := by simp; omega
    rw [List.take_add_one, List.take_set_of_le (Nat.le_refl _), List.getElem?_set_self hx]
    rfl
  · have holds : ∀ j u, (Lib.byteCells xs)[j]? = some u → w.cell? ((⟨g, 0, none⟩ : Addr).add j) = some u := by
      intro j u hj
      have hadd : (⟨g, 0, none⟩ : Addr).add j = ⟨g, j, none⟩ := by unfold Addr.add; split <;> simp_all
      rw [hadd, cell_of_row w g j cur e fz hg]
      rw [← htake, List.getElem?_take] at hj
      split at hj
      · simpa using hj
      · cases hj
    have hr := run_append_grow (P := P) w t ty e i (.int .u8 0) ht hi hz ⟨g, 0, none⟩ xs.length cap (Lib.byteCells xs) (by rw [hsize, Nat.mul_one]; exact hbl) holds ad 1 c [Value.int .u8 (b.toNat : Int)] hl hnew (by omega) (by omega) (by rw [hby]; exact growslice_fits (by omega) (by omega))
    have hge := grownCap_ge w (xs.length + 1) cap e
    have hcm2 : grownCap w (xs.length + 1) cap e ≤ maxLen := grownCap_le_maxLen w (xs.length + 1) cap e (by unfold maxLen; omega)
    refine ⟨_, _, hr, ⟨w.heap.size, _, _, (0, 0), by rw [e1], hbase, heap_alloc_new w.drew _, .inr rfl, by omega, hcm2, ?_, ?_⟩, ⟨rfl, rfl, rfl, by simp, fun k hk _ => heap_alloc_old w.drew _ hk⟩⟩
    · have hz1 : (Value.int IntKind.u8 0).cells.size = 1 := rfl
      simp only [Array.size_append, List.size_toArray, size_zeroCells, hz1, hbl, List.length_cons, List.length_nil]
      omega
    · simp only [Array.toList_append]
      rw [e1, e2]
      have : (Lib.byteCells xs ++ [Value.int .u8 (b.toNat : Int)]).length = xs.length + 1 := by rw [List.length_append, hbl]; rfl
      rw [← this, List.take_left' (by simp)]

/-- 'out = append(out, c)'. -/
theorem wpList_pushM {P : Program} (w : World) {ops : Array Oper} {rest : List Oper} {o : Oper} {a : Act} {Q : Exit → Act → World → Prop} (hgd : o.guard = none) (s x : Operand) (t : TypeId)
    (ho : o.op = .call { callee := .builtin .append, args := #[s, x], argTypes := #[t, t] })
    (base : Nat) (e : TypeId) (i : TypeInfo) (ht : P.underlying t = some (.slice e)) (hi : P.info? e = some i) (hz : i.zero = some (.int .u8 0))
    (hsize : i.size = 1) (hby : i.bytes = 1) (v : Value) (xs : List UInt8) (hs : a.eval s = v) (hown : OwnM w base e v xs)
    (b : UInt8) (z : Int) (hx : a.eval x = .slice (some ⟨w.heap.size, 0, none⟩) 1 1) (hzb : z = b.toNat)
    (hlen : xs.length + 1 ≤ 1000000000) (hbase : base ≤ w.heap.size)
    (h : ∀ v' w', OwnM w' base e v' (xs ++ [b]) → Below base w w' → wpList P ops Q rest (a.put o.dst v') w') :
    wpList P ops Q (o :: rest) a (w.alloc (.cells #[.int .u8 z] e)) := by
  refine wpList_plain hgd fun _ hK => ?_
  have hown' : OwnM (w.alloc (.cells #[.int .u8 z] e)) base e v xs := hown.below ((Below.refl _ _).alloc (Nat.le_refl _) _)
  obtain ⟨v', w', hr, h2, h3⟩ := run_pushM (P := P) (w.alloc (.cells #[.int .u8 z] e)) base t o.type e i ht hi hz hsize hby v xs hown' b ⟨w.heap.size, 0, none⟩ 1 (push_cells w e z b hzb) hlen (by simp; omega)
  unfold Oper.wp execOp
  simp only [ho, resolve, invoke, builtin, Sem.run_bind, Sem.run_pure, Result.andThen_ok, List.map_toArray, List.map_cons, List.map_nil, hs, hx, hr]
  refine hK _ _ (h v' w' h2 ?_)
  refine ((Below.refl base w).alloc hbase _).grown h3 (by simp; omega) (fun k hk => ?_)
  obtain ⟨g, cap, cur, fz, rfl, hbg, _⟩ := hown
  cases hk
  exact hbg

end Go.Proofs.YtoaifgblbfdncabDoor
