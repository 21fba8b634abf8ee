/-
  'append' to the tail of a flat row of the call's own; no program is spoken of here.
  'append(out, list...)' as a step of a region that draws its order; no program is spoken of here.
-/
import Derived.Test.YthiicpbedgcmlaaJ09
import Derived.Lib.LazyBuf
import Derived.ArgAppend
import Derived.Test.YthiicpbedgcmlaaJ04
import Derived.Laws.OwnMore
namespace Go.Proofs.Ythiicpbedgcmlaa
open Go.RowKit

section
variable {α : Type}
theorem run_pushTail {P : Program} (W : World) (base : Nat) (t ty e : TypeId) (i : TypeInfo) (z : Value) (bytes : Nat) (A : Lay α) (hf : Flat A) (ht : P.underlying t = some (.slice e)) (hi : P.info? e = some i) (hz : i.zero = some z)
    (hsize : i.size = A.k) (hby : i.bytes = bytes) (hzs : z.cells.size = A.k) (hb1 : bytes ≤ 1000) (g c : Nat) (f : List Nat) (xs : List α) (hown : (Lay.rows e A).own W base f [.slice (some ⟨g, 0, none⟩) xs.length c] xs) (k : Nat) (hk : k ≤ xs.length)
    (y : α) (cs : List Value) (hcs : A.rd W cs y) (ad : Addr) (hc : ∀ j u, cs[j]? = some u → W.cell? (ad.add j) = some u) (hlen : xs.length + 1 ≤ 1000000000) (hbase : base ≤ W.heap.size) :
    ∃ v' w', (Builtin.append_ #[t, t] ty #[.slice (some ⟨g, k * A.k, none⟩) (xs.length - k) (c - k), .slice (some ad) 1 1]).run P W = .ok v' w' ∧ (Lay.rows e A).rd w' [v'] (xs.drop k ++ [y]) ∧ Below base W w' := by
  obtain ⟨cur, R⟩ := RowK.of hf hown
  have hroom := R.room
  have hlow := R.low
  have hsz := R.size
  have hgl : g < W.heap.size := lt_of_block R.heap
  have hnl : cs.length = 1 * A.k := by rw [A.len hcs, Nat.one_mul]
  have hckk : xs.length * A.k ≤ c * A.k := Nat.mul_le_mul_right _ hroom
  have hkk : k * A.k ≤ xs.length * A.k := Nat.mul_le_mul_right _ hk
  have hsub : (xs.length - k) * A.k = xs.length * A.k - k * A.k := Nat.sub_mul _ _ _
  have hul : (cur.take (xs.length * A.k)).length = xs.length * A.k := rdAll_len A R.rd
  have hcell : ∀ j u, cur[j]? = some u → W.cell? ⟨g, j, none⟩ = some u := fun j u hu => by
    rw [cell_of_row W g j cur.toArray e (0, 0) R.heap]
    simpa using hu
  have hdr : ∀ w', rdAll A w' ((cur.take (xs.length * A.k)).drop (k * A.k)) (xs.drop k) := fun w' => hf.all (rdAll_drop A R.rd k hk)
  have hold : ∀ j u, ((cur.take (xs.length * A.k)).drop (k * A.k))[j]? = some u → cur[k * A.k + j]? = some u ∧ k * A.k + j < xs.length * A.k := fun j u hu => by
    rw [List.getElem?_drop] at hu
    have h9 := (List.getElem?_eq_some_iff.1 hu).1
    rw [hul] at h9
    rw [List.getElem?_take, if_pos h9] at hu
    exact ⟨hu, h9⟩
  have hol : ((cur.take (xs.length * A.k)).drop (k * A.k)).length = (xs.length - k) * A.k := by rw [List.length_drop, hul, hsub]
  by_cases hfit : xs.length - k + 1 ≤ c - k
  · have hck1 : (xs.length + 1) * A.k ≤ c * A.k := Nat.mul_le_mul_right _ (by omega)
    rw [Nat.add_mul, Nat.one_mul] at hck1
    have hoff : k * A.k + (xs.length - k) * A.k = xs.length * A.k := by rw [hsub]; omega
    have hin : ∀ j, j < cs.length → (W.cell? ⟨g, xs.length * A.k + j, none⟩).isSome = true ∧ W.frozen? ⟨g, xs.length * A.k + j, none⟩ = false := fun j hj => by
      rw [cell_of_row W g _ cur.toArray e (0, 0) R.heap, frozen_of_row W g _ cur.toArray e R.heap]
      have h9 : xs.length * A.k + j < cur.toArray.size := by rw [List.size_toArray, hsz]; omega
      rw [Array.getElem?_eq_getElem h9]
      simp
    have hrun := run_append_room_cells (P := P) W t ty e i ht hi g (k * A.k) (xs.length - k) (c - k) ad 1 1 cs (by rw [hsize]; exact hnl) hc (A.one hcs) hfit (fun j hj => by rw [hsize, hoff]; exact (hin j hj).1) (fun j hj => by rw [hsize, hoff]; exact (hin j hj).2)
    rw [hsize, hoff] at hrun
    have hB : Below base W (W.setCells g (xs.length * A.k) cs) := _root_.Go.below_setCells hlow cs _ W (Below.refl base W)
    refine ⟨_, _, hrun, ?_, hB⟩
    have hl : (xs.drop k ++ [y]).length = xs.length - k + 1 := by rw [List.length_append, List.length_drop]; rfl
    refine ⟨_, rfl, .inr ⟨g, k * A.k, c - k, (cur.take (xs.length * A.k)).drop (k * A.k) ++ cs, by rw [hl], by rw [hl]; exact hfit, Nat.lt_of_lt_of_le hgl hB.size, fun j u hu => ?_, rdAll_join A (hdr _) ⟨cs, [], by simp, hf.any _ _ _ _ hcs, rfl⟩⟩⟩
    by_cases hj : j < ((cur.take (xs.length * A.k)).drop (k * A.k)).length
    · rw [List.getElem?_append_left hj] at hu
      obtain ⟨h8, h9⟩ := hold j u hu
      rw [World.cell?_setCells_out g cs (xs.length * A.k) W ⟨g, k * A.k + j, none⟩ (fun _ _ => .inl h9)]
      exact hcell _ u h8
    · rw [List.getElem?_append_right (by omega)] at hu
      have h7 := (List.getElem?_eq_some_iff.1 hu).1
      have h9 := World.cell?_setCells_in g cs (xs.length * A.k) W (fun j hj => (hin j hj).1) (j - ((cur.take (xs.length * A.k)).drop (k * A.k)).length) h7
      rw [List.getElem?_eq_getElem h7] at hu
      cases hu
      have e9 : xs.length * A.k + (j - ((cur.take (xs.length * A.k)).drop (k * A.k)).length) = k * A.k + j := by rw [hol, hsub]; rw [hol, hsub] at hj; omega
      rw [e9] at h9
      exact h9
  · have hbyt : (xs.length - k + 1) * bytes ≤ 140737488355328 := by
      have h1 : (xs.length - k + 1) * bytes ≤ 1000000000 * 1000 := Nat.mul_le_mul (by omega) hb1
      omega
    obtain ⟨v', w', hrun, h3, hg⟩ := run_append_arg_grows (P := P) W t ty e i z A.k bytes ht hi hz hsize hby hzs A.pos ⟨g, k * A.k, none⟩ (xs.length - k) (c - k) ((cur.take (xs.length * A.k)).drop (k * A.k)) hol (fun j u hu => by
      rw [add_in]
      exact hcell _ u (hold j u hu).1) ad 1 1 cs hnl hc (by omega) (by unfold maxLen; omega) hbyt
    have hl : (xs.drop k ++ [y]).length = xs.length - k + 1 := by rw [List.length_append, List.length_drop]; rfl
    have h6 : w'.ownsRow W.heap.size e A.k v' (xs.drop k ++ [y]).length ((cur.take (xs.length * A.k)).drop (k * A.k) ++ cs) := by rw [hl]; exact h3
    exact ⟨v', w', hrun, (Lay.rows e A).read (flat_own hf h6 (rdAll_join A (hdr _) ⟨cs, [], by simp, hf.any _ _ _ _ hcs, rfl⟩)), (below_grown hg (fun k hk => by cases hk) (Nat.le_refl _)).mono hbase⟩
theorem wpList_pushTail {P : Program} (W : World) {ops : Array Oper} {rest : List Oper} {o : Oper} {a : Act} {Q : Exit → Act → World → Prop} (hgd : o.guard = none) (s x : Operand) (t : TypeId)
    (hop : o.op = Op.call { callee := Callee.builtin Builtin.append, args := #[s, x], argTypes := #[t, t] }) (v u : Value) (hs : a.eval s = v) (hx : a.eval x = u) {v' : Value} {w' : World}
    (hrun : (Builtin.append_ #[t, t] o.type #[v, u]).run P W = .ok v' w') (hK : wpList P ops Q rest (a.put o.dst v') w') : wpList P ops Q (o :: rest) a W := by
  refine wpList_plain hgd fun K hK' => ?_
  unfold Oper.wp
  simp [execOp, hop, resolve, invoke, builtin, hs, hx, hrun, Result.andThen]
  exact hK' _ _ hK
end

end Go.Proofs.Ythiicpbedgcmlaa
namespace Go.Proofs.Ythiicpbedgcmlaa
open Go.RowKit

/-- 'append(out, list...)' as a step of a region that draws its order, over flat rows. -/
theorem step_copyF {α : Type} {P : Program} {ops : Array Oper} {o : Oper} {a : Act} {W : World} {K : Act → World → Prop} {Q : Exit → Act → World → Prop} {E : Prop}
    (hg : o.guard = none) (s x : Operand) (t : TypeId) (hop : o.op = Op.call { callee := Callee.builtin Builtin.append, args := #[s, x], argTypes := #[t, t] })
    (base : Nat) (e : TypeId) (i : TypeInfo) (z : Value) (bytes : Nat) (A : Lay α) (hf : Flat A) (ht : P.underlying t = some (.slice e)) (hi : P.info? e = some i) (hz : i.zero = some z)
    (hsize : i.size = A.k) (hby : i.bytes = bytes) (hzs : z.cells.size = A.k) (hb1 : bytes ≤ 1000) (v : Value) (f : List Nat) (xs : List α) (hs : a.eval s = v) (hown : (Lay.rows e A).own W base f [v] xs) (hv0 : v ≠ .slice none 0 0)
    (u : Value) (ys : List α) (hx : a.eval x = u) (hys : (Lay.rows e A).rd W [u] ys)
    (hlen : xs.length + ys.length ≤ 1000000000) (hbase : base ≤ W.heap.size)
    (hK : ∀ v' w', (Lay.rows e A).own w' base (blk v') [v'] (xs ++ ys) → v' ≠ .slice none 0 0 → W.grownBy w' v.ownBlock → Below base W w' → K (a.put o.dst v') w') :
    if Region.wanted o (yielded ops a.tmps) = true then Oper.wp P o a W K Q else E := by
  have hw : Region.wanted o (yielded ops a.tmps) = true := by simp [Region.wanted, hg]
  rw [if_pos hw]
  obtain ⟨us, h1, h2, rfl⟩ := flat_inv hf hown
  obtain ⟨u', hu, hys⟩ := hys
  obtain rfl : u = u' := by simpa using hu
  have hlt : ∀ k, v.ownBlock = some k → base ≤ k := fun k hk => (World.ownsRow.lt h1 k hk).1
  have h7 : (xs.length + ys.length) * bytes ≤ 1000000000 * 1000 := Nat.mul_le_mul hlen hb1
  rcases hys with ⟨rfl, a', cap, rfl, hcap⟩ | ⟨g, off, cap, vs, rfl, _, hg2, hc, hr⟩
  · cases a' with
    | none =>
      rw [hcap rfl] at hx
      have hrun := run_append_owned_none (P := P) (w := W) base t o.type e i A.k ht hi v xs.length us h1
      unfold Oper.wp
      simp [execOp, hop, resolve, invoke, builtin, hs, hx, hrun, Result.andThen]
      rw [List.append_nil] at hK
      exact hK v W (flat_own hf h1 h2) hv0 (World.grownBy.refl _ _) (Below.refl _ _)
    | some ad =>
      obtain ⟨v', w', hrun, r1, r2, r3⟩ := run_append_own (P := P) W base t o.type e i z A.k bytes ht hi hz hsize hby hzs A.pos v xs.length us h1 ad 0 cap [] (by simp) (by simp) (by simp) (by unfold maxLen; simp at hlen; omega) (by simp at h7; simp; omega) hbase
      unfold Oper.wp
      simp [execOp, hop, resolve, invoke, builtin, hs, hx, hrun, Result.andThen]
      rw [List.append_nil] at hK
      rw [List.append_nil] at r1
      refine hK v' w' ?_ (fun e => hv0 (r3.1 e).1) r2 (below_grown r2 hlt hbase)
      exact flat_own hf r1 (hf.all h2)
  · obtain ⟨v', w', hrun, r1, r2, r3⟩ := run_append_own (P := P) W base t o.type e i z A.k bytes ht hi hz hsize hby hzs A.pos v xs.length us h1 ⟨g, off, none⟩ ys.length cap vs (rdAll_len A hr) (by
      intro j q hj
      have e1 : (⟨g, off, none⟩ : Addr).add j = ⟨g, off + j, none⟩ := by unfold Addr.add; split <;> simp_all
      rw [e1]
      exact hc j q hj) (rdAll_one A hr) (by unfold maxLen; omega) (by omega) hbase
    unfold Oper.wp
    simp [execOp, hop, resolve, invoke, builtin, hs, hx, hrun, Result.andThen]
    refine hK v' w' ?_ (fun e => hv0 (r3.1 e).1) r2 (below_grown r2 hlt hbase)
    have h6 : w'.ownsRow base e A.k v' (xs ++ ys).length (us ++ vs) := by rw [List.length_append]; exact r1
    exact flat_own hf h6 (rdAll_join A (hf.all h2) (hf.all hr))

end Go.Proofs.Ythiicpbedgcmlaa
