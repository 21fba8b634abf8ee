/-
  A row of cells of the call's own that is moved on (s[1:]) and appended to; no program is spoken of here.
  Rows of texts as they lie; the laws' own functions over them.
-/
import Derived.Test.YtkjjdoadjhjmbaeGreatDoorJ06
import Derived.Test.YtkjjdoadjhjmbaeGreatDoorJ35
import Derived.Test.YtkjjdoadjhjmbaeGreatDoorJ08
import Derived.Test.YtkjjdoadjhjmbaeGreatDoorRows
import Derived.Deep.RegionHeld3
import Derived.BigQuiet
import Derived.Deep.QuietTactic
import Derived.Deep.DeepCutAuto
namespace Go.Proofs.YtkjjdoadjhjmbaeGreatDoor
open Go.RowKit

/-- The cells us lie behind the slice v, in a block of the call's own. -/
def MovR (e : TypeId) (w : World) (base : Nat) (v : Value) (us : List Value) : Prop :=
  (v = .slice none 0 0 ∧ us = []) ∨
  ∃ g off cap cur, v = .slice (some ⟨g, off, none⟩) us.length cap ∧ base ≤ g ∧ w.heap[g]? = some (.cells cur e (0, 0)) ∧ us.length ≤ cap ∧ off + cap ≤ cur.size ∧ ∀ i u, us[i]? = some u → cur[off + i]? = some u
section
variable {e : TypeId} {w w' : World} {base : Nat} {v : Value} {us : List Value}
theorem MovR.form (h : MovR e w base v us) : ∃ ao cap, v = .slice ao us.length cap := by
  rcases h with ⟨rfl, rfl⟩ | ⟨g, off, cap, cur, rfl, -⟩
  · exact ⟨none, 0, rfl⟩
  · exact ⟨_, _, rfl⟩
theorem MovR.low (h : MovR e w base v us) : ∀ k, v.ownBlock = some k → base ≤ k := by
  rcases h with ⟨rfl, -⟩ | ⟨g, off, cap, cur, rfl, hb, -⟩
  · intro k hk
    cases hk
  · intro k hk
    cases hk
    exact hb
theorem MovR.lt (h : MovR e w base v us) : ∀ k, v.ownBlock = some k → k < w.heap.size := by
  rcases h with ⟨rfl, -⟩ | ⟨g, off, cap, cur, rfl, -, hg, -⟩
  · intro k hk
    cases hk
  · intro k hk
    cases hk
    exact lt_of_block hg
theorem MovR.same (h : MovR e w base v us) (hk : ∀ k, v.ownBlock = some k → w'.heap[k]? = w.heap[k]?) : MovR e w' base v us := by
  rcases h with ⟨rfl, rfl⟩ | ⟨g, off, cap, cur, rfl, h1, h2, h3, h4, h5⟩
  · exact .inl ⟨rfl, rfl⟩
  · exact .inr ⟨g, off, cap, cur, rfl, h1, (hk g rfl).trans h2, h3, h4, h5⟩
theorem MovR.next (h : MovR e w base v us) (hb : Below w.heap.size w w') : MovR e w' base v us := h.same fun k hk => hb.block k (h.lt k hk)
theorem MovR.ne {q : Nat} {T : TypeId} {cs : Array Value} (h : MovR e w base v us) (hv : VarA q T cs w) (hT : T ≠ e) : v.ownBlock ≠ some q := by
  rcases h with ⟨rfl, -⟩ | ⟨g, off, cap, cur, rfl, -, hg, -⟩
  · intro hk
    cases hk
  · intro hk
    cases hk
    have h1 := hv.row.symm.trans hg
    simp only [Option.some.injEq, Obj.cells.injEq] at h1
    exact hT h1.2.1
theorem MovR.only {q : Nat} (h : MovR e w base v us) (ho : Only q w w') (hq : v.ownBlock ≠ some q) : MovR e w' base v us := h.same fun k hk => ho.block k (h.lt k hk) (fun e => hq (by rw [hk, e]))
theorem MovR.grown {r : Option Nat} (h : MovR e w base v us) (hg : w.grownBy w' r) (hr : ∀ k, v.ownBlock = some k → some k ≠ r) : MovR e w' base v us := h.same fun k hk => hg.block k (h.lt k hk) (hr k hk)
/-- The first cell can be read. -/
theorem MovR.head {u : Value} (h : MovR e w base v (u :: us)) : ∃ g off cap, v = .slice (some ⟨g, off, none⟩) (us.length + 1) cap ∧ w.cell? ⟨g, off, none⟩ = some u ∧ us.length + 1 ≤ cap := by
  rcases h with ⟨-, h⟩ | ⟨g, off, cap, cur, rfl, -, hg, h3, -, h5⟩
  · cases h
  · refine ⟨g, off, cap, rfl, ?_, h3⟩
    rw [cell_of_row w g off cur e (0, 0) hg]
    exact h5 0 u rfl
/-- It is moved on by one. -/
theorem MovR.tail {u : Value} {g off cap : Nat} (h : MovR e w base (.slice (some ⟨g, off, none⟩) (us.length + 1) cap) (u :: us)) : MovR e w base (.slice (if cap = 1 then some ⟨g, off, none⟩ else some ⟨g, off + 1, none⟩) us.length (cap - 1)) us := by
  rcases h with ⟨-, h⟩ | ⟨g', off', cap', cur, hv, hb, hg, h3, h4, h5⟩
  · cases h
  · simp only [Value.slice.injEq, Option.some.injEq, Addr.mk.injEq, and_true] at hv
    obtain ⟨⟨rfl, rfl⟩, -, rfl⟩ := hv
    simp only [List.length_cons] at h3
    by_cases h1 : cap = 1
    · subst h1
      obtain rfl : us = [] := List.length_eq_zero_iff.1 (by omega)
      exact .inr ⟨g, off, 0, cur, rfl, hb, hg, by simp, by omega, fun i u hi => by simp at hi⟩
    · rw [if_neg h1]
      refine .inr ⟨g, off + 1, cap - 1, cur, rfl, hb, hg, by omega, by omega, fun i u hi => ?_⟩
      have h6 := h5 (i + 1) u (by simpa using hi)
      rw [show off + (i + 1) = off + 1 + i by omega] at h6
      exact h6
theorem MovR.of_own {n : Nat} (h : w.ownsRow base e 1 v n us) : MovR e w base v us := by
  obtain ⟨h0, ⟨rfl, rfl⟩ | ⟨g, cap, cur, rfl, hb, hg, h3, h4, h5, h6⟩⟩ := h
  · exact .inl ⟨rfl, List.length_eq_zero_iff.1 h0⟩
  · rw [Nat.mul_one] at h0 h5 h6
    subst h0
    refine .inr ⟨g, 0, cap, cur, rfl, hb, hg, h3, by omega, fun i u hi => ?_⟩
    rw [← h6, List.getElem?_take] at hi
    split at hi
    · rw [Nat.zero_add]
      simpa using hi
    · cases hi
end
/-- What an append leaves. -/
structure PushMv (e : TypeId) (W : World) (base : Nat) (v : Value) (us : List Value) (u : Value) (v' : Value) (w' : World) : Prop where
  row : MovR e w' base v' (us ++ [u])
  stay : v'.ownBlock = v.ownBlock ∨ ∃ k, v'.ownBlock = some k ∧ W.heap.size ≤ k
  grown : W.grownBy w' v.ownBlock
  below : Below base W w'

theorem run_pushMv {P : Program} (W : World) (base : Nat) (t ty e : TypeId) (i : TypeInfo) (z : Value) (bytes : Nat) (ht : P.underlying t = some (.slice e)) (hi : P.info? e = some i) (hz : i.zero = some z)
    (hsize : i.size = 1) (hby : i.bytes = bytes) (hzs : z.cells.size = 1) (hb1 : bytes ≤ 1000) (v : Value) (us : List Value) (hown : MovR e W base v us)
    (u : Value) (hu : u.oneCell' = true) (ad : Addr) (hc : W.cell? ad = some u) (hlen : us.length + 1 ≤ 1000000000) (hbase : base ≤ W.heap.size) :
    ∃ v' w', (Builtin.append_ #[t, t] ty #[v, .slice (some ad) 1 1]).run P W = .ok v' w' ∧ PushMv e W base v us u v' w' := by
  have hbyt : (us.length + 1) * bytes ≤ 140737488355328 := by
    have h1 : (us.length + 1) * bytes ≤ 1000000000 * 1000 := Nat.mul_le_mul hlen hb1
    omega
  have hnews : ∀ j x, [u][j]? = some x → W.cell? (ad.add j) = some x := by
    intro j x hj
    match j, hj with
    | 0, hj =>
      simp only [List.getElem?_cons_zero, Option.some.injEq] at hj
      subst hj
      rw [show ad.add 0 = ad by unfold Addr.add; split <;> simp_all]
      exact hc
    | j + 1, hj => simp at hj
  have hlow := hown.low
  have big : ∀ v' w', w'.ownsRow W.heap.size e 1 v' (us.length + 1) (us ++ [u]) → W.grownBy w' none → PushMv e W base v us u v' w' := by
    intro v' w' h3 hg
    have h4 := MovR.of_own h3
    have h5 : MovR e w' base v' (us ++ [u]) := by
      rcases h4 with ⟨-, h⟩ | ⟨g, off, cap, cur, h1, h2, h6⟩
      · simp at h
      · exact .inr ⟨g, off, cap, cur, h1, Nat.le_trans hbase h2, h6⟩
    refine ⟨h5, .inr ?_, grown_some hg, below_grown (grown_some hg) hlow hbase⟩
    rcases h4 with ⟨-, h⟩ | ⟨g, off, cap, cur, rfl, h2, -⟩
    · simp at h
    · exact ⟨g, rfl, h2⟩
  rcases hown with ⟨rfl, rfl⟩ | ⟨g, off, cap, cur, rfl, hb, hg, h3, h4, h5⟩
  · obtain ⟨v', w', hrun, r1, r2, _⟩ := run_append_own (P := P) W W.heap.size t ty e i z 1 bytes ht hi hz hsize hby hzs (by decide) (.slice none 0 0) 0 [] (World.ownsRow_nil W _ e 1) ad 1 1 [u] rfl hnews (by simpa using hu) (by unfold maxLen; omega) (by simpa using hbyt) (Nat.le_refl _)
    exact ⟨v', w', hrun, big v' w' r1 r2⟩
  · by_cases hfit : us.length + 1 ≤ cap
    · have hcell : ∀ k, k < cur.size → (W.cell? ⟨g, k, none⟩).isSome = true ∧ W.frozen? ⟨g, k, none⟩ = false := fun k hk => by
        rw [cell_of_row W g k cur e (0, 0) hg, frozen_of_row W g k cur e hg]
        simp [hk]
      have hrun := run_append_room_cells (P := P) W t ty e i ht hi g off us.length cap ad 1 1 [u] (by rw [hsize]; rfl) hnews (by simpa using hu) hfit (fun j hj => (hcell _ (by simp at hj; rw [hsize]; omega)).1) (fun j hj => (hcell _ (by simp at hj; rw [hsize]; omega)).2)
      rw [hsize, Nat.mul_one] at hrun
      refine ⟨_, _, hrun, ?_⟩
      have hw : W.setCells g (off + us.length) [u] = W.setCell ⟨g, off + us.length, none⟩ u := rfl
      rw [hw]
      have hgr : W.grownBy (W.setCell ⟨g, off + us.length, none⟩ u) (some g) := by
        have ho : Only g W (W.setCell ⟨g, off + us.length, none⟩ u) := Only.setCell _ _
        exact ⟨ho.os, ho.tape, ho.output, ho.size, fun k hk hn => ho.block k hk (fun e => hn (by rw [e]))⟩
      refine ⟨.inr ⟨g, off, cap, _, by rw [List.length_append]; rfl, hb, heap_setCell_same W g (off + us.length) cur e u hg, by simpa using hfit, by simpa using h4, fun k x hk => ?_⟩, .inl rfl, hgr, below_grown hgr hlow hbase⟩
      rw [Array.getElem?_setIfInBounds]
      by_cases hk2 : k < us.length
      · rw [if_neg (by omega)]
        rw [List.getElem?_append_left hk2] at hk
        exact h5 k x hk
      · have hkl := (List.getElem?_eq_some_iff.1 hk).1
        simp at hkl
        obtain rfl : k = us.length := by omega
        rw [if_pos rfl, if_pos (by omega)]
        rw [List.getElem?_append_right (Nat.le_refl _), Nat.sub_self] at hk
        simpa using hk
    · obtain ⟨v', w', hrun, r1, r2⟩ := run_append_arg_grows (P := P) W t ty e i z 1 bytes ht hi hz hsize hby hzs (by decide) ⟨g, off, none⟩ us.length cap us (by rw [Nat.mul_one]) (fun j x hj => by
        rw [show (⟨g, off, none⟩ : Addr).add j = ⟨g, off + j, none⟩ by unfold Addr.add; split <;> simp_all, cell_of_row W g (off + j) cur e (0, 0) hg]
        exact h5 j x hj) ad 1 1 [u] rfl hnews (by omega) (by unfold maxLen; omega) hbyt
      exact ⟨v', w', hrun, big v' w' r1 r2⟩

/-- 'out = append(out, x)' as a step of a region that draws its order. -/
theorem step_pushMv {P : Program} {ops : Array Oper} {o : Oper} {a : Act} {W : World} {K : Act → World → Prop} {Q : Exit → Act → World → Prop} {E : Prop}
    (hg : o.guard = none) (s x : Operand) (t : TypeId) (hop : o.op = Op.call { callee := Callee.builtin Builtin.append, args := #[s, x], argTypes := #[t, t] })
    (base : Nat) (e : TypeId) (i : TypeInfo) (z : Value) (bytes : Nat) (ht : P.underlying t = some (.slice e)) (hi : P.info? e = some i) (hz : i.zero = some z)
    (hsize : i.size = 1) (hby : i.bytes = bytes) (hzs : z.cells.size = 1) (hb1 : bytes ≤ 1000) (v : Value) (us : List Value) (hs : a.eval s = v) (hown : MovR e W base v us)
    (u : Value) (hu : u.oneCell' = true) (ad : Addr) (hx : a.eval x = .slice (some ad) 1 1) (hc : W.cell? ad = some u) (hlen : us.length + 1 ≤ 1000000000) (hbase : base ≤ W.heap.size)
    (hK : ∀ v' w', PushMv e W base v us u v' w' → K (a.put o.dst v') w') :
    if Region.wanted o (yielded ops a.tmps) = true then Oper.wp P o a W K Q else E := by
  have hw : Region.wanted o (yielded ops a.tmps) = true := by simp [Region.wanted, hg]
  rw [if_pos hw]
  obtain ⟨v', w', hrun, r1⟩ := run_pushMv (P := P) W base t o.type e i z bytes ht hi hz hsize hby hzs hb1 v us hown u hu ad hc hlen hbase
  unfold Oper.wp
  simp [execOp, hop, resolve, invoke, builtin, hs, hx, hrun, Result.andThen]
  exact hK v' w' r1

end Go.Proofs.YtkjjdoadjhjmbaeGreatDoor
namespace Go.Proofs.YtkjjdoadjhjmbaeGreatDoor
open Go.RowKit

abbrev StringD := ByteArray
abbrev StringT : TypeId := 9
def layString : Lay ByteArray := Lay.str
def layStringS : Lay (List ByteArray) := .rows StringT layString
theorem str_k (j : Nat) : j * layString.k = j := Nat.mul_one j
theorem layString_rd {w : World} {cs : List Value} {x : ByteArray} : layString.rd w cs x ↔ cs = [.string x] := Iff.rfl
theorem layString_own {w : World} {b : Nat} {f : List Nat} {cs : List Value} {x : ByteArray} : layString.own w b f cs x ↔ f = [] ∧ cs = [.string x] := Iff.rfl
theorem zeroString (w : World) (b : Nat) : layString.own w b [] [.string ⟨#[]⟩] ⟨#[]⟩ := ⟨rfl, rfl⟩
theorem zeroString_none (w : World) (b : Nat) (f : List Nat) (c : List Value) (h : layString.own w b f c ⟨#[]⟩) : f = [] := h.1
theorem flatString : Flat layString := ⟨fun _ _ _ _ h => layString_own.2 ⟨rfl, layString_rd.1 h⟩, fun _ _ _ _ _ h => (layString_own.1 h).1, fun _ _ _ _ h => layString_rd.2 (layString_rd.1 h)⟩
theorem infoString : (Tryz.prog.info? 9).map (fun i => (i.zero, i.size, i.bytes)) = some (some (.string ⟨#[]⟩), 1, 16) := by kernel_rfl
/-- Rows that are measured. -/
def FitsString (xs : List StringD) : Prop := xs.length ≤ 1048576 ∧ ∀ x ∈ xs, (x).size ≤ 1048576
def RoomString (xs : List StringD) : Prop := xs.length ≤ 9223372036854775807 ∧ ∀ x ∈ xs, (x).size ≤ 9223372036854775807
theorem markString_eq (q : Int) (x : StringD) : layString.mark q x = ((markTxt (q)), q + 1) := rfl
theorem marksString_num (k : Int) (xs : List StringD) : (layStringS.mark k xs).2 = k + 1 * (xs.length : Int) := by
  show (mkAll layString k xs).2 = _
  induction xs generalizing k with
  | nil => simp [mkAll]
  | cons x xs ih =>
    show (mkAll layString (layString.mark k x).2 xs).2 = _
    rw [ih, markString_eq]
    simp only [List.length_cons]
    omega
theorem marksString_next (k : Int) (xs : List StringD) (j : Nat) (x : StringD) (hx : xs[j]? = some x) : (layStringS.mark k (xs.take (j + 1))).1 = (layStringS.mark k (xs.take j)).1 ++ [(layString.mark (k + 1 * (j : Int)) x).1] := by
  have hj : j < xs.length := (List.getElem?_eq_some_iff.1 hx).1
  have e : xs.take (j + 1) = xs.take j ++ [x] := by rw [List.take_add_one, hx]; rfl
  have h2 := marksString_num k (xs.take j)
  show (mkAll layString k _).1 = (mkAll layString k _).1 ++ _
  rw [e, mkAll_append]
  have h3 : (mkAll layString k (xs.take j)).2 = k + 1 * (j : Int) := by
    have h4 : (mkAll layString k (xs.take j)).2 = _ := h2
    rw [h4, List.length_take, Nat.min_eq_left (by omega)]
  rw [h3]
  rfl
theorem marksString_get (k : Int) (xs : List StringD) (j : Nat) (x : StringD) (hx : xs[j]? = some x) : (layStringS.mark k xs).1[j]? = some (layString.mark (k + 1 * (j : Int)) x).1 := by
  have hj : j < xs.length := (List.getElem?_eq_some_iff.1 hx).1
  have h := marksString_next k xs j x hx
  have e : xs = xs.take (j + 1) ++ xs.drop (j + 1) := (List.take_append_drop _ _).symm
  have e2 : (layStringS.mark k xs).1 = (layStringS.mark k (xs.take (j + 1))).1 ++ (mkAll layString (layStringS.mark k (xs.take (j + 1))).2 (xs.drop (j + 1))).1 := by
    conv => lhs; rw [e]
    show (mkAll layString k _).1 = _
    rw [mkAll_append]
    rfl
  have hl : (layStringS.mark k (xs.take j)).1.length = j := by
    show (mkAll layString k _).1.length = j
    rw [mkAll_length, List.length_take]
    omega
  rw [e2, h, List.getElem?_append_left (by rw [List.length_append, hl]; simp), List.getElem?_append_right (by omega), hl, Nat.sub_self]
  rfl
end Go.Proofs.YtkjjdoadjhjmbaeGreatDoor
