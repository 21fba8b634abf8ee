/-
  'append' over a row with room of its own or none; 'make' in a region that draws; no program is spoken of here.
-/
import Derived.Test.YthiicpbedgcmlaaJ09
namespace Go.Proofs.Ythiicpbedgcmlaa
open Go.RowKit

section
variable {α : Type}
/-- A row of the call's own, or one whose room ends where it does. -/
def RowG (e : TypeId) (A : Lay α) (W : World) (base : Nat) (f : List Nat) (v : Value) (xs : List α) : Prop := (Lay.rows e A).own W base f [v] xs ∨ ∃ g q, v = .slice (some ⟨g, 0, none⟩) xs.length xs.length ∧ (Lay.rows e A).own W base f [.slice (some ⟨g, 0, none⟩) xs.length q] xs
theorem RowG.keep {e : TypeId} {A : Lay α} {W W' : World} {base : Nat} {f : List Nat} {v : Value} {xs : List α} (h : RowG e A W base f v xs) (hk : ∀ g ∈ f, W'.heap[g]? = W.heap[g]?) : RowG e A W' base f v xs := by
  rcases h with h | ⟨g, q, h1, h2⟩
  · exact .inl ((Lay.rows e A).keep h hk)
  · exact .inr ⟨g, q, h1, (Lay.rows e A).keep h2 hk⟩
theorem RowG.blocks {e : TypeId} {A : Lay α} {W : World} {base : Nat} {f : List Nat} {v : Value} {xs : List α} (h : RowG e A W base f v xs) : ∀ g ∈ f, base ≤ g ∧ g < W.heap.size := by
  rcases h with h | ⟨g, q, h1, h2⟩
  · exact (Lay.rows e A).blocks h
  · exact (Lay.rows e A).blocks h2
theorem RowG.next {e : TypeId} {A : Lay α} {W W' : World} {base : Nat} {f : List Nat} {v : Value} {xs : List α} (h : RowG e A W base f v xs) (hb : Below W.heap.size W W') : RowG e A W' base f v xs := h.keep (fun g hg => hb.block g (h.blocks g hg).2)
theorem run_pushR {P : Program} (W : World) (base : Nat) (t ty e : TypeId) (i : TypeInfo) (z : Value) (bytes : Nat) (A : Lay α) (ht : P.underlying t = some (.slice e)) (hi : P.info? e = some i) (hz : i.zero = some z)
    (hsize : i.size = A.k) (hby : i.bytes = bytes) (hzs : z.cells.size = A.k) (hb1 : bytes ≤ 1000) (v : Value) (f : List Nat) (xs : List α) (hown : RowG e A W base f v xs) (hd : f.Nodup)
    (y : α) (cs : List Value) (fy : List Nat) (hy : A.own W base fy cs y) (hdy : fy.Nodup) (hdis : ∀ k ∈ fy, k ∉ f) (ad : Addr) (hc : ∀ j u, cs[j]? = some u → W.cell? (ad.add j) = some u) (hlen : xs.length + 1 ≤ 1000000000) (hbase : base ≤ W.heap.size) :
    ∃ v' w', (Builtin.append_ #[t, t] ty #[v, .slice (some ad) 1 1]).run P W = .ok v' w' ∧ (∃ f', (Lay.rows e A).own w' base f' [v'] (xs ++ [y]) ∧ f'.Nodup ∧ ∀ k ∈ f', k ∈ f ∨ k ∈ fy ∨ W.heap.size ≤ k) ∧ Below base W w' ∧ Chg f W w' := by
  rcases hown with hown | ⟨g, q, rfl, hown⟩
  · obtain ⟨v', w', hrun, hp⟩ := run_pushL (P := P) W base t ty e i z bytes A ht hi hz hsize hby hzs hb1 v f xs hown hd y cs fy hy hdy hdis ad hc hlen hbase
    refine ⟨v', w', hrun, hp.own, hp.below, Chg.grown hp.grown f (fun k hk => ?_)⟩
    obtain ⟨v2, hv2, hown⟩ := hown
    simp only [List.cons.injEq, and_true] at hv2
    subst hv2
    rcases hown with ⟨rfl, rfl, rfl⟩ | ⟨g, cap, us, fq, rfl, rfl, _, _⟩
    · cases hk
    · cases hk
      simp
  · obtain ⟨v', w', hrun, h1, h2⟩ := run_pushFull (P := P) W base t ty e i z bytes A ht hi hz hsize hby hzs hb1 g q f xs hown hd y cs fy hy hdy hdis ad hc hlen hbase
    exact ⟨v', w', hrun, h1, h2.mono hbase, Below.chg h2 f⟩
theorem step_pushR {P : Program} {ops : Array Oper} {o : Oper} {a : Act} {W : World} {K : Act → World → Prop} {Q : Exit → Act → World → Prop} {E : Prop}
    (hg : o.guard = none) (s x : Operand) (t : TypeId) (hop : o.op = Op.call { callee := Callee.builtin Builtin.append, args := #[s, x], argTypes := #[t, t] })
    (base : Nat) (e : TypeId) (i : TypeInfo) (z : Value) (bytes : Nat) (A : Lay α) (ht : P.underlying t = some (.slice e)) (hi : P.info? e = some i) (hz : i.zero = some z)
    (hsize : i.size = A.k) (hby : i.bytes = bytes) (hzs : z.cells.size = A.k) (hb1 : bytes ≤ 1000) (v : Value) (f : List Nat) (xs : List α) (hs : a.eval s = v) (hown : RowG e A W base f v xs) (hd : f.Nodup)
    (y : α) (cs : List Value) (fy : List Nat) (hy : A.own W base fy cs y) (hdy : fy.Nodup) (hdis : ∀ k ∈ fy, k ∉ f) (ad : Addr) (hx : a.eval x = .slice (some ad) 1 1) (hc : ∀ j u, cs[j]? = some u → W.cell? (ad.add j) = some u)
    (hlen : xs.length + 1 ≤ 1000000000) (hbase : base ≤ W.heap.size)
    (hK : ∀ v' w', (∃ f', (Lay.rows e A).own w' base f' [v'] (xs ++ [y]) ∧ f'.Nodup ∧ ∀ k ∈ f', k ∈ f ∨ k ∈ fy ∨ W.heap.size ≤ k) → Below base W w' → Chg f W w' → K (a.put o.dst v') w') : if Region.wanted o (yielded ops a.tmps) = true then Oper.wp P o a W K Q else E := by
  have hw : Region.wanted o (yielded ops a.tmps) = true := by simp [Region.wanted, hg]
  rw [if_pos hw]
  obtain ⟨v', w', hrun, hp, hb, hch⟩ := run_pushR (P := P) W base t o.type e i z bytes A ht hi hz hsize hby hzs hb1 v f xs hown hd y cs fy hy hdy hdis ad hc hlen hbase
  unfold Oper.wp
  simp [execOp, hop, resolve, invoke, builtin, hs, hx, hrun, Result.andThen]
  exact hK v' w' hp hb hch
end
/-- 'make' as a step of a region that draws its order. -/
theorem step_make {P : Program} {ops : Array Oper} {o : Oper} {a : Act} {w : World} {K : Act → World → Prop} {Q : Exit → Act → World → Prop} {E : Prop}
    (hg : o.guard = none) (l c : Operand) (t : TypeId) (hop : o.op = Op.makeSlice t l c)
    (base : Nat) (e : TypeId) (i : TypeInfo) (z : Value) (size : Nat) (h1 : P.underlying t = some (.slice e)) (h2 : P.info? e = some i) (h3 : i.zero = some z) (h4 : i.size = size)
    (kl kc : IntKind) (n : Nat) (hl : a.eval l = .int kl (n : Int)) (hc : a.eval c = .int kc (n : Int)) (b2 : i.bytes * n ≤ 281474976710656) (b3 : n ≤ maxLen) (b4 : base ≤ w.heap.size)
    (hK : ∀ w', w'.ownsRow base e size (.slice (some ⟨w.heap.size, 0, none⟩) n n) n (madeCells z.cells (n * size)).toList → w.grownBy w' none → K (a.put o.dst (.slice (some ⟨w.heap.size, 0, none⟩) n n)) w') :
    if Region.wanted o (yielded ops a.tmps) = true then Oper.wp P o a w K Q else E := by
  have hw : Region.wanted o (yielded ops a.tmps) = true := by simp [Region.wanted, hg]
  rw [if_pos hw]
  obtain ⟨w', hrun, r1, r2⟩ := run_make_full (P := P) w base t e i z size h1 h2 h3 h4 kl kc n b2 b3 b4
  unfold Oper.wp
  simp [execOp, hop, hl, hc, hrun, Result.andThen]
  exact hK w' r1 r2

end Go.Proofs.Ythiicpbedgcmlaa
