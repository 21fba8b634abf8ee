/-
  'out = append(out, x)', told whether the row stays in its block or lies in a new one; no program is spoken of here.
  'out = append(out, x)' over rows whose elements hold rows; no program is spoken of here.
  Rows of what is held, held against each other.
-/
import Derived.Test.YtfhlpgngeiploabJ04
import Derived.ArgAppend
import Derived.Test.YtfhlpgngeiploabJ09
namespace Go.Proofs.Ytfhlpgngeiploab
open Go.RowKit

theorem grown_some {w w' : World} {r : Option Nat} (h : w.grownBy w' none) : w.grownBy w' r := ⟨h.os, h.tape, h.output, h.size, fun k hk _ => h.block k hk (by simp)⟩
end Go.Proofs.Ytfhlpgngeiploab
namespace Go.Proofs.Ytfhlpgngeiploab
open Go.RowKit

/-- A row with one more element, whose own rows lie apart: where it lies, what has changed. -/
structure Pushed {α : Type} (e : TypeId) (A : Lay α) (base : Nat) (v : Value) (f fy : List Nat) (xs : List α) (y : α) (W : World) (v' : Value) (w' : World) : Prop where
  own : ∃ f', (Lay.rows e A).own w' base f' [v'] (xs ++ [y]) ∧ f'.Nodup ∧ ∀ k ∈ f', k ∈ f ∨ k ∈ fy ∨ W.heap.size ≤ k
  some : v' ≠ .slice none 0 0
  grown : W.grownBy w' v.ownBlock
  below : Below base W w'
theorem run_pushL {α : Type} {P : Program} (W : World) (base : Nat) (t ty e : TypeId) (i : TypeInfo) (z : Value) (bytes : Nat) (A : Lay α) (ht : P.underlying t = some (.slice e)) (hi : P.info? e = some i) (hz : i.zero = some z)
    (hsize : i.size = A.k) (hby : i.bytes = bytes) (hzs : z.cells.size = A.k) (hb1 : bytes ≤ 1000) (v : Value) (f : List Nat) (xs : List α) (hown : (Lay.rows e A).own W base f [v] xs) (hd : f.Nodup)
    (y : α) (cs : List Value) (fy : List Nat) (hy : A.own W base fy cs y) (hdy : fy.Nodup) (hdis : ∀ k ∈ fy, k ∉ f) (ad : Addr) (hc : ∀ j u, cs[j]? = some u → W.cell? (ad.add j) = some u) (hlen : xs.length + 1 ≤ 1000000000) (hbase : base ≤ W.heap.size) :
    ∃ v' w', (Builtin.append_ #[t, t] ty #[v, .slice (some ad) 1 1]).run P W = .ok v' w' ∧ Pushed e A base v f fy xs y W v' w' := by
  have hbyt : (xs.length + 1) * bytes ≤ 140737488355328 := by
    have h1 : (xs.length + 1) * bytes ≤ 1000000000 * 1000 := Nat.mul_le_mul hlen hb1
    omega
  have hcs := A.read hy
  have hnl : cs.length = 1 * A.k := by rw [A.len hcs, Nat.one_mul]
  have hyb := A.blocks hy
  have hone : ownAll A W base fy cs [y] := ⟨fy, [], cs, [], by simp, by simp, hy, rfl, rfl⟩
  -- a new block
  have big : ∀ (olds : List Value) (fq : List Nat) (n : Nat), n = xs.length → ownAll A W base fq olds xs → fq.Nodup → (∀ k ∈ fq, k ∈ f) → (∀ k, v.ownBlock = some k → base ≤ k) → ∀ v' w', w'.ownsRow W.heap.size e A.k v' (n + 1) (olds ++ cs) → W.grownBy w' none → Pushed e A base v f fy xs y W v' w' := by
    intro olds fq n hn ha hfq hsub hlt v' w' h3 hg
    have hqb := ownAll_blocks A ha
    have hall := ownAll_join A ha hone
    have hkeep : ownAll A w' base (fq ++ fy) (olds ++ cs) (xs ++ [y]) := ownAll_keep A hall (fun k hk => by
      rcases List.mem_append.1 hk with hk | hk
      · exact hg.block k (hqb k hk).2 (by simp)
      · exact hg.block k (hyb k hk).2 (by simp))
    rcases h3.2 with ⟨hv, h0⟩ | ⟨g', cap', cur', hv, hgb, hrest⟩
    · omega
    · subst hv
      have hl : (xs ++ [y]).length = n + 1 := by rw [List.length_append, ← hn]; rfl
      have h4 : w'.ownsRow base e A.k (.slice (some ⟨g', 0, none⟩) (n + 1) cap') (n + 1) (olds ++ cs) := ownsRow_lower h3 hbase
      refine ⟨⟨g' :: (fq ++ fy), ⟨_, rfl, .inr ⟨g', cap', olds ++ cs, fq ++ fy, by rw [hl], rfl, by rw [hl]; exact h4, hkeep⟩⟩, ?_, ?_⟩, by simp, grown_some hg, below_grown (grown_some hg) hlt hbase⟩
      · refine List.nodup_cons.2 ⟨fun hm => ?_, List.nodup_append.2 ⟨hfq, hdy, fun a ha b hb e => hdis b hb (hsub b (e ▸ ha))⟩⟩
        rcases List.mem_append.1 hm with hm | hm
        · have := (hqb g' hm).2
          omega
        · have := (hyb g' hm).2
          omega
      · intro k hk
        rcases List.mem_cons.1 hk with rfl | hk
        · exact .inr (.inr hgb)
        · rcases List.mem_append.1 hk with hk | hk
          · exact .inl (hsub k hk)
          · exact .inr (.inl hk)
  obtain ⟨v2, hv2, hown⟩ := hown
  simp only [List.cons.injEq, and_true] at hv2
  subst hv2
  rcases hown with ⟨rfl, rfl, rfl⟩ | ⟨g, cap, us, fq, rfl, rfl, hrow, hall⟩
  · obtain ⟨v', w', hrun, r1, r2, _⟩ := run_append_own (P := P) W W.heap.size t ty e i z A.k bytes ht hi hz hsize hby hzs A.pos (.slice none 0 0) 0 [] (World.ownsRow_nil W _ e A.k) ad 1 1 cs hnl hc (A.one hcs) (by unfold maxLen; omega) (by simpa using hbyt) (Nat.le_refl _)
    exact ⟨v', w', hrun, big [] [] 0 rfl ⟨rfl, rfl⟩ List.nodup_nil (fun k hk => by cases hk) (fun k hk => by cases hk) v' w' r1 r2⟩
  · have hgb := ownsRow_block hrow
    have hnd := List.nodup_cons.1 hd
    have hlt : ∀ k, (Value.slice (some ⟨g, 0, none⟩) xs.length cap).ownBlock = some k → base ≤ k := fun k hk => by
      cases hk
      exact hgb.1
    by_cases hfit : xs.length + 1 ≤ cap
    · obtain ⟨w', hrun, r1, r2⟩ := run_append_fits (P := P) W base t ty e i A.k ht hi hsize g xs.length cap us hrow ad 1 1 cs hnl hc (A.one hcs) hfit
      have hqb := ownAll_blocks A hall
      have hj := ownAll_join A hall hone
      have hkeep : ownAll A w' base (fq ++ fy) (us ++ cs) (xs ++ [y]) := ownAll_keep A hj (fun k hk => by
        rcases List.mem_append.1 hk with hk | hk
        · exact r2.block k (hqb k hk).2 (fun e => by cases e; exact hnd.1 hk)
        · exact r2.block k (hyb k hk).2 (fun e => by cases e; exact hdis g hk (by simp)))
      have hl : (xs ++ [y]).length = xs.length + 1 := by rw [List.length_append]; rfl
      refine ⟨_, w', hrun, ⟨g :: (fq ++ fy), ⟨_, rfl, .inr ⟨g, cap, us ++ cs, fq ++ fy, by rw [hl], rfl, by rw [hl]; exact r1, hkeep⟩⟩, ?_, ?_⟩, by simp, r2, below_grown r2 hlt hbase⟩
      · refine List.nodup_cons.2 ⟨fun hm => ?_, List.nodup_append.2 ⟨hnd.2, hdy, fun a ha b hb e => hdis b hb (by simp [← e, ha])⟩⟩
        rcases List.mem_append.1 hm with hm | hm
        · exact hnd.1 hm
        · exact hdis g hm (by simp)
      · intro k hk
        rcases List.mem_cons.1 hk with rfl | hk
        · exact .inl (by simp)
        · rcases List.mem_append.1 hk with hk | hk
          · exact .inl (by simp [hk])
          · exact .inr (.inl hk)
    · have hcell := hrow.cells (g := g) rfl
      obtain ⟨v', w', hrun, r1, r2⟩ := run_append_arg_grows (P := P) W t ty e i z A.k bytes ht hi hz hsize hby hzs A.pos ⟨g, 0, none⟩ xs.length cap us (ownAll_len A hall) hcell ad 1 1 cs hnl hc (by omega) (by unfold maxLen; omega) hbyt
      exact ⟨v', w', hrun, big us fq _ rfl hall hnd.2 (fun k hk => by simp [hk]) hlt v' w' r1 r2⟩
/-- 'out = append(out, x)' where nothing draws. -/
theorem wpList_pushL {α : Type} {P : Program} (W : World) {ops : Array Oper} {rest : List Oper} {o : Oper} {a : Act} {Q : Exit → Act → World → Prop} (hgd : o.guard = none) (s x : Operand) (t : TypeId)
    (hop : o.op = Op.call { callee := Callee.builtin Builtin.append, args := #[s, x], argTypes := #[t, t] })
    (base : Nat) (e : TypeId) (i : TypeInfo) (z : Value) (bytes : Nat) (A : Lay α) (ht : P.underlying t = some (.slice e)) (hi : P.info? e = some i) (hz : i.zero = some z)
    (hsize : i.size = A.k) (hby : i.bytes = bytes) (hzs : z.cells.size = A.k) (hb1 : bytes ≤ 1000) (v : Value) (f : List Nat) (xs : List α) (hs : a.eval s = v) (hown : (Lay.rows e A).own W base f [v] xs) (hd : f.Nodup)
    (y : α) (cs : List Value) (fy : List Nat) (hy : A.own W base fy cs y) (hdy : fy.Nodup) (hdis : ∀ k ∈ fy, k ∉ f) (ad : Addr) (hx : a.eval x = .slice (some ad) 1 1) (hc : ∀ j u, cs[j]? = some u → W.cell? (ad.add j) = some u)
    (hlen : xs.length + 1 ≤ 1000000000) (hbase : base ≤ W.heap.size)
    (hK : ∀ v' w', Pushed e A base v f fy xs y W v' w' → wpList P ops Q rest (a.put o.dst v') w') : wpList P ops Q (o :: rest) a W := by
  refine wpList_plain hgd fun K hK' => ?_
  obtain ⟨v', w', hrun, hp⟩ := run_pushL (P := P) W base t o.type e i z bytes A ht hi hz hsize hby hzs hb1 v f xs hown hd y cs fy hy hdy hdis ad hc hlen hbase
  unfold Oper.wp
  simp [execOp, hop, resolve, invoke, builtin, hs, hx, hrun, Result.andThen]
  exact hK' _ _ (hK v' w' hp)
/-- The same as a step of a region that draws its order. -/
theorem step_pushL {α : Type} {P : Program} {ops : Array Oper} {o : Oper} {a : Act} {W : World} {K : Act → World → Prop} {Q : Exit → Act → World → Prop} {E : Prop}
    (hg : o.guard = none) (s x : Operand) (t : TypeId) (hop : o.op = Op.call { callee := Callee.builtin Builtin.append, args := #[s, x], argTypes := #[t, t] })
    (base : Nat) (e : TypeId) (i : TypeInfo) (z : Value) (bytes : Nat) (A : Lay α) (ht : P.underlying t = some (.slice e)) (hi : P.info? e = some i) (hz : i.zero = some z)
    (hsize : i.size = A.k) (hby : i.bytes = bytes) (hzs : z.cells.size = A.k) (hb1 : bytes ≤ 1000) (v : Value) (f : List Nat) (xs : List α) (hs : a.eval s = v) (hown : (Lay.rows e A).own W base f [v] xs) (hd : f.Nodup)
    (y : α) (cs : List Value) (fy : List Nat) (hy : A.own W base fy cs y) (hdy : fy.Nodup) (hdis : ∀ k ∈ fy, k ∉ f) (ad : Addr) (hx : a.eval x = .slice (some ad) 1 1) (hc : ∀ j u, cs[j]? = some u → W.cell? (ad.add j) = some u)
    (hlen : xs.length + 1 ≤ 1000000000) (hbase : base ≤ W.heap.size)
    (hK : ∀ v' w', Pushed e A base v f fy xs y W v' w' → K (a.put o.dst v') w') : if Region.wanted o (yielded ops a.tmps) = true then Oper.wp P o a W K Q else E := by
  have hw : Region.wanted o (yielded ops a.tmps) = true := by simp [Region.wanted, hg]
  rw [if_pos hw]
  obtain ⟨v', w', hrun, hp⟩ := run_pushL (P := P) W base t o.type e i z bytes A ht hi hz hsize hby hzs hb1 v f xs hown hd y cs fy hy hdy hdis ad hc hlen hbase
  unfold Oper.wp
  simp [execOp, hop, resolve, invoke, builtin, hs, hx, hrun, Result.andThen]
  exact hK v' w' hp

end Go.Proofs.Ytfhlpgngeiploab
namespace Go.Proofs.Ytfhlpgngeiploab
open Go.RowKit

theorem infoHeld : (Try.prog.info? HeldT).map (fun i => (i.zero, i.size, i.bytes)) = some (some (.agg #[.int .i64 0, .int .i64 0, .int .i64 0, .slice none 0 0, .slice none 0 0, .int .i64 0]), 6, 80) := by kernel_rfl

set_option maxRecDepth 100000 in
set_option maxHeartbeats 3200000 in
theorem eqHeldS_same (v u : Value) (xs : List HeldD) (hl : xs.length ≤ 100000000) (hf : ∀ x ∈ xs, x.2.2.2.1.length ≤ 100000000 ∧ x.2.2.2.2.1.length ≤ 100000000) (w : World) (hv : layHeldS.rd w [v] xs) (hu : layHeldS.rd w [u] xs) :
    Calls Try.prog 22 #[v, u] w fun e w' => e = .returned (.bool true) ∧ Below w.heap.size w w' := by
  obtain ⟨ao, cp, rfl⟩ := rows_form hv
  obtain ⟨bo, dp, rfl⟩ := rows_form hu
  have HV := Lib.hid hv
  have HU := Lib.hid hu
  have HF := Lib.hid hf
  clear hv hu hf
  have K1 := eqHeld_same
  go_enter Try.func22, Try.ntmps22
  go_wp2_with fail
  go_loopw [5] (fun c wr => ∃ j : Nat, j ≤ xs.length ∧ c = .int .i64 j ∧ Below w.heap.size w wr) (fun c _ => xs.length - (intOf c).toNat)
  case atStart => exact ⟨0, Nat.zero_le _, rfl, Below.refl _ _⟩
  case round =>
    obtain ⟨j, hj, rfl, hb2⟩ := hrel
    by_cases hlt : j < xs.length
    · have hlt' : (j : Int) < (xs.length : Int) := by omega
      have hx := List.getElem?_eq_getElem hlt
      have hfx := HF.out _ (List.getElem_mem hlt)
      obtain ⟨g, og, cs, rfl, hg, hr, hc⟩ := rows_elem (layHeldS.below HV.out hb2.drew) j _ hx
      obtain ⟨h, oh, ds, rfl, hh, hs, hd⟩ := rows_elem (layHeldS.below HU.out hb2.drew) j _ hx
      generalize xs[j] = x at hr hs hfx
      obtain ⟨v3, v4, rfl, h3, h4⟩ := layHeld_rd.1 hr
      obtain ⟨u3, u4, rfl, k3, k4⟩ := layHeld_rd.1 hs
      obtain ⟨x0, x1, x2, r3, r4, x5⟩ := x
      simp only at h3 h4 k3 k4 hfx
      obtain ⟨pa, pc, rfl⟩ := rows_form h3
      obtain ⟨pb, pd, rfl⟩ := rows_form h4
      obtain ⟨qa, qc, rfl⟩ := rows_form k3
      obtain ⟨qb, qd, rfl⟩ := rows_form k4
      have E0 : Hid (wr.drew.cell? ⟨g, og + j * 6, none⟩ = some (.int .i64 x0) ∧ wr.drew.cell? ⟨g, og + j * 6 + 1, none⟩ = some (.int .i64 x1) ∧ wr.drew.cell? ⟨g, og + j * 6 + 2, none⟩ = some (.int .i64 x2) ∧ wr.drew.cell? ⟨g, og + j * 6 + 3, none⟩ = some (.slice pa r3.length pc) ∧ wr.drew.cell? ⟨g, og + j * 6 + 4, none⟩ = some (.slice pb r4.length pd) ∧ wr.drew.cell? ⟨g, og + j * 6 + 5, none⟩ = some (.int .i64 x5) ∧ wr.drew.cell? ⟨h, oh + j * 6, none⟩ = some (.int .i64 x0) ∧ wr.drew.cell? ⟨h, oh + j * 6 + 1, none⟩ = some (.int .i64 x1) ∧ wr.drew.cell? ⟨h, oh + j * 6 + 2, none⟩ = some (.int .i64 x2) ∧ wr.drew.cell? ⟨h, oh + j * 6 + 3, none⟩ = some (.slice qa r3.length qc) ∧ wr.drew.cell? ⟨h, oh + j * 6 + 4, none⟩ = some (.slice qb r4.length qd) ∧ wr.drew.cell? ⟨h, oh + j * 6 + 5, none⟩ = some (.int .i64 x5) ∧ Below w.heap.size w wr.drew) := ⟨hc 0 _ rfl, hc 1 _ rfl, hc 2 _ rfl, hc 3 _ rfl, hc 4 _ rfl, hc 5 _ rfl, hd 0 _ rfl, hd 1 _ rfl, hd 2 _ rfl, hd 3 _ rfl, hd 4 _ rfl, hd 5 _ rfl, hb2.drew⟩
      have H3 := Lib.hid h3
      have H4 := Lib.hid h4
      have K3 := Lib.hid k3
      have K4 := Lib.hid k4
      have HFX := Lib.hid hfx
      have hbd := hb2.drew
      have K2 : Hid (∀ X : World, Below wr.drew.heap.size wr.drew X → (X.cell? ⟨g, og + j * 6, none⟩ = some (.int .i64 x0) ∧ X.cell? ⟨g, og + j * 6 + 1, none⟩ = some (.int .i64 x1) ∧ X.cell? ⟨g, og + j * 6 + 2, none⟩ = some (.int .i64 x2) ∧ X.cell? ⟨g, og + j * 6 + 3, none⟩ = some (.slice pa r3.length pc) ∧ X.cell? ⟨g, og + j * 6 + 4, none⟩ = some (.slice pb r4.length pd) ∧ X.cell? ⟨g, og + j * 6 + 5, none⟩ = some (.int .i64 x5) ∧ X.cell? ⟨h, oh + j * 6, none⟩ = some (.int .i64 x0) ∧ X.cell? ⟨h, oh + j * 6 + 1, none⟩ = some (.int .i64 x1) ∧ X.cell? ⟨h, oh + j * 6 + 2, none⟩ = some (.int .i64 x2) ∧ X.cell? ⟨h, oh + j * 6 + 3, none⟩ = some (.slice qa r3.length qc) ∧ X.cell? ⟨h, oh + j * 6 + 4, none⟩ = some (.slice qb r4.length qd) ∧ X.cell? ⟨h, oh + j * 6 + 5, none⟩ = some (.int .i64 x5) ∧ Below w.heap.size w X) → Calls Try.prog 46 #[.agg #[.int .i64 x0, .int .i64 x1, .int .i64 x2, .slice pa r3.length pc, .slice pb r4.length pd, .int .i64 x5], .agg #[.int .i64 x0, .int .i64 x1, .int .i64 x2, .slice qa r3.length qc, .slice qb r4.length qd, .int .i64 x5]] X fun e Y => e = .returned (.bool true) ∧ (Y.cell? ⟨g, og + j * 6, none⟩ = some (.int .i64 x0) ∧ Y.cell? ⟨g, og + j * 6 + 1, none⟩ = some (.int .i64 x1) ∧ Y.cell? ⟨g, og + j * 6 + 2, none⟩ = some (.int .i64 x2) ∧ Y.cell? ⟨g, og + j * 6 + 3, none⟩ = some (.slice pa r3.length pc) ∧ Y.cell? ⟨g, og + j * 6 + 4, none⟩ = some (.slice pb r4.length pd) ∧ Y.cell? ⟨g, og + j * 6 + 5, none⟩ = some (.int .i64 x5) ∧ Y.cell? ⟨h, oh + j * 6, none⟩ = some (.int .i64 x0) ∧ Y.cell? ⟨h, oh + j * 6 + 1, none⟩ = some (.int .i64 x1) ∧ Y.cell? ⟨h, oh + j * 6 + 2, none⟩ = some (.int .i64 x2) ∧ Y.cell? ⟨h, oh + j * 6 + 3, none⟩ = some (.slice qa r3.length qc) ∧ Y.cell? ⟨h, oh + j * 6 + 4, none⟩ = some (.slice qb r4.length qd) ∧ Y.cell? ⟨h, oh + j * 6 + 5, none⟩ = some (.int .i64 x5) ∧ Below w.heap.size w Y)) := fun X hXw hX => by
        refine (K1 x0 x1 x2 _ _ r3 _ _ r4 x5 X (layStringS.below H3.out hXw) (layStringS.below K3.out hXw) HFX.out.1 (layBoolS.below H4.out hXw) (layBoolS.below K4.out hXw) HFX.out.2).mono ?_
        rintro e Y ⟨rfl, hb⟩
        obtain ⟨a0, a1, a2, a3, a4, a5, a6, a7, a8, a9, a10, a11, hbX⟩ := hX
        exact ⟨rfl, by rw [hb.cell (p := ⟨g, og + j * 6, none⟩) (World.block_lt_of_cell? _ _ a0)]; exact a0, by rw [hb.cell (p := ⟨g, og + j * 6 + 1, none⟩) (World.block_lt_of_cell? _ _ a1)]; exact a1, by rw [hb.cell (p := ⟨g, og + j * 6 + 2, none⟩) (World.block_lt_of_cell? _ _ a2)]; exact a2, by rw [hb.cell (p := ⟨g, og + j * 6 + 3, none⟩) (World.block_lt_of_cell? _ _ a3)]; exact a3, by rw [hb.cell (p := ⟨g, og + j * 6 + 4, none⟩) (World.block_lt_of_cell? _ _ a4)]; exact a4, by rw [hb.cell (p := ⟨g, og + j * 6 + 5, none⟩) (World.block_lt_of_cell? _ _ a5)]; exact a5, by rw [hb.cell (p := ⟨h, oh + j * 6, none⟩) (World.block_lt_of_cell? _ _ a6)]; exact a6, by rw [hb.cell (p := ⟨h, oh + j * 6 + 1, none⟩) (World.block_lt_of_cell? _ _ a7)]; exact a7, by rw [hb.cell (p := ⟨h, oh + j * 6 + 2, none⟩) (World.block_lt_of_cell? _ _ a8)]; exact a8, by rw [hb.cell (p := ⟨h, oh + j * 6 + 3, none⟩) (World.block_lt_of_cell? _ _ a9)]; exact a9, by rw [hb.cell (p := ⟨h, oh + j * 6 + 4, none⟩) (World.block_lt_of_cell? _ _ a10)]; exact a10, by rw [hb.cell (p := ⟨h, oh + j * 6 + 5, none⟩) (World.block_lt_of_cell? _ _ a11)]; exact a11, hbX.trans (hb.mono hbX.size)⟩
      clear hc hd hx K1 hb2 hr hs h3 h4 k3 k4 hbd hfx HFX
      go_wp2_with fail
      go_region_held3 (fun X => X.cell? ⟨g, og + j * 6, none⟩ = some (.int .i64 x0) ∧ X.cell? ⟨g, og + j * 6 + 1, none⟩ = some (.int .i64 x1) ∧ X.cell? ⟨g, og + j * 6 + 2, none⟩ = some (.int .i64 x2) ∧ X.cell? ⟨g, og + j * 6 + 3, none⟩ = some (.slice pa r3.length pc) ∧ X.cell? ⟨g, og + j * 6 + 4, none⟩ = some (.slice pb r4.length pd) ∧ X.cell? ⟨g, og + j * 6 + 5, none⟩ = some (.int .i64 x5) ∧ X.cell? ⟨h, oh + j * 6, none⟩ = some (.int .i64 x0) ∧ X.cell? ⟨h, oh + j * 6 + 1, none⟩ = some (.int .i64 x1) ∧ X.cell? ⟨h, oh + j * 6 + 2, none⟩ = some (.int .i64 x2) ∧ X.cell? ⟨h, oh + j * 6 + 3, none⟩ = some (.slice qa r3.length qc) ∧ X.cell? ⟨h, oh + j * 6 + 4, none⟩ = some (.slice qb r4.length qd) ∧ X.cell? ⟨h, oh + j * 6 + 5, none⟩ = some (.int .i64 x5) ∧ Below w.heap.size w X) (first | (with_reducible assumption) | (with_reducible exact E0.out)) (first | (go_at_call 46; refine (K2.out _ (Below.refl _ _) (by assumption)).mono ?_; rintro e v1 ⟨rfl, hS⟩))
      all_goals
        have HS := Lib.hid hS.2.2.2.2.2.2.2.2.2.2.2.2
        clear hS
        go_wp2_with fail
        go_roundw
        case rel => exact ⟨j + 1, by omega, by go_num, HS.out⟩
        case measure => simp [intOf]; omega
    · have hlt' : ¬ ((j : Int) < (xs.length : Int)) := by omega
      go_wp2_with fail
      go_ret
      exact ⟨rfl, hb2⟩

end Go.Proofs.Ytfhlpgngeiploab
