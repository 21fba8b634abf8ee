/-
  The program's NoteSeen.
  'out = append(out, x)', told whether the row stays in its block or lies in a new one; no program is spoken of here.
-/
import Derived.Test.YtogninaejehinaeJ12
import Derived.Test.YtogninaejehinaeJ10
import Derived.ArgAppend
namespace Go.Proofs.Ytogninaejehinae
open Go.RowKit

set_option maxRecDepth 100000 in
set_option maxHeartbeats 3200000 in
theorem implNoteSeen_any (xs : List Int) (n : Int) (v : Value) (r : List Int) (hr : NoteIs xs n r) (hl : xs.length ≤ 10000000) (hwf : ∀ x ∈ xs, IntZ x) (_hwn : IntZ n) (w : World) (h : layIntS.rd w [v] xs) :
    Calls Try.prog 11 #[v, .int .i64 n] w fun e w' => OutS layIntS w r e w' := by
  obtain ⟨ao, cp, rfl⟩ := rows_form h
  obtain ⟨i0, hi0, hz0, hsz0, hby0⟩ := info_of infoInt
  have HR := Lib.hid h
  have HN := Lib.hid hr
  clear h hr
  obtain ⟨Q, HQ⟩ : ∃ Q : Ending → World → Prop, Hid (Q = fun e w' => OutS layIntS w r e w') := ⟨_, Lib.hid rfl⟩
  rw [← HQ.out]
  go_enter Try.func11, Try.ntmps11
  by_cases hs : SeenP xs
  rotate_left
  · obtain rfl : r = xs := by
      rcases HN.out with ⟨h, _⟩ | ⟨_, h⟩
      · exact absurd h.1 hs
      · exact h
    have K := Lib.hid (implSeenOk_bool r _ false ⟨fun e => (by cases e), fun e => absurd e hs⟩ (by omega) hwf w HR.out)
    clear hs HN hwf
    go_wp2_with fail
    refine (K.out).mono ?_
    rintro e Y ⟨rfl, hy⟩
    have B := Lib.hid hy
    have HRY := Lib.hid (layIntS.below HR.out hy)
    clear hy K HR
    have hbl : Below Y.heap.size Y (Y.alloc (.cells #[] 3)) := (Below.refl _ _).alloc (Nat.le_refl _) _
    go_wp2_with (at_builtin; refine wpList_copyF (Y.alloc (.cells #[] 3)) rfl _ _ 24 rfl Y.heap.size 3 i0 _ 8 Lay.int flatIntN Try.underlying24 hi0 hz0 hsz0 hby0 rfl (by omega) _ _ _ rfl (flat_lit Y _ (Nat.le_refl _)) (fun e => by cases e) _ r rfl (layIntS.below HRY.out hbl) (by simp; omega) (by simp) ?_; intro v1 w1 hown1 hnn1 hgr1 hbe1)
    have E : Hid (Q (.returned v1) w1) := by
      rw [HQ.out]
      exact Lib.hid ⟨v1, _, rfl, blk_dup v1, layIntS.lower hown1 B.out.size, B.out.trans ((hbl.trans hbe1).mono B.out.size)⟩
    clear hown1 hnn1 hgr1 hbe1 hbl
    go_wp2_with fail
    exact E.out
  · have HS := Lib.hid hs
    have K := Lib.hid (implSeenOk_bool xs _ true ⟨fun _ => hs, fun _ => rfl⟩ (by omega) hwf w HR.out)
    clear hs hwf
    go_wp2_with fail
    refine (K.out).mono ?_
    rintro e Y ⟨rfl, hy⟩
    have B := Lib.hid hy
    have K2 := Lib.hid (spanOf_any xs _ HS.out Y (layIntS.below HR.out hy))
    clear hy K HR
    go_wp2_with fail
    refine (K2.out).mono ?_
    rintro e Z ⟨f, c, rfl, hI, ⟨hf0, hf1⟩, hz⟩
    have B2 := Lib.hid (B.out.trans (hz.mono B.out.size))
    have HI := Lib.hid hI
    have hc := hI.lt
    clear hI hz K2 B
    have HV : Hid (VarP Z.heap.size SpanT (.int .i64 f) (.int .u8 (c : Int)) (Z.alloc (.cells #[.int .i64 f, .int .u8 (c : Int)] SpanT))) := Lib.hid (VarP.new Z SpanT _ _)
    have B3 : Hid (Below w.heap.size w (Z.alloc (.cells #[.int .i64 f, .int .u8 (c : Int)] SpanT))) := Lib.hid (B2.out.alloc B2.out.size _)
    have hwz := B2.out.size
    go_upto_region 4 with fail
    generalize Z.alloc (.cells #[.int .i64 f, .int .u8 (c : Int)] SpanT) = X at *
    have KT : Hid (∃ (t : Bool) (f2 : Int) (c2 : Nat), (0 ≤ f2 ∧ f2 ≤ 1000000000) ∧ c2 < 64 ∧ toldZ f2 c2 6 = r ∧ Calls Try.prog 14 #[.pointer (some ⟨Z.heap.size, 0, none⟩), .int .i64 n] X fun e w' => TakeEnd Z.heap.size f2 c2 t X e w') := Lib.hid (by
      rcases HN.out with ⟨hf, h⟩ | ⟨hf, h⟩
      · have hI2 := span_take HI.out hf (.inl ⟨hf, h⟩)
        have hr2 := (note_right hf (.inl ⟨hf, h⟩)).1
        have htop := HI.out.top
        have hfr := hf.2.2.2
        refine ⟨true, takeF f n, takeB f c n, span_range hr2 hI2, hI2.lt, span_told hr2 hI2, take_yes Z.heap.size f n c hf0 hf1 hc hf.2.1.1 hf.2.1.2 (by omega) (fun hlt => ?_) X HV.out⟩
        rw [Bool.eq_false_iff]
        intro he
        have h2 := (HI.out.bit _ (by omega)).1 he
        rw [show f - (((f - n).toNat : Nat) : Int) = n by omega] at h2
        exact hf.2.2.1 h2
      · exact ⟨false, f, c, ⟨hf0, hf1⟩, hc, by rw [h]; exact span_told HS.out HI.out, take_no Z.heap.size f n c hf0 hf1 hc (fun h3 => hf ((stand_fresh HS.out HI.out).1 h3)) X HV.out⟩)
    clear HN HS HI HV
    obtain ⟨t, f2, c2, ⟨hg0, hg1⟩, hc2, htold, hcall⟩ := KT.out
    have KC := Lib.hid hcall
    have HTO := Lib.hid htold
    clear KT hcall htold hf0 hf1 hc
    go_wp2_with fail
    refine (KC.out).mono ?_
    rintro e X2 ⟨rfl, hv, hch⟩
    have B4 := Lib.hid (B3.out.trans (hch.below (fun g hg => by rw [List.mem_singleton.1 hg]; exact hwz) B3.out.size))
    have K5 := Lib.hid (told_any Z.heap.size f2 c2 hg0 hg1 hc2 X2 hv)
    rw [HTO.out] at K5
    clear hv hch KC HTO B3 B2
    go_wp2_with fail
    refine (K5.out).mono ?_
    rintro e X3 ⟨v5, fp, rfl, hd, ho, hb⟩
    have E : Hid (Q (.returned v5) X3) := by
      rw [HQ.out]
      exact Lib.hid ⟨v5, fp, rfl, hd, layIntS.lower ho B4.out.size, B4.out.trans (hb.mono B4.out.size)⟩
    clear hd ho hb K5 B4
    go_wp2_with fail
    exact E.out

end Go.Proofs.Ytogninaejehinae
namespace Go.Proofs.Ytogninaejehinae
open Go.RowKit

theorem grown_some {w w' : World} {r : Option Nat} (h : w.grownBy w' none) : w.grownBy w' r := ⟨h.os, h.tape, h.output, h.size, fun k hk _ => h.block k hk (by simp)⟩
theorem wpList_pushT {α : Type} {P : Program} (w : World) {ops : Array Oper} {rest : List Oper} {o : Oper} {a : Act} {Q : Exit → Act → World → Prop} (hgd : o.guard = none) (s x : Operand) (t : TypeId)
    (ho : o.op = .call { callee := .builtin .append, args := #[s, x], argTypes := #[t, t] })
    (base : Nat) (e : TypeId) (i : TypeInfo) (z : Value) (bytes : Nat) (A : Lay α) (hf : Flat A) (ht : P.underlying t = some (.slice e)) (hi : P.info? e = some i) (hz : i.zero = some z)
    (hsize : i.size = A.k) (hby : i.bytes = bytes) (hzs : z.cells.size = A.k) (hb1 : bytes ≤ 1000) (v : Value) (f : List Nat) (xs : List α) (hs : a.eval s = v) (hown : (Lay.rows e A).own w base f [v] xs)
    (y : α) (cs : Array Value) (hcs : A.rd w cs.toList y) (hx : a.eval x = .slice (some ⟨w.heap.size, 0, none⟩) 1 1)
    (hlen : xs.length + 1 ≤ 1000000000) (hbase : base ≤ w.heap.size)
    (h : ∀ v' w', (Lay.rows e A).own w' base (blk v') [v'] (xs ++ [y]) → v' ≠ .slice none 0 0 → (blk v' = blk v ∨ ∀ k ∈ blk v', w.heap.size ≤ k) → w.grownBy w' v.ownBlock → Below base w w' → wpList P ops Q rest (a.put o.dst v') w') :
    wpList P ops Q (o :: rest) a (w.alloc (.cells cs e)) := by
  have hnews : ∀ j u, cs.toList[j]? = some u → (w.alloc (.cells cs e)).cell? ((⟨w.heap.size, 0, none⟩ : Addr).add j) = some u := by
    intro j u hj
    have e1 : (⟨w.heap.size, 0, none⟩ : Addr).add j = ⟨w.heap.size, j, none⟩ := by unfold Addr.add; split <;> simp_all
    rw [e1, cell_of_row (w.alloc (.cells cs e)) w.heap.size j cs e (0, 0) (heap_alloc_new w _)]
    simpa using hj
  have hbyt : (xs.length + 1) * bytes ≤ 140737488355328 := by
    have h1 : (xs.length + 1) * bytes ≤ 1000000000 * 1000 := Nat.mul_le_mul hlen hb1
    omega
  obtain ⟨us, h1, h2, hff⟩ := flat_inv hf hown
  have hlt : ∀ k, v.ownBlock = some k → base ≤ k := fun k hk => (World.ownsRow.lt h1 k hk).1
  have hnl : cs.toList.length = 1 * A.k := by rw [A.len hcs, Nat.one_mul]
  -- what a new block gives
  have big : ∀ (olds : List Value) (n : Nat), n = xs.length → rdAll A w olds xs → ∀ v' w', w'.ownsRow (w.alloc (.cells cs e)).heap.size e A.k v' (n + 1) (olds ++ cs.toList) → (w.alloc (.cells cs e)).grownBy w' none → wpList P ops Q rest (a.put o.dst v') w' := by
    intro olds n hn hr v' w' h3 h4
    have hg : w.grownBy w' none := grown_trans (World.grownBy_alloc w _ _) h4
    have h6 : w'.ownsRow (w.alloc (.cells cs e)).heap.size e A.k v' (xs ++ [y]).length (olds ++ cs.toList) := by rw [List.length_append, ← hn]; exact h3
    have h7 := flat_own hf h6 (rdAll_join A (hf.all hr) ⟨cs.toList, [], by simp, hf.any _ _ _ _ hcs, rfl⟩)
    have hsz : (w.alloc (.cells cs e)).heap.size = w.heap.size + 1 := by simp
    refine h v' w' ((Lay.rows e A).lower h7 (by omega)) (fun ev => ?_) (.inr fun k hk => ?_) (grown_some hg) (below_grown (grown_some hg) hlt hbase)
    · obtain ⟨a', c', hv'⟩ := rows_form ((Lay.rows e A).read h7)
      rw [ev] at hv'
      simp at hv'
    · have := ((Lay.rows e A).blocks h7 k hk).1
      omega
  rcases h1.2 with ⟨hv, h0⟩ | ⟨g, cap, cur, hv, _, _, hcap, _⟩
  · subst hv
    obtain rfl : xs = [] := List.length_eq_zero_iff.1 h0
    exact wpList_append_grows (w.alloc (.cells cs e)) hgd s x t ho e i z A.k bytes ht hi hz hsize hby hzs A.pos none 0 0 [] hs (fun _ => ⟨rfl, rfl⟩) (by simp) (fun b hb => by cases hb) ⟨w.heap.size, 0, none⟩ 1 1 cs.toList hx hnl hnews (A.one hcs) (by omega) (by unfold maxLen; omega) (by simpa using hbyt) (big [] 0 rfl rfl)
  · subst hv
    by_cases hfit : xs.length + 1 ≤ cap
    · refine wpList_append_fits (w.alloc (.cells cs e)) hgd s x t ho base e i A.k ht hi hsize g xs.length cap us hs (World.ownsRow.alloc h1 _) ⟨w.heap.size, 0, none⟩ 1 1 cs.toList hx hnl hnews (A.one hcs) hfit ?_
      intro w' h3 h4
      have hg : w.grownBy w' (some g) := grown_trans (World.grownBy_alloc w _ _) h4
      have h6 : w'.ownsRow base e A.k (.slice (some ⟨g, 0, none⟩) (xs.length + 1) cap) (xs ++ [y]).length (us ++ cs.toList) := by rw [List.length_append]; exact h3
      exact h _ w' (flat_own hf h6 (rdAll_join A (hf.all h2) ⟨cs.toList, [], by simp, hf.any _ _ _ _ hcs, rfl⟩)) (by simp) (.inl rfl) hg (below_grown hg hlt hbase)
    · have hrd := (Lay.rows e A).read hown
      obtain ⟨v2, hv2, hrd⟩ := hrd
      simp only [List.cons.injEq, and_true] at hv2
      subst hv2
      rcases hrd with ⟨_, a', c', hv', _⟩ | ⟨g', off', cap', us', hv', _, hg', hc', hr'⟩
      · simp only [Value.slice.injEq] at hv'
        obtain ⟨rfl, hxl, -⟩ := hv'
        obtain rfl : xs = [] := List.length_eq_zero_iff.1 hxl
        exact wpList_append_grows (w.alloc (.cells cs e)) hgd s x t ho e i z A.k bytes ht hi hz hsize hby hzs A.pos _ 0 cap [] hs (fun e => by cases e) (by simp) (fun b _ j u hj => by simp at hj) ⟨w.heap.size, 0, none⟩ 1 1 cs.toList hx hnl hnews (A.one hcs) (by simp at hfit; omega) (by unfold maxLen; omega) (by simpa using hbyt) (big [] 0 rfl rfl)
      · simp only [Value.slice.injEq, Option.some.injEq, Addr.mk.injEq, and_true, true_and] at hv'
        obtain ⟨⟨rfl, rfl⟩, rfl⟩ := hv'
        refine wpList_append_grows (w.alloc (.cells cs e)) hgd s x t ho e i z A.k bytes ht hi hz hsize hby hzs A.pos _ xs.length cap us' hs (fun e => by cases e) (rdAll_len A hr') (fun b hb j u hj => ?_) ⟨w.heap.size, 0, none⟩ 1 1 cs.toList hx hnl hnews (A.one hcs) (by omega) (by unfold maxLen; omega) hbyt (big us' _ rfl hr')
        cases hb
        have e1 : (⟨g, 0, none⟩ : Addr).add j = ⟨g, j, none⟩ := by unfold Addr.add; split <;> simp_all
        have h9 := hc' j u hj
        rw [Nat.zero_add] at h9
        rw [e1, ((Below.refl w.heap.size w).alloc (Nat.le_refl _) (.cells cs e)).cell (p := ⟨g, j, none⟩) hg']
        exact h9

/-- An append of one, run: the row stays in its block or lies in a new one. -/
theorem run_pushT {α : Type} {P : Program} (W : World) (base : Nat) (t ty e : TypeId) (i : TypeInfo) (z : Value) (bytes : Nat) (A : Lay α) (hf : Flat A) (ht : P.underlying t = some (.slice e)) (hi : P.info? e = some i) (hz : i.zero = some z)
    (hsize : i.size = A.k) (hby : i.bytes = bytes) (hzs : z.cells.size = A.k) (hb1 : bytes ≤ 1000) (v : Value) (f : List Nat) (xs : List α) (hown : (Lay.rows e A).own W base f [v] xs)
    (y : α) (cs : List Value) (hcs : A.rd W cs y) (ad : Addr) (hc : ∀ j u, cs[j]? = some u → W.cell? (ad.add j) = some u) (hlen : xs.length + 1 ≤ 1000000000) (hbase : base ≤ W.heap.size) :
    ∃ v' w', (Builtin.append_ #[t, t] ty #[v, .slice (some ad) 1 1]).run P W = .ok v' w' ∧ (Lay.rows e A).own w' base (blk v') [v'] (xs ++ [y]) ∧ v' ≠ .slice none 0 0 ∧ (blk v' = blk v ∨ ∀ k ∈ blk v', W.heap.size ≤ k) ∧ W.grownBy w' v.ownBlock ∧ Below base W w' := by
  have hbyt : (xs.length + 1) * bytes ≤ 140737488355328 := by
    have h1 : (xs.length + 1) * bytes ≤ 1000000000 * 1000 := Nat.mul_le_mul hlen hb1
    omega
  obtain ⟨us, h1, h2, hff⟩ := flat_inv hf hown
  have hlt : ∀ k, v.ownBlock = some k → base ≤ k := fun k hk => (World.ownsRow.lt h1 k hk).1
  have hnl : cs.length = 1 * A.k := by rw [A.len hcs, Nat.one_mul]
  have big : ∀ (olds : List Value) (n : Nat), n = xs.length → rdAll A W olds xs → ∀ v' w', w'.ownsRow W.heap.size e A.k v' (n + 1) (olds ++ cs) → W.grownBy w' none → (Lay.rows e A).own w' base (blk v') [v'] (xs ++ [y]) ∧ v' ≠ .slice none 0 0 ∧ (blk v' = blk v ∨ ∀ k ∈ blk v', W.heap.size ≤ k) ∧ W.grownBy w' v.ownBlock ∧ Below base W w' := by
    intro olds n hn hr v' w' h3 hg
    have h6 : w'.ownsRow W.heap.size e A.k v' (xs ++ [y]).length (olds ++ cs) := by rw [List.length_append, ← hn]; exact h3
    have h7 := flat_own hf h6 (rdAll_join A (hf.all hr) ⟨cs, [], by simp, hf.any _ _ _ _ hcs, rfl⟩)
    refine ⟨(Lay.rows e A).lower h7 hbase, fun ev => ?_, .inr fun k hk => ((Lay.rows e A).blocks h7 k hk).1, grown_some hg, below_grown (grown_some hg) hlt hbase⟩
    obtain ⟨a', c', hv'⟩ := rows_form ((Lay.rows e A).read h7)
    rw [ev] at hv'
    simp at hv'
  rcases h1.2 with ⟨hv, h0⟩ | ⟨g, cap, cur, hv, _, _, hcap, _⟩
  · subst hv
    obtain rfl : xs = [] := List.length_eq_zero_iff.1 h0
    obtain ⟨v', w', hrun, r1, r2, _⟩ := run_append_own (P := P) W W.heap.size t ty e i z A.k bytes ht hi hz hsize hby hzs A.pos (.slice none 0 0) 0 [] (World.ownsRow_nil W _ e A.k) ad 1 1 cs hnl hc (A.one hcs) (by unfold maxLen; omega) (by simpa using hbyt) (Nat.le_refl _)
    exact ⟨v', w', hrun, big [] 0 rfl rfl v' w' r1 r2⟩
  · subst hv
    by_cases hfit : xs.length + 1 ≤ cap
    · obtain ⟨w', hrun, r1, r2⟩ := run_append_fits (P := P) W base t ty e i A.k ht hi hsize g xs.length cap us h1 ad 1 1 cs hnl hc (A.one hcs) hfit
      have h6 : w'.ownsRow base e A.k (.slice (some ⟨g, 0, none⟩) (xs.length + 1) cap) (xs ++ [y]).length (us ++ cs) := by rw [List.length_append]; exact r1
      exact ⟨_, w', hrun, flat_own hf h6 (rdAll_join A (hf.all h2) ⟨cs, [], by simp, hf.any _ _ _ _ hcs, rfl⟩), by simp, .inl rfl, r2, below_grown r2 hlt hbase⟩
    · have hrd := (Lay.rows e A).read hown
      obtain ⟨v2, hv2, hrd⟩ := hrd
      simp only [List.cons.injEq, and_true] at hv2
      subst hv2
      rcases hrd with ⟨_, a', c', hv', _⟩ | ⟨g', off', cap', us', hv', _, hg', hc', hr'⟩
      · simp only [Value.slice.injEq] at hv'
        obtain ⟨rfl, hxl, -⟩ := hv'
        obtain rfl : xs = [] := List.length_eq_zero_iff.1 hxl
        obtain ⟨v', w', hrun, r1, r2⟩ := run_append_arg_grows (P := P) W t ty e i z A.k bytes ht hi hz hsize hby hzs A.pos ⟨g, 0, none⟩ 0 cap [] (by simp) (fun j u hj => by simp at hj) ad 1 1 cs hnl hc (by simp at hfit; omega) (by unfold maxLen; omega) (by simpa using hbyt)
        exact ⟨v', w', hrun, big [] 0 rfl rfl v' w' r1 r2⟩
      · simp only [Value.slice.injEq, Option.some.injEq, Addr.mk.injEq, and_true, true_and] at hv'
        obtain ⟨⟨rfl, rfl⟩, rfl⟩ := hv'
        obtain ⟨v', w', hrun, r1, r2⟩ := run_append_arg_grows (P := P) W t ty e i z A.k bytes ht hi hz hsize hby hzs A.pos ⟨g, 0, none⟩ xs.length cap us' (rdAll_len A hr') (fun j u hj => by
          have e1 : (⟨g, 0, none⟩ : Addr).add j = ⟨g, j, none⟩ := by unfold Addr.add; split <;> simp_all
          have h9 := hc' j u hj
          rw [Nat.zero_add] at h9
          rw [e1]
          exact h9) ad 1 1 cs hnl hc (by omega) (by unfold maxLen; omega) hbyt
        exact ⟨v', w', hrun, big us' _ rfl hr' v' w' r1 r2⟩
/-- 'out = append(out, x)' as a step of a region that draws its order, told whether the row stays in its block. -/
theorem step_pushT {α : Type} {P : Program} {ops : Array Oper} {o : Oper} {a : Act} {W : World} {K : Act → World → Prop} {Q : Exit → Act → World → Prop} {E : Prop}
    (hg : o.guard = none) (s x : Operand) (t : TypeId) (hop : o.op = Op.call { callee := Callee.builtin Builtin.append, args := #[s, x], argTypes := #[t, t] })
    (base : Nat) (e : TypeId) (i : TypeInfo) (z : Value) (bytes : Nat) (A : Lay α) (hf : Flat A) (ht : P.underlying t = some (.slice e)) (hi : P.info? e = some i) (hz : i.zero = some z)
    (hsize : i.size = A.k) (hby : i.bytes = bytes) (hzs : z.cells.size = A.k) (hb1 : bytes ≤ 1000) (v : Value) (f : List Nat) (xs : List α) (hs : a.eval s = v) (hown : (Lay.rows e A).own W base f [v] xs)
    (y : α) (cs : List Value) (hcs : A.rd W cs y) (ad : Addr) (hx : a.eval x = .slice (some ad) 1 1) (hc : ∀ j u, cs[j]? = some u → W.cell? (ad.add j) = some u)
    (hlen : xs.length + 1 ≤ 1000000000) (hbase : base ≤ W.heap.size)
    (hK : ∀ v' w', (Lay.rows e A).own w' base (blk v') [v'] (xs ++ [y]) → v' ≠ .slice none 0 0 → (blk v' = blk v ∨ ∀ k ∈ blk v', W.heap.size ≤ k) → W.grownBy w' v.ownBlock → Below base W w' → K (a.put o.dst v') w') :
    if Region.wanted o (yielded ops a.tmps) = true then Oper.wp P o a W K Q else E := by
  have hw : Region.wanted o (yielded ops a.tmps) = true := by simp [Region.wanted, hg]
  rw [if_pos hw]
  obtain ⟨v', w', hrun, r1, r2, r3, r4, r5⟩ := run_pushT (P := P) W base t o.type e i z bytes A hf ht hi hz hsize hby hzs hb1 v f xs hown y cs hcs ad hc hlen hbase
  unfold Oper.wp
  simp [execOp, hop, resolve, invoke, builtin, hs, hx, hrun, Result.andThen]
  exact hK v' w' r1 r2 r3 r4 r5

end Go.Proofs.Ytogninaejehinae
