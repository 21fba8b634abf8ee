/-
  The given ShelfOk.
  A shelf as it lies; the laws' own functions over it.
  Rows of flat data as blocks: cut short, cleared, copied into; no program is spoken of here.
  Rows of flat data as blocks: one more in its place; no program is spoken of here.
  A row that was made and then filled by copy; no program is spoken of here.
-/
import Derived.Test.YthiicpbedgcmlaaJ07
import Derived.Test.YthiicpbedgcmlaaJ05
import Derived.Test.YthiicpbedgcmlaaJ04
import Derived.Laws.CopyOwn
import Derived.Lib.AppendZerosOnto
import Derived.Lib.Overlaps
namespace Go.Proofs.Ythiicpbedgcmlaa
open Go.RowKit

abbrev ShelfT : TypeId := 26
/-- Of one From and Id. -/
def OneV (x y : HeldV) : Prop := x.1 = y.1 ∧ x.2.1 = y.2.1
theorem take_next {α : Type} {l : List α} {j : Nat} (h : j < l.length) : l.take (j + 1) = l.take j ++ [l[j]] := by rw [List.take_add_one, List.getElem?_eq_getElem h]; rfl
set_option maxRecDepth 100000 in
set_option maxHeartbeats 3200000 in
theorem specShelfOk_bool (v : Value) (l : List HeldV) (c : Bool) (hc : c = true ↔ ShelfP l) (hl : l.length ≤ 100000000) (w : World) (h : layHeldS.rd w [v] l) :
    Calls Try.prog 26 #[.agg #[v]] w fun e w' => e = .returned (.bool c) ∧ Below w.heap.size w w' := by
  obtain ⟨a, p, rfl⟩ := rows_form h
  have A0 := Lib.hid (VarA.new w ShelfT #[.slice a l.length p])
  have B0 := Lib.hid ((Below.refl w.heap.size w).alloc (Nat.le_refl _) (.cells #[.slice a l.length p] ShelfT))
  have HR := Lib.hid h
  have HF : Hid (¬ ShelfP l → c = false) := Lib.hid (fun h => Bool.eq_false_iff.2 fun e => h (hc.1 e))
  have HC := Lib.hid hc
  have KH := Lib.hid specHeld_bool
  clear h hc
  go_enter Try.func26, Try.ntmps26
  go_upto_region 1 with fail
  generalize w.alloc (.cells #[.slice a l.length p] ShelfT) = Y at *
  go_wp2_with fail
  go_loopw [3] (fun i wr => ∃ j : Nat, j ≤ l.length ∧ i = .int .i64 j ∧ Hid (∀ x ∈ l.take j, HeldP x) ∧ Hid ((l.take j).Pairwise (fun x y => ¬ OneV x y)) ∧ Hid (VarA w.heap.size ShelfT #[.slice a l.length p] wr) ∧ Hid (Below w.heap.size w wr)) (fun i _ => l.length - (intOf i).toNat)
  case atStart => exact ⟨0, Nat.zero_le _, rfl, Lib.hid (by simp), Lib.hid (by simp), A0, B0⟩
  case round =>
    obtain ⟨j, hj, rfl, T1, T2, A1, B1⟩ := hrel
    have c0 : wr.cell? ⟨w.heap.size, 0, none⟩ = some (.slice a l.length p) := A1.out.cell 0
    by_cases hlt : j < l.length
    rotate_left
    · have hlt' : ¬ ((j : Int) < (l.length : Int)) := by omega
      obtain rfl : j = l.length := by omega
      rw [List.take_length] at T1 T2
      by_cases h3 : l.length ≤ 3
      · have k3 : decide ((l.length : Int) ≤ 3) = true := decide_eq_true (by omega)
        have k3' : (l.length : Int) ≤ 3 := by omega
        obtain rfl : c = true := HC.out.2 ⟨h3, T1.out, T2.out⟩
        go_wp2_with fail
        go_ret
        exact ⟨rfl, B1.out⟩
      · have k3 : decide ((l.length : Int) ≤ 3) = false := decide_eq_false (by omega)
        have k3' : ¬ ((l.length : Int) ≤ 3) := by omega
        obtain rfl := HF.out (fun h => h3 h.1)
        go_wp2_with fail
        go_ret
        exact ⟨rfl, B1.out⟩
    have hlt' : (j : Int) < (l.length : Int) := by omega
    obtain ⟨g, og, cs, rfl, hg, hr, hcl⟩ := rows_elem (layHeldS.below HR.out B1.out) j _ (List.getElem?_eq_getElem hlt)
    have HTN := Lib.hid (take_next hlt)
    have HLJ := Lib.hid (List.getElem_mem hlt)
    have HXJ := Lib.hid (List.getElem?_eq_getElem hlt)
    obtain ⟨y, hy⟩ : ∃ y, l[j] = y := ⟨_, rfl⟩
    rw [hy] at hr HTN HLJ HXJ
    clear hy
    obtain ⟨v3, v4, rfl, h3, h4⟩ := layHeld_rd.1 hr
    obtain ⟨y0, y1, y2, r3, r4, y5⟩ := y
    simp only at h3 h4
    have d0 : wr.cell? ⟨g, og + j * 6, none⟩ = some (.int .i64 y0) := hcl 0 _ rfl
    have d1 : wr.cell? ⟨g, og + j * 6 + 1, none⟩ = some (.int .i64 y1) := hcl 1 _ rfl
    have d2 : wr.cell? ⟨g, og + j * 6 + 2, none⟩ = some (.int .i64 y2) := hcl 2 _ rfl
    have d3 : wr.cell? ⟨g, og + j * 6 + 3, none⟩ = some v3 := hcl 3 _ rfl
    have d4 : wr.cell? ⟨g, og + j * 6 + 4, none⟩ = some v4 := hcl 4 _ rfl
    have d5 : wr.cell? ⟨g, og + j * 6 + 5, none⟩ = some (.int .i64 y5) := hcl 5 _ rfl
    obtain ⟨b, hb⟩ : ∃ b : Bool, b = true ↔ HeldP (y0, y1, y2, r3, r4, y5) := by
      by_cases h : HeldP (y0, y1, y2, r3, r4, y5)
      · exact ⟨true, ⟨fun _ => h, fun _ => rfl⟩⟩
      · exact ⟨false, ⟨fun e => (by cases e), fun e => absurd e h⟩⟩
    obtain ⟨pa, pc, rfl⟩ := rows_form h3
    obtain ⟨pb, pd, rfl⟩ := rows_form h4
    have K := Lib.hid (KH.out y0 y1 y2 _ r3 _ r4 y5 b hb wr h3 h4)
    have HB := Lib.hid hb
    clear hb h3 h4 hr hcl
    go_wp2_with fail
    refine K.out.mono ?_
    rintro e w1 ⟨rfl, hbw⟩
    have A2 := Lib.hid (A1.out.next hbw)
    have B2 := Lib.hid (B1.out.trans (hbw.mono B1.out.size))
    clear hbw K d0 d1 d2 d3 d4 d5 c0 A1 B1
    cases b with
    | false =>
      obtain rfl := HF.out (fun h => absurd (HB.out.2 (h.2.1 _ HLJ.out)) (by decide))
      go_wp2_with fail
      go_ret
      exact ⟨rfl, B2.out⟩
    | true =>
      have HY := Lib.hid (HB.out.1 rfl)
      clear HB
      go_wp2_with fail
      generalize wr = wo at *
      go_loopw [4] (fun i wr => ∃ k : Nat, k ≤ j ∧ i = .int .i64 k ∧ Hid (∀ x ∈ l.take k, ¬ OneV x (y0, y1, y2, r3, r4, y5)) ∧ Hid (VarA w.heap.size ShelfT #[.slice (some ⟨g, og, none⟩) l.length p] wr) ∧ Hid (Below w.heap.size w wr)) (fun i _ => j - (intOf i).toNat)
      case atStart => exact ⟨0, Nat.zero_le _, rfl, Lib.hid (by simp), A2, B2⟩
      case round =>
        obtain ⟨k, hk, rfl, T3, A3, B3⟩ := hrel
        have c0 : wr.cell? ⟨w.heap.size, 0, none⟩ = some (.slice (some ⟨g, og, none⟩) l.length p) := A3.out.cell 0
        by_cases hkj : k < j
        rotate_left
        · have hkj' : ¬ ((k : Int) < (j : Int)) := by omega
          obtain rfl : k = j := by omega
          go_wp2_with fail
          go_roundw
          case rel => exact ⟨k + 1, by omega, by go_num, Lib.hid (by
            rw [HTN.out]
            intro x hx
            rcases List.mem_append.1 hx with hx | hx
            · exact T1.out x hx
            · rw [List.mem_singleton.1 hx]; exact HY.out), Lib.hid (by
            rw [HTN.out]
            exact List.pairwise_append.2 ⟨T2.out, List.pairwise_singleton _ _, fun x hx z hz => by rw [List.mem_singleton.1 hz]; exact T3.out x hx⟩), A3, B3⟩
          case measure => simp [intOf]; omega
        have hkj' : (k : Int) < (j : Int) := by omega
        have hkl : k < l.length := by omega
        have hkl' : (k : Int) < (l.length : Int) := by omega
        obtain ⟨g', og', cs', hga, hg', hr', hcl'⟩ := rows_elem (layHeldS.below HR.out B3.out) k _ (List.getElem?_eq_getElem hkl)
        obtain ⟨g2', og2', cs2', hga2, hg2', hr2', hcl2'⟩ := rows_elem (layHeldS.below HR.out B3.out) j _ HXJ.out
        simp only [Option.some.injEq, Addr.mk.injEq, and_true] at hga hga2
        obtain ⟨rfl, rfl⟩ := hga
        obtain ⟨rfl, rfl⟩ := hga2
        have HTK := Lib.hid (take_next hkl)
        have HLK := Lib.hid (List.getElem_mem hkl)
        have HXK := Lib.hid (List.getElem?_eq_getElem hkl)
        obtain ⟨x, hx⟩ : ∃ x, l[k] = x := ⟨_, rfl⟩
        rw [hx] at hr' HTK HLK HXK
        clear hx
        obtain ⟨v3', v4', rfl, h3', h4'⟩ := layHeld_rd.1 hr'
        obtain ⟨v3'', v4'', rfl, h3'', h4''⟩ := layHeld_rd.1 hr2'
        obtain ⟨x0, x1, x2, q3, q4, x5⟩ := x
        have d0 : wr.cell? ⟨g, og + k * 6, none⟩ = some (.int .i64 x0) := hcl' 0 _ rfl
        have d1 : wr.cell? ⟨g, og + k * 6 + 1, none⟩ = some (.int .i64 x1) := hcl' 1 _ rfl
        have e0 : wr.cell? ⟨g, og + j * 6, none⟩ = some (.int .i64 y0) := hcl2' 0 _ rfl
        have e1 : wr.cell? ⟨g, og + j * 6 + 1, none⟩ = some (.int .i64 y1) := hcl2' 1 _ rfl
        clear h3' h4' h3'' h4'' hr' hr2' hcl' hcl2' hg' hg2'
        have HNO : Hid (¬ OneV (x0, x1, x2, q3, q4, x5) (y0, y1, y2, r3, r4, y5) → ∀ x ∈ l.take (k + 1), ¬ OneV x (y0, y1, y2, r3, r4, y5)) := Lib.hid (fun hn x hx => by
          rw [HTK.out] at hx
          rcases List.mem_append.1 hx with hx | hx
          · exact T3.out x hx
          · rw [List.mem_singleton.1 hx]; exact hn)
        by_cases h0 : x0 = y0
        rotate_left
        · have q0 : (x0 == y0) = false := by rw [beq_eq_false_iff_ne]; exact h0
          have HN2 := Lib.hid (HNO.out (fun h => h0 h.1))
          clear h0
          go_wp2_with fail
          go_quiet (fail)
          go_wp2_with fail
          go_roundw
          case rel => exact ⟨k + 1, by omega, by go_num, HN2, Lib.hid (A3.out.next (below_drewN (Below.refl _ _) _)), Lib.hid (below_drewN B3.out _)⟩
          case measure => simp [intOf]; omega
        have q0 : (x0 == y0) = true := by rw [beq_iff_eq]; exact h0
        by_cases h1 : x1 = y1
        rotate_left
        · have q1 : (x1 == y1) = false := by rw [beq_eq_false_iff_ne]; exact h1
          have HN2 := Lib.hid (HNO.out (fun h => h1 h.2))
          clear h0 h1
          go_wp2_with fail
          go_quiet (fail)
          go_wp2_with fail
          go_roundw
          case rel => exact ⟨k + 1, by omega, by go_num, HN2, Lib.hid (A3.out.next (below_drewN (Below.refl _ _) _)), Lib.hid (below_drewN B3.out _)⟩
          case measure => simp [intOf]; omega
        have q1 : (x1 == y1) = true := by rw [beq_iff_eq]; exact h1
        obtain rfl := HF.out (fun h => (List.pairwise_iff_getElem.1 h.2.2) k j hkl hlt hkj (by
          have a1 := HXK.out
          have a2 := HXJ.out
          rw [List.getElem?_eq_getElem hkl] at a1
          rw [List.getElem?_eq_getElem hlt] at a2
          rw [Option.some.inj a1, Option.some.inj a2]
          exact ⟨h0, h1⟩))
        clear h0 h1
        go_wp2_with fail
        go_quiet (fail)
        go_wp2_with fail
        go_ret
        exact ⟨rfl, below_drewN B3.out _⟩

end Go.Proofs.Ythiicpbedgcmlaa
namespace Go.Proofs.Ythiicpbedgcmlaa
open Go.RowKit

/-- A shelf is handed back. -/
def ShelfMade (w : World) (xs : List HeldD) (e : Ending) (w' : World) : Prop := ∃ v fp, e = .returned (.agg #[v]) ∧ fp.Nodup ∧ layHeldS.own w' w.heap.size fp [v] xs ∧ Below w.heap.size w w'
end Go.Proofs.Ythiicpbedgcmlaa
namespace Go.Proofs.Ythiicpbedgcmlaa
open Go.RowKit

section
variable {α : Type}

/-- The block of a row of the call's own. -/
structure RowK (e : TypeId) (A : Lay α) (w : World) (b g cap : Nat) (cur : List Value) (xs : List α) : Prop where
  low : b ≤ g
  heap : w.heap[g]? = some (.cells cur.toArray e (0, 0))
  room : xs.length ≤ cap
  max : cap ≤ maxLen
  size : cur.length = cap * A.k
  rd : rdAll A w (cur.take (xs.length * A.k)) xs
theorem RowK.of {e : TypeId} {A : Lay α} (hf : Flat A) {w : World} {b g n cap : Nat} {f : List Nat} {xs : List α} (h : (Lay.rows e A).own w b f [.slice (some ⟨g, 0, none⟩) n cap] xs) : ∃ cur, RowK e A w b g cap cur xs := by
  obtain ⟨us, h1, h2, _⟩ := flat_inv hf h
  rcases h1.2 with ⟨hv, _⟩ | ⟨g', cap', cur, hv, hb, hh, hc, hm, hs, ht⟩
  · cases hv
  · simp only [Value.slice.injEq, Option.some.injEq, Addr.mk.injEq, and_true] at hv
    obtain ⟨rfl, _, rfl⟩ := hv
    refine ⟨cur.toList, hb, by simpa using hh, hc, hm, by simpa using hs, ?_⟩
    rw [ht]
    exact h2
theorem RowK.own {e : TypeId} {A : Lay α} (hf : Flat A) {w : World} {b g cap : Nat} {cur : List Value} {xs : List α} (h : RowK e A w b g cap cur xs) : (Lay.rows e A).own w b [g] [.slice (some ⟨g, 0, none⟩) xs.length cap] xs := by
  have h1 : w.ownsRow b e A.k (.slice (some ⟨g, 0, none⟩) xs.length cap) xs.length (cur.take (xs.length * A.k)) := by
    refine ⟨rdAll_len A h.rd, .inr ⟨g, cap, cur.toArray, rfl, h.low, h.heap, h.room, h.max, by simpa using h.size, by simp⟩⟩
  exact flat_own hf h1 h.rd
theorem chg_setRow {w : World} {g : Nat} {cs : Array Value} : Chg [g] w (w.setRow g cs) := ⟨rfl, rfl, rfl, by simp [World.setRow], fun k _ hn => setRow_other w g k cs (fun e => hn (by simp [e]))⟩

end
end Go.Proofs.Ythiicpbedgcmlaa
namespace Go.Proofs.Ythiicpbedgcmlaa
open Go.RowKit

/-- 'copy(d, s)' over rows of elements of k cells. -/
theorem run_copyK {P : Program} (w : World) (dT sT ty elem : TypeId) (g o dLen dCap : Nat) (a : Addr) (sLen sCap : Nat) (cur : List Value) (t : TypeId) (cs : List Value) (m k : Nat)
    (hu : P.underlying dT = some (.slice elem)) (hs : (P.info? elem).map (·.size) = some k) (hg : w.heap[g]? = some (.cells cur.toArray t (0, 0))) (hm : Nat.min sLen dLen = m) (hn : cs.length = m * k)
    (hsrc : ∀ j v, cs[j]? = some v → w.cell? (a.add j) = some v) (hfit : o + cs.length ≤ cur.length) (h1 : ∀ v ∈ cs, v.oneCell' = true) :
    (Builtin.copy_ #[dT, sT] ty #[.slice (some ⟨g, o, none⟩) dLen dCap, .slice (some a) sLen sCap]).run P w = .ok (goInt m) (w.setRow g (splice cur o cs).toArray) := by
  have hl := run_loadCells_list (P := P) w a cs hsrc
  have hst := run_storeCells_at P g o t cs 0 cur.toArray w hg (by simpa using hfit) h1
  rw [hn] at hl
  cases hq : P.info? elem with
  | none => simp [hq] at hs
  | some i =>
    have hi : i.size = k := by simpa [hq] using hs
    simp [Builtin.copy_, run_underlying hu, Builtin.lenOf, Builtin.firstCells, sizeOf, typeInfo, hq, hi, hm, hl, hst, splice]
theorem wp_copyK {P : Program} (w : World) {o : Oper} {a : Act} {K : Act → World → Prop} {Q : Exit → Act → World → Prop} (d s : Operand) (t t' : TypeId)
    (ho : o.op = .call { callee := .builtin .copy, args := #[d, s], argTypes := #[t, t'] }) (v u : Value) (hd : a.eval d = v) (hs : a.eval s = u) {v' : Value} {w' : World}
    (hr : (Builtin.copy_ #[t, t'] o.type #[v, u]).run P w = .ok v' w') (h : K (a.put o.dst v') w') : o.wp P a w K Q := by
  unfold Oper.wp execOp
  simp only [ho, resolve, invoke, builtin, Sem.run_bind, Sem.run_pure, Result.andThen_ok, List.map_toArray, List.map_cons, List.map_nil, hd, hs, hr]
  exact h
theorem wpList_copyK {P : Program} (w : World) {ops : Array Oper} {rest : List Oper} {o : Oper} {a : Act} {Q : Exit → Act → World → Prop} (hgd : o.guard = none) (d s : Operand) (t t' : TypeId)
    (ho : o.op = .call { callee := .builtin .copy, args := #[d, s], argTypes := #[t, t'] }) (v u : Value) (hd : a.eval d = v) (hs : a.eval s = u) {v' : Value} {w' : World}
    (hr : (Builtin.copy_ #[t, t'] o.type #[v, u]).run P w = .ok v' w') (h : wpList P ops Q rest (a.put o.dst v') w') : wpList P ops Q (o :: rest) a w :=
  wpList_plain hgd fun _ hK => wp_copyK w d s t t' ho v u hd hs hr (hK _ _ h)
theorem step_copyK {P : Program} {ops : Array Oper} {o : Oper} {a : Act} {w : World} {K : Act → World → Prop} {Q : Exit → Act → World → Prop} {E : Prop}
    (hg : o.guard = none) (d x : Operand) (dT sT : TypeId) (hop : o.op = Op.call { callee := Callee.builtin Builtin.copy, args := #[d, x], argTypes := #[dT, sT] })
    (v u : Value) (hd : a.eval d = v) (hx : a.eval x = u) {v' : Value} {w' : World} (hr : (Builtin.copy_ #[dT, sT] o.type #[v, u]).run P w = .ok v' w') (hK : K (a.put o.dst v') w') :
    if Region.wanted o (yielded ops a.tmps) = true then Oper.wp P o a w K Q else E := by
  have hw : Region.wanted o (yielded ops a.tmps) = true := by simp [Region.wanted, hg]
  rw [if_pos hw]
  unfold Oper.wp
  simp [execOp, hop, resolve, invoke, builtin, hd, hx, hr, Result.andThen]
  exact hK

section
variable {α : Type}
theorem rdAll_drop (A : Lay α) {w : World} {us : List Value} {xs : List α} (h : rdAll A w us xs) (k : Nat) (hk : k ≤ xs.length) : rdAll A w (us.drop (k * A.k)) (xs.drop k) := by
  have e : xs = xs.take k ++ xs.drop k := (List.take_append_drop k xs).symm
  rw [e] at h
  obtain ⟨u1, u2, rfl, h1, h2⟩ := rdAll_append A h
  have hl := rdAll_len A h1
  rw [List.length_take, Nat.min_eq_left hk] at hl
  rw [← hl, List.drop_left]
  exact h2
end
theorem splice_len (cur cs : List Value) (a : Nat) (h : a + cs.length ≤ cur.length) : (splice cur a cs).length = cur.length := by unfold splice; simp; omega
end Go.Proofs.Ythiicpbedgcmlaa
namespace Go.Proofs.Ythiicpbedgcmlaa
open Go.RowKit

/-- 'copy(row, s)' where row has just as many elements as s. -/
theorem run_copy_made {α : Type} {P : Program} (w : World) (t ty e : TypeId) (A : Lay α) (hf : Flat A) (hu : P.underlying t = some (.slice e)) (hs : (P.info? e).map (·.size) = some A.k)
    (b g cap : Nat) (f : List Nat) (ys xs : List α) (hn : ys.length = xs.length) (hown : (Lay.rows e A).own w b f [.slice (some ⟨g, 0, none⟩) xs.length cap] ys) (u : Value) (hr : (Lay.rows e A).rd w [u] xs) :
    ∃ w', (Builtin.copy_ #[t, t] ty #[.slice (some ⟨g, 0, none⟩) xs.length cap, u]).run P w = .ok (goInt xs.length) w' ∧ (Lay.rows e A).own w' b [g] [.slice (some ⟨g, 0, none⟩) xs.length cap] xs ∧ Chg [g] w w' := by
  rw [← hn] at hown
  obtain ⟨cur, R⟩ := RowK.of hf hown
  have hroom := R.room
  have hsize := R.size
  obtain ⟨u', hu', hr⟩ := hr
  obtain rfl : u = u' := by simpa using hu'
  rcases hr with ⟨rfl, a', c', rfl, hc⟩ | ⟨g2, off, cap2, us, rfl, hroom2, hg2, hcell, hrd⟩
  · have hy : ys = [] := List.length_eq_zero_iff.1 hn
    subst hy
    cases a' with
    | none =>
      refine ⟨w, ?_, RowK.own hf R, Chg.refl _ _⟩
      cases hq : P.info? e with
      | none => simp [hq] at hs
      | some i => simp [Builtin.copy_, run_underlying hu, Builtin.lenOf, Builtin.firstCells, sizeOf, typeInfo, hq, storeCells]
    | some ad =>
      have hrun := run_copyK (P := P) w t t ty e g 0 0 cap ad 0 c' cur e [] 0 A.k hu hs R.heap rfl (by simp) (fun j v hj => by simp at hj) (by simp) (by simp)
      refine ⟨_, hrun, ?_, chg_setRow⟩
      have h2 : RowK e A (w.setRow g (splice cur 0 []).toArray) b g cap (splice cur 0 []) ([] : List α) := ⟨R.low, setRow_heap w g _ _ e _ R.heap, R.room, R.max, by rw [splice_len _ _ _ (by simp)]; exact R.size, by rw [List.length_nil, Nat.zero_mul, List.take_zero]; rfl⟩
      exact RowK.own hf h2
  · have hul := rdAll_len A hrd
    have hk2 : xs.length * A.k ≤ cap * A.k := Nat.mul_le_mul_right _ (by omega)
    have hrun := run_copyK (P := P) w t t ty e g 0 xs.length cap ⟨g2, off, none⟩ xs.length cap2 cur e us xs.length A.k hu hs R.heap (Nat.min_self _) hul (fun j v hj => by
      have e1 : (⟨g2, off, none⟩ : Addr).add j = ⟨g2, off + j, none⟩ := by unfold Addr.add; split <;> simp_all
      rw [e1]
      exact hcell j v hj) (by omega) (rdAll_one A hrd)
    refine ⟨_, hrun, ?_, chg_setRow⟩
    have h2 : RowK e A (w.setRow g (splice cur 0 us).toArray) b g cap (splice cur 0 us) xs := by
      refine ⟨R.low, setRow_heap w g _ _ e _ R.heap, by omega, R.max, by rw [splice_len _ _ _ (by omega)]; exact R.size, ?_⟩
      rw [← hul]
      unfold splice
      rw [List.take_zero, List.nil_append, List.take_left]
      exact hf.all hrd
    exact RowK.own hf h2
theorem Chg.trans2 {f : List Nat} {w w' w'' : World} (h : Chg f w w') (h2 : Chg f w' w'') : Chg f w w'' := ⟨h2.os.trans h.os, h2.tape.trans h.tape, h2.output.trans h.output, Nat.le_trans h.size h2.size, fun g hg hn => (h2.block g (by have := h.size; omega) hn).trans (h.block g hg hn)⟩

end Go.Proofs.Ythiicpbedgcmlaa
