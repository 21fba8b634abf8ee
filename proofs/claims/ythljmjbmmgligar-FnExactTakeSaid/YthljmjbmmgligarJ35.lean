/-
  Where a text that came belongs: slices.BinarySearchFunc with the program's closure.
  Rows of flat data as blocks: one more in its place; no program is spoken of here.
-/
import Derived.Test.YthljmjbmmgligarJ34
import Derived.Test.YthljmjbmmgligarJ09
import Derived.Test.YthljmjbmmgligarJ03
import Derived.Test.YthljmjbmmgligarJ32
import Derived.Lib.AppendZerosOnto
import Derived.Lib.Overlaps
namespace Go.Proofs.Ythljmjbmmgligar
open Go.RowKit

theorem earlyCmp_any (x0 : Int) (x1 : ByteArray) (num : Int) (z : Int) (hz : z = cmpI x0 num) (w : World) :
    Calls Try.prog 94 #[.agg #[.int .i64 x0, .string x1], .int .i64 num] w fun e w' => e = .returned (.int .i64 z) ∧ Below w.heap.size w w' := by
  have A0 := Lib.hid (VarA.new w EarlyT #[.int .i64 x0, .string x1])
  have B0 := Lib.hid ((Below.refl w.heap.size w).alloc (Nat.le_refl _) (.cells #[.int .i64 x0, .string x1] EarlyT))
  have K : Hid (∀ w, Calls Try.prog 95 #[.int .i64 x0, .int .i64 num] w fun e w' => e = .returned (.int .i64 z) ∧ w' = w) := Lib.hid (fun w => by rw [hz]; exact compare_any x0 num w)
  clear hz
  go_enter Try.func94, Try.ntmps94
  go_upto_region 1 with fail
  generalize w.alloc (.cells #[.int .i64 x0, .string x1] EarlyT) = X0 at *
  have c0 : X0.cell? ⟨w.heap.size, 0, none⟩ = some (.int .i64 x0) := A0.out.cell 0
  go_wp2_with fail
  refine (K.out _).mono ?_
  rintro e X1 ⟨rfl, hw⟩
  have hw' := hw.symm
  subst hw'
  clear hw
  go_wp2_with fail
  go_ret
  exact ⟨rfl, B0.out⟩

/-- The place of a number, and whether it is there. -/
structure PlaceE (num : Int) (es : List EarlyD) (i : Nat) (b : Bool) : Prop where
  le : i ≤ es.length
  less : ∀ k x, k < i → es[k]? = some x → x.1 < num
  more : ∀ k x, i ≤ k → es[k]? = some x → num ≤ x.1
  there : b = true ↔ ∃ x, es[i]? = some x ∧ x.1 = num
def SearchEnd (num : Int) (es : List EarlyD) (w : World) (e : Ending) (w' : World) : Prop := ∃ (i : Nat) (b : Bool), e = .returned (.tuple #[.int .i64 i, .bool b]) ∧ PlaceE num es i b ∧ Below w.heap.size w w'
theorem asc_lt {es : List EarlyD} (h : es.Pairwise (fun a b => a.1 < b.1)) {i j : Nat} {x y : EarlyD} (hij : i < j) (hx : es[i]? = some x) (hy : es[j]? = some y) : x.1 < y.1 := by
  obtain ⟨h1, rfl⟩ := List.getElem?_eq_some_iff.1 hx
  obtain ⟨h2, rfl⟩ := List.getElem?_eq_some_iff.1 hy
  exact List.pairwise_iff_getElem.1 h i j h1 h2 hij

set_option maxRecDepth 100000 in
set_option maxHeartbeats 3200000 in
theorem search_any (num : Int) (es : List EarlyD) (v : Value) (hl : es.length ≤ 100000000) (hasc : es.Pairwise (fun a b => a.1 < b.1)) (w : World) (h : layEarlyS.rd w [v] es) :
    Calls Try.prog 93 #[v, .int .i64 num, .func (.func 94) #[] #[]] w (SearchEnd num es w) := by
  obtain ⟨ea, ec, rfl⟩ := rows_form h
  have HR := Lib.hid h
  have HA := Lib.hid hasc
  have HK := Lib.hid earlyCmp_any
  clear h hasc
  go_enter Try.func93, Try.ntmps93
  go_wp2_with fail
  go_loopw [9, 10] (fun ci cj wr => ∃ i j : Nat, i ≤ j ∧ j ≤ es.length ∧ ci = .int .i64 i ∧ cj = .int .i64 j ∧ Hid (∀ k x, k < i → es[k]? = some x → x.1 < num) ∧ Hid (∀ k x, j ≤ k → es[k]? = some x → num ≤ x.1) ∧ Hid (Below w.heap.size w wr)) (fun ci cj _ => (intOf cj).toNat - (intOf ci).toNat)
  case atStart => exact ⟨0, es.length, Nat.zero_le _, Nat.le_refl _, rfl, rfl, Lib.hid (fun k x hk => absurd hk (by omega)), Lib.hid (fun k x hk hx => absurd (List.getElem?_eq_some_iff.1 hx).1 (by omega)), Lib.hid (Below.refl _ _)⟩
  case round =>
    obtain ⟨i, j, hij, hj, rfl, rfl, HL, HM, HB⟩ := hrel
    by_cases hlt : i < j
    · have hlt' : (i : Int) < (j : Int) := by omega
      obtain ⟨m, hm⟩ : ∃ m : Nat, m = (i + j) / 2 := ⟨_, rfl⟩
      have hml : m < es.length := by omega
      have hmi : i ≤ m ∧ m < j := by omega
      have hml' : (m : Int) < (es.length : Int) := by omega
      have hget := List.getElem?_eq_getElem hml
      have HG : Hid (es[m]? = some es[m]) := Lib.hid hget
      obtain ⟨g, off, cs, rfl, hg, hr, hc⟩ := rows_elem (layEarlyS.below HR.out HB.out) m _ hget
      clear hget
      generalize es[m] = x at hr HG
      rw [layEarly_rd] at hr
      subst hr
      obtain ⟨x0, x1⟩ := x
      have d0 : wr.cell? ⟨g, off + m * 2, none⟩ = some (.int .i64 x0) := hc 0 _ rfl
      have d1 : wr.cell? ⟨g, off + m * 2 + 1, none⟩ = some (.string x1) := hc 1 _ rfl
      have hmid : ((i : Int) + (j : Int)) / 2 = (m : Int) := by omega
      clear hc
      clear hm
      have HMI := Lib.hid hmi
      by_cases hx : x0 < num
      · have HL2 : Hid (∀ k x, k < m + 1 → es[k]? = some x → x.1 < num) := Lib.hid (fun k x hk hkx => by
          rcases Nat.lt_or_ge k m with h1 | h1
          · have := asc_lt HA.out h1 hkx HG.out
            have h3 : x.1 < x0 := this
            omega
          · have : k = m := by omega
            subst this
            rw [HG.out] at hkx
            cases hkx
            exact hx)
        have HC := Lib.hid (HK.out x0 x1 num (-1) (by rw [cmpI, if_pos hx]) wr)
        clear hx
        go_wp2_with fail
        refine HC.out.mono ?_
        rintro e w1 ⟨rfl, hb1⟩
        have HB1 := Lib.hid (HB.out.trans (hb1.mono HB.out.size))
        clear hb1 HC
        go_wp2_with fail
        go_roundw
        case rel => exact ⟨m + 1, j, by have := HMI.out; omega, hj, by go_num, rfl, HL2, HM, HB1⟩
        case measure => have := HMI.out; simp [intOf]; omega
      · have HM2 : Hid (∀ k x, m ≤ k → es[k]? = some x → num ≤ x.1) := Lib.hid (fun k x hk hkx => by
          rcases Nat.lt_or_ge m k with h1 | h1
          · have := asc_lt HA.out h1 HG.out hkx
            have h3 : x0 < x.1 := this
            omega
          · have : k = m := by omega
            subst this
            rw [HG.out] at hkx
            cases hkx
            show num ≤ x0
            omega)
        obtain ⟨z, hz, hz0⟩ : ∃ z : Int, z = cmpI x0 num ∧ ¬ (z < 0) := by
          refine ⟨_, rfl, ?_⟩
          rw [cmpI, if_neg hx]
          split <;> omega
        have HC := Lib.hid (HK.out x0 x1 num z hz wr)
        clear hx hz
        go_wp2_with fail
        refine HC.out.mono ?_
        rintro e w1 ⟨rfl, hb1⟩
        have HB1 := Lib.hid (HB.out.trans (hb1.mono HB.out.size))
        clear hb1 HC
        go_wp2_with fail
        go_roundw
        case rel => exact ⟨i, m, by have := HMI.out; omega, by have := HMI.out; omega, rfl, rfl, HL, HM2, HB1⟩
        case measure => have := HMI.out; simp [intOf]; omega
    · have hlt' : ¬ ((i : Int) < (j : Int)) := by omega
      obtain rfl : i = j := by omega
      by_cases hin : i < es.length
      · have hin' : (i : Int) < (es.length : Int) := by omega
        have hget := List.getElem?_eq_getElem hin
        have HG : Hid (es[i]? = some es[i]) := Lib.hid hget
        obtain ⟨g, off, cs, rfl, hg, hr, hc⟩ := rows_elem (layEarlyS.below HR.out HB.out) i _ hget
        clear hget
        generalize es[i] = x at hr HG
        rw [layEarly_rd] at hr
        subst hr
        obtain ⟨x0, x1⟩ := x
        have d0 : wr.cell? ⟨g, off + i * 2, none⟩ = some (.int .i64 x0) := hc 0 _ rfl
        have d1 : wr.cell? ⟨g, off + i * 2 + 1, none⟩ = some (.string x1) := hc 1 _ rfl
        clear hc
        have hge := HM.out i _ (Nat.le_refl _) HG.out
        have hge' : num ≤ x0 := hge
        by_cases hx : x0 = num
        · have HP : Hid (PlaceE num es i true) := Lib.hid ⟨by omega, HL.out, HM.out, ⟨fun _ => ⟨_, HG.out, hx⟩, fun _ => rfl⟩⟩
          have HC := Lib.hid (HK.out x0 x1 num 0 (by rw [cmpI, if_neg (by omega), if_neg (by omega)]) wr)
          clear hx hge hge'
          go_wp2_with fail
          refine HC.out.mono ?_
          rintro e w1 ⟨rfl, hb1⟩
          have HB1 := Lib.hid (HB.out.trans (hb1.mono HB.out.size))
          clear hb1 HC
          go_wp2_with fail
          go_ret2
          exact ⟨i, true, rfl, HP.out, HB1.out⟩
        · have HP : Hid (PlaceE num es i false) := Lib.hid ⟨by omega, HL.out, HM.out, ⟨fun e => (by cases e), fun ⟨y, hy, he⟩ => by rw [HG.out] at hy; cases hy; exact absurd he hx⟩⟩
          have HC := Lib.hid (HK.out x0 x1 num 1 (by rw [cmpI, if_neg (by omega), if_pos (by omega)]) wr)
          clear hx hge hge'
          go_wp2_with fail
          refine HC.out.mono ?_
          rintro e w1 ⟨rfl, hb1⟩
          have HB1 := Lib.hid (HB.out.trans (hb1.mono HB.out.size))
          clear hb1 HC
          go_wp2_with fail
          go_ret2
          exact ⟨i, false, rfl, HP.out, HB1.out⟩
      · have hin' : ¬ ((i : Int) < (es.length : Int)) := by omega
        have HP : Hid (PlaceE num es i false) := Lib.hid ⟨by omega, HL.out, HM.out, ⟨fun e => (by cases e), fun ⟨y, hy, he⟩ => absurd (List.getElem?_eq_some_iff.1 hy).1 hin⟩⟩
        go_wp2_with fail
        go_ret2
        exact ⟨i, false, rfl, HP.out, HB.out⟩

end Go.Proofs.Ythljmjbmmgligar
namespace Go.Proofs.Ythljmjbmmgligar
open Go.RowKit

/-- 'copy(d, s)' over rows of elements of k cells. -/
theorem run_copyK {P : Program} (w : World) (dT sT ty elem : TypeId) (g o dLen dCap : Nat) (a : Addr) (sLen sCap : Nat) (cur : List Value) (t : TypeId) (cs : List Value) (m k : Nat)
    (hu : P.underlying dT = some (.slice elem)) (hs : (P.info? elem).map (·.size) = some k) (hg : w.heap[g]? = some (.cells cur.toArray t (0, 0))) (hm : Nat.min sLen dLen = m) (hn : cs.length = m * k)
    (hsrc : ∀ j v, cs[j]? = some v → w.cell? (a.add j) = some v) (hfit : o + cs.length ≤ cur.length) (h1 : ∀ v ∈ cs, v.oneCell' = true) :
    (Builtin.copy_ #[dT, sT] ty #[.slice (some ⟨g, o, none⟩) dLen dCap, .slice (some a) sLen sCap]).run P w = .ok (goInt m) (w.setRow g (splice cur o cs).toArray) := by
  have hl := run_loadCells_list (P := P) w a cs hsrc
  have hst := run_storeCells_at P g o t cs 0 cur.toArray w hg (by simpa using hfit) h1
  rw [hn] at hl
  cases hq : P.info? elem with
  | none => simp [hq] at hs
  | some i =>
    have hi : i.size = k := by simpa [hq] using hs
    simp [Builtin.copy_, run_underlying hu, Builtin.lenOf, Builtin.firstCells, sizeOf, typeInfo, hq, hi, hm, hl, hst, splice]
theorem wp_copyK {P : Program} (w : World) {o : Oper} {a : Act} {K : Act → World → Prop} {Q : Exit → Act → World → Prop} (d s : Operand) (t t' : TypeId)
    (ho : o.op = .call { callee := .builtin .copy, args := #[d, s], argTypes := #[t, t'] }) (v u : Value) (hd : a.eval d = v) (hs : a.eval s = u) {v' : Value} {w' : World}
    (hr : (Builtin.copy_ #[t, t'] o.type #[v, u]).run P w = .ok v' w') (h : K (a.put o.dst v') w') : o.wp P a w K Q := by
  unfold Oper.wp execOp
  simp only [ho, resolve, invoke, builtin, Sem.run_bind, Sem.run_pure, Result.andThen_ok, List.map_toArray, List.map_cons, List.map_nil, hd, hs, hr]
  exact h
theorem wpList_copyK {P : Program} (w : World) {ops : Array Oper} {rest : List Oper} {o : Oper} {a : Act} {Q : Exit → Act → World → Prop} (hgd : o.guard = none) (d s : Operand) (t t' : TypeId)
    (ho : o.op = .call { callee := .builtin .copy, args := #[d, s], argTypes := #[t, t'] }) (v u : Value) (hd : a.eval d = v) (hs : a.eval s = u) {v' : Value} {w' : World}
    (hr : (Builtin.copy_ #[t, t'] o.type #[v, u]).run P w = .ok v' w') (h : wpList P ops Q rest (a.put o.dst v') w') : wpList P ops Q (o :: rest) a w :=
  wpList_plain hgd fun _ hK => wp_copyK w d s t t' ho v u hd hs hr (hK _ _ h)
theorem step_copyK {P : Program} {ops : Array Oper} {o : Oper} {a : Act} {w : World} {K : Act → World → Prop} {Q : Exit → Act → World → Prop} {E : Prop}
    (hg : o.guard = none) (d x : Operand) (dT sT : TypeId) (hop : o.op = Op.call { callee := Callee.builtin Builtin.copy, args := #[d, x], argTypes := #[dT, sT] })
    (v u : Value) (hd : a.eval d = v) (hx : a.eval x = u) {v' : Value} {w' : World} (hr : (Builtin.copy_ #[dT, sT] o.type #[v, u]).run P w = .ok v' w') (hK : K (a.put o.dst v') w') :
    if Region.wanted o (yielded ops a.tmps) = true then Oper.wp P o a w K Q else E := by
  have hw : Region.wanted o (yielded ops a.tmps) = true := by simp [Region.wanted, hg]
  rw [if_pos hw]
  unfold Oper.wp
  simp [execOp, hop, resolve, invoke, builtin, hd, hx, hr, Result.andThen]
  exact hK

section
variable {α : Type}
theorem rdAll_drop (A : Lay α) {w : World} {us : List Value} {xs : List α} (h : rdAll A w us xs) (k : Nat) (hk : k ≤ xs.length) : rdAll A w (us.drop (k * A.k)) (xs.drop k) := by
  have e : xs = xs.take k ++ xs.drop k := (List.take_append_drop k xs).symm
  rw [e] at h
  obtain ⟨u1, u2, rfl, h1, h2⟩ := rdAll_append A h
  have hl := rdAll_len A h1
  rw [List.length_take, Nat.min_eq_left hk] at hl
  rw [← hl, List.drop_left]
  exact h2
/-- The row with one more in its place. -/
theorem rdAll_insert (A : Lay α) {w w' : World} (hf : Flat A) {cur c : List Value} {xs : List α} {x : α} (i : Nat) (hi : i ≤ xs.length) (h : rdAll A w (cur.take (xs.length * A.k)) xs) (hx : A.rd w c x) :
    rdAll A w' (cur.take (i * A.k) ++ (c ++ (cur.drop (i * A.k)).take ((xs.length - i) * A.k))) (xs.take i ++ x :: xs.drop i) := by
  have h1 := rdAll_take A h i
  rw [List.take_take, Nat.min_eq_left (Nat.mul_le_mul_right _ hi)] at h1
  have h2 := rdAll_drop A h i hi
  rw [List.drop_take, ← Nat.sub_mul] at h2
  exact rdAll_join A (hf.all h1) ⟨c, _, rfl, hf.any _ _ _ _ hx, hf.all h2⟩
end
/-- The end of an insertion by two copies within a row. -/
theorem splice_in (cur cs c : List Value) (a n : Nat) (hc : 0 < c.length) (hn : cs.length = n) (hfit : a + c.length + n ≤ cur.length) (hcs : cs = (cur.drop a).take n) :
    (splice (splice cur (a + c.length) cs) a c).take (a + c.length + n) = cur.take a ++ (c ++ (cur.drop a).take n) := by
  have e1 : (cur.take (a + c.length)).length = a + c.length := by rw [List.length_take]; omega
  have e2 : (cur.take a).length = a := by rw [List.length_take]; omega
  have t1 : (splice cur (a + c.length) cs).take a = cur.take a := by
    unfold splice
    rw [List.take_append_of_le_length (by rw [e1]; omega), List.take_take, Nat.min_eq_left (by omega)]
  have t2 : (splice cur (a + c.length) cs).drop (a + c.length) = cs ++ cur.drop (a + c.length + cs.length) := by
    unfold splice
    exact List.drop_left' e1
  generalize splice cur (a + c.length) cs = S1 at t1 t2
  unfold splice
  rw [t1, t2, ← hcs, show cur.take a ++ (c ++ (cs ++ cur.drop (a + c.length + cs.length))) = (cur.take a ++ (c ++ cs)) ++ cur.drop (a + c.length + cs.length) by simp]
  exact List.take_left' (by simp only [List.length_append, e2]; omega)
theorem splice_len (cur cs : List Value) (a : Nat) (h : a + cs.length ≤ cur.length) : (splice cur a cs).length = cur.length := by unfold splice; simp; omega
/-- The end of an insertion by two copies into a row of noughts. -/
theorem splice_out (old zs cs c : List Value) (n : Nat) (hn : cs.length = n) (_hz : c.length + n ≤ zs.length) :
    (splice (splice (old ++ zs) old.length c) (old.length + c.length) cs).take (old.length + c.length + n) = old ++ (c ++ cs) := by
  have t0 : splice (old ++ zs) old.length c = old ++ (c ++ zs.drop c.length) := by
    unfold splice
    rw [List.take_left, ← List.drop_drop, List.drop_left]
  rw [t0]
  have t1 : splice (old ++ (c ++ zs.drop c.length)) (old.length + c.length) cs = (old ++ c) ++ (cs ++ (zs.drop c.length).drop cs.length) := by
    have e : old ++ (c ++ zs.drop c.length) = (old ++ c) ++ zs.drop c.length := by simp
    rw [e]
    unfold splice
    rw [← List.length_append, List.take_left, ← List.drop_drop, List.drop_left]
  rw [t1, show (old ++ c) ++ (cs ++ (zs.drop c.length).drop cs.length) = (old ++ (c ++ cs)) ++ (zs.drop c.length).drop cs.length by simp]
  exact List.take_left' (by simp only [List.length_append]; omega)

end Go.Proofs.Ythljmjbmmgligar
