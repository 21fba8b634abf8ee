/-
  The program's copies of rows: of texts, of what is sent, of what came early.
  'append(out, list...)' as a step of a region that draws its order; no program is spoken of here.
-/
import Derived.Test.YthljmjbmmgligarJ07
import Derived.Test.YthljmjbmmgligarJ08
import Derived.Test.YthljmjbmmgligarJ09
import Derived.Test.YthljmjbmmgligarJ05
import Derived.Laws.OwnMore
namespace Go.Proofs.Ythljmjbmmgligar
open Go.RowKit

/-- What the library's Clone gives. -/
def CloneGives : Prop := ∀ (s : ByteArray) (w : World), s.size ≤ 1048576 → Calls Try.prog 61 #[.string s] w fun e w' => e = .returned (.string s) ∧ Below w.heap.size w w'
/-- A row is handed back, of the call's own. -/
def CopyS {α : Type} (A : Lay (List α)) (w : World) (xs : List α) (e : Ending) (w' : World) : Prop := ∃ (g k : Nat), e = .returned (.slice (some ⟨g, 0, none⟩) xs.length k) ∧ A.own w' w.heap.size [g] [.slice (some ⟨g, 0, none⟩) xs.length k] xs ∧ Below w.heap.size w w'

set_option maxRecDepth 100000 in
set_option maxHeartbeats 1600000 in
theorem copyOfTexts_any (HG : CloneGives) (v : Value) (xs : List ByteArray) (hl : xs.length ≤ 1048576) (hsz : ∀ x ∈ xs, x.size ≤ 1048576) (w : World) (h : layStringS.rd w [v] xs) :
    Calls Try.prog 81 #[v] w (CopyS layStringS w xs) := by
  obtain ⟨a, cap, rfl⟩ := rows_form h
  obtain ⟨i0, hi0, hz0, hsz0, hby0⟩ := info_of infoString
  have HS := Lib.hid h
  have HC := Lib.hid HG
  have HZ := Lib.hid hsz
  clear h HG hsz
  go_enter Try.func81, Try.ntmps81
  go_wp2_with (at_make; refine wpList_make_own _ rfl _ _ 22 rfl w.heap.size StringT i0 (.string ⟨#[]⟩) 1 Try.underlying22 hi0 hz0 hsz0 .i64 .i64 _ xs.length rfl rfl rfl (by rw [hby0]; omega) (by unfold maxLen; omega) (Nat.le_refl _) ?_)
  intro w1 hown1 hg1
  have O1 : Hid (layStringS.own w1 w.heap.size [w.heap.size] [.slice (some ⟨w.heap.size, 0, none⟩) 0 xs.length] []) := flat_own flatString hown1 rfl
  have B1 : Hid (Below w.heap.size w w1) := below_grown hg1 (fun k h => by cases h) (Nat.le_refl _)
  clear hown1 hg1
  go_wp2_with fail
  go_loopw [3, 11] (fun t c wr => ∃ (j g k : Nat) (ys : List ByteArray), j ≤ xs.length ∧ c = .int .i64 j ∧ t = .slice (some ⟨g, 0, none⟩) ys.length k ∧ Hid (ys = xs.take j) ∧ Hid (layStringS.own wr w.heap.size [g] [.slice (some ⟨g, 0, none⟩) ys.length k] ys) ∧ Hid (Below w.heap.size w wr)) (fun _ c _ => xs.length - (intOf c).toNat)
  case atStart => exact ⟨0, w.heap.size, xs.length, [], Nat.zero_le _, rfl, rfl, Lib.hid rfl, O1, B1⟩
  case round =>
    obtain ⟨j, g, k, ys, hj, rfl, rfl, HY, HO, HB⟩ := hrel
    clear O1 B1
    by_cases hlt : j < xs.length
    · have hlt' : (j : Int) < (xs.length : Int) := by omega
      have hx := List.getElem?_eq_getElem hlt
      obtain ⟨g', off, cs, rfl, hg', hr, hc⟩ := rows_elem (layStringS.below HS.out HB.out) j _ hx
      have hmem : xs[j] ∈ xs := List.getElem_mem hlt
      have hsx := HZ.out _ hmem
      have hta : Hid (xs.take (j + 1) = ys ++ [xs[j]]) := by rw [HY.out, List.take_add_one, hx]; exact Lib.hid rfl
      have hyl : Hid (ys.length = j) := by rw [HY.out, List.length_take]; exact Lib.hid (by omega)
      clear hmem
      generalize xs[j] = x at hr hta hsx hx
      rw [layString_rd] at hr
      subst hr
      have c0 : wr.cell? ⟨g', off + j * 1, none⟩ = some (.string x) := hc 0 _ rfl
      rw [Nat.mul_one] at c0
      clear hc hx
      go_wp2_with fail
      refine (HC.out x wr hsx).mono ?_
      rintro e w2 ⟨rfl, hb2⟩
      have HO2 := Lib.hid (layStringS.next HO.out hb2)
      have HB2 := Lib.hid (HB.out.trans (hb2.mono HB.out.size))
      have hw2 : w.heap.size ≤ w2.heap.size := HB2.out.size
      have hyl2 : ys.length + 1 ≤ 1000000000 := by rw [hyl.out]; omega
      clear hb2 c0
      go_wp2_with (at_builtin; refine wpList_pushF w2 rfl _ _ 22 rfl w.heap.size StringT i0 _ 16 layString flatString Try.underlying22 hi0 hz0 hsz0 hby0 rfl (by omega) (.slice (some ⟨g, 0, none⟩) ys.length k) [g] ys (by rfl) HO2.out x #[.string x] (layString_rd.2 rfl) (by rfl) hyl2 hw2 ?_; intro v1 w3 hown1 hnn1 hgr1 hbe1; obtain ⟨m1, mc1, rfl, hblk, _, _⟩ := flat_some flatString hown1 hnn1; rw [hblk] at hown1)
      have HO3 := Lib.hid hown1
      have HB3 := Lib.hid (HB2.out.trans hbe1)
      clear hown1 hnn1 hgr1 hbe1 hblk hyl2
      go_wp2_with fail
      go_roundw
      case rel => exact ⟨j + 1, m1, mc1, ys ++ [x], by omega, by go_num, by rw [List.length_append]; rfl, Lib.hid hta.out.symm, HO3, HB3⟩
      case measure => simp [intOf]; omega
    · have hlt' : ¬ ((j : Int) < (xs.length : Int)) := by omega
      have hje : j = xs.length := by omega
      subst hje
      have hye : ys = xs := by rw [HY.out, List.take_length]
      subst hye
      go_wp2_with fail
      go_ret
      exact ⟨g, k, rfl, HO.out, HB.out⟩

set_option maxRecDepth 100000 in
set_option maxHeartbeats 1600000 in
theorem copyOfSent_any (HG : CloneGives) (v : Value) (xs : List PendingD) (hl : xs.length ≤ 1048576) (hsz : ∀ x ∈ xs, x.2.1.size ≤ 1048576) (w : World) (h : layPendingS.rd w [v] xs) :
    Calls Try.prog 82 #[v] w (CopyS layPendingS w xs) := by
  obtain ⟨a, cap, rfl⟩ := rows_form h
  obtain ⟨i0, hi0, hz0, hsz0, hby0⟩ := info_of infoPending
  have HS := Lib.hid h
  have HC := Lib.hid HG
  have HZ := Lib.hid hsz
  clear h HG hsz
  have hbl : Below w.heap.size w (w.alloc (.cells #[] PendingT)) := (Below.refl _ _).alloc (Nat.le_refl _) _
  go_enter Try.func82, Try.ntmps82
  go_wp2_with (at_builtin; refine wpList_copyF (w.alloc (.cells #[] PendingT)) rfl _ _ 23 rfl w.heap.size PendingT i0 _ 40 layPending flatPending Try.underlying23 hi0 hz0 hsz0 hby0 rfl (by omega) _ _ _ rfl (flat_lit w _ (Nat.le_refl _)) (fun e => by cases e) _ xs rfl (layPendingS.below HS.out hbl) (by simp; omega) (by simp) ?_; intro v1 w1 hown1 hnn1 hgr1 hbe1; obtain ⟨g, k, rfl, hblk, hg1b, hg1l⟩ := flat_some flatPending hown1 hnn1; rw [hblk] at hown1)
  have O1 : Hid (layPendingS.own w1 w.heap.size [g] [.slice (some ⟨g, 0, none⟩) xs.length k] xs) := Lib.hid hown1
  have B1 : Hid (Below w.heap.size w w1) := Lib.hid (hbl.trans hbe1)
  clear hown1 hnn1 hgr1 hbe1 hblk hg1l hbl
  go_wp2_with fail
  go_loopw [10] (fun c wr => ∃ (j : Nat), j ≤ xs.length ∧ c = .int .i64 j ∧ Hid (layPendingS.own wr w.heap.size [g] [.slice (some ⟨g, 0, none⟩) xs.length k] xs) ∧ Hid (Below w.heap.size w wr)) (fun c _ => xs.length - (intOf c).toNat)
  case atStart => exact ⟨0, Nat.zero_le _, rfl, O1, B1⟩
  case round =>
    obtain ⟨j, hj, rfl, HO, HB⟩ := hrel
    clear O1 B1
    by_cases hlt : j < xs.length
    · have hlt' : (j : Int) < (xs.length : Int) := by omega
      have hx := List.getElem?_eq_getElem hlt
      have hmem : xs[j] ∈ xs := List.getElem_mem hlt
      have hsx := HZ.out _ hmem
      have hset : Hid (xs.set j xs[j] = xs) := Lib.hid (by rw [List.set_getElem_self])
      clear hmem
      generalize xs[j] = x at hset hsx hx
      obtain ⟨x0, x1, x2, x3⟩ := x
      have HX := Lib.hid hx
      clear hx
      obtain ⟨g2, k2, cs, hv, hf, hgb, hgl, hr, hc, -⟩ := flat_at flatPending HO.out j _ HX.out
      simp only [Value.slice.injEq, Option.some.injEq, Addr.mk.injEq, and_true, true_and] at hv
      obtain ⟨rfl, rfl⟩ := hv
      rw [layPending_rd] at hr
      subst hr
      have c1 : wr.cell? ⟨g, j * 4 + 1, none⟩ = some (.string x1) := (hc 1 _ rfl).1
      clear hc hf hgb hgl
      go_wp2_with fail
      refine (HC.out x1 wr hsx).mono ?_
      rintro e w2 ⟨rfl, hb2⟩
      have HO2 := Lib.hid (layPendingS.next HO.out hb2)
      have HB2 := Lib.hid (HB.out.trans (hb2.mono HB.out.size))
      clear hb2 c1
      obtain ⟨g2, k2, cs, hv, hf, hgb, hgl, hr, hc, hst⟩ := flat_at flatPending HO2.out j _ HX.out
      simp only [Value.slice.injEq, Option.some.injEq, Addr.mk.injEq, and_true, true_and] at hv
      obtain ⟨rfl, rfl⟩ := hv
      rw [layPending_rd] at hr
      subst hr
      have c1 : w2.cell? ⟨g, j * 4 + 1, none⟩ = some (.string x1) := (hc 1 _ rfl).1
      have f1 : w2.frozen? ⟨g, j * 4 + 1, none⟩ = false := (hc 1 _ rfl).2
      have hst2 := hst [.string x1] 1 (x0, x1, x2, x3) (by show 1 + 1 ≤ 4; omega) (layPending_rd.2 rfl)
      rw [hset.out] at hst2
      have HO3 : Hid (layPendingS.own (w2.setCell ⟨g, j * 4 + 1, none⟩ (.string x1)) w.heap.size [g] [.slice (some ⟨g, 0, none⟩) xs.length k] xs) := Lib.hid hst2.1
      have HB3 : Hid (Below w.heap.size w (w2.setCell ⟨g, j * 4 + 1, none⟩ (.string x1))) := Lib.hid (HB2.out.setCell (p := ⟨g, j * 4 + 1, none⟩) hgb _)
      clear hst hst2 hc hf hgb hgl
      go_wp2_with fail
      go_roundw
      case rel => exact ⟨j + 1, by omega, by go_num, HO3, HB3⟩
      case measure => simp [intOf]; omega
    · have hlt' : ¬ ((j : Int) < (xs.length : Int)) := by omega
      go_wp2_with fail
      go_ret
      exact ⟨g, k, rfl, HO.out, HB.out⟩

set_option maxRecDepth 100000 in
set_option maxHeartbeats 1600000 in
theorem copyOfEarly_any (HG : CloneGives) (v : Value) (xs : List EarlyD) (hl : xs.length ≤ 1048576) (hsz : ∀ x ∈ xs, x.2.size ≤ 1048576) (w : World) (h : layEarlyS.rd w [v] xs) :
    Calls Try.prog 83 #[v] w (CopyS layEarlyS w xs) := by
  obtain ⟨a, cap, rfl⟩ := rows_form h
  obtain ⟨i0, hi0, hz0, hsz0, hby0⟩ := info_of infoEarly
  have HS := Lib.hid h
  have HC := Lib.hid HG
  have HZ := Lib.hid hsz
  clear h HG hsz
  have hbl : Below w.heap.size w (w.alloc (.cells #[] EarlyT)) := (Below.refl _ _).alloc (Nat.le_refl _) _
  go_enter Try.func83, Try.ntmps83
  go_wp2_with (at_builtin; refine wpList_copyF (w.alloc (.cells #[] EarlyT)) rfl _ _ 24 rfl w.heap.size EarlyT i0 _ 24 layEarly flatEarly Try.underlying24 hi0 hz0 hsz0 hby0 rfl (by omega) _ _ _ rfl (flat_lit w _ (Nat.le_refl _)) (fun e => by cases e) _ xs rfl (layEarlyS.below HS.out hbl) (by simp; omega) (by simp) ?_; intro v1 w1 hown1 hnn1 hgr1 hbe1; obtain ⟨g, k, rfl, hblk, hg1b, hg1l⟩ := flat_some flatEarly hown1 hnn1; rw [hblk] at hown1)
  have O1 : Hid (layEarlyS.own w1 w.heap.size [g] [.slice (some ⟨g, 0, none⟩) xs.length k] xs) := Lib.hid hown1
  have B1 : Hid (Below w.heap.size w w1) := Lib.hid (hbl.trans hbe1)
  clear hown1 hnn1 hgr1 hbe1 hblk hg1l hbl
  go_wp2_with fail
  go_loopw [10] (fun c wr => ∃ (j : Nat), j ≤ xs.length ∧ c = .int .i64 j ∧ Hid (layEarlyS.own wr w.heap.size [g] [.slice (some ⟨g, 0, none⟩) xs.length k] xs) ∧ Hid (Below w.heap.size w wr)) (fun c _ => xs.length - (intOf c).toNat)
  case atStart => exact ⟨0, Nat.zero_le _, rfl, O1, B1⟩
  case round =>
    obtain ⟨j, hj, rfl, HO, HB⟩ := hrel
    clear O1 B1
    by_cases hlt : j < xs.length
    · have hlt' : (j : Int) < (xs.length : Int) := by omega
      have hx := List.getElem?_eq_getElem hlt
      have hmem : xs[j] ∈ xs := List.getElem_mem hlt
      have hsx := HZ.out _ hmem
      have hset : Hid (xs.set j xs[j] = xs) := Lib.hid (by rw [List.set_getElem_self])
      clear hmem
      generalize xs[j] = x at hset hsx hx
      obtain ⟨x0, x1⟩ := x
      have HX := Lib.hid hx
      clear hx
      obtain ⟨g2, k2, cs, hv, hf, hgb, hgl, hr, hc, -⟩ := flat_at flatEarly HO.out j _ HX.out
      simp only [Value.slice.injEq, Option.some.injEq, Addr.mk.injEq, and_true, true_and] at hv
      obtain ⟨rfl, rfl⟩ := hv
      rw [layEarly_rd] at hr
      subst hr
      have c1 : wr.cell? ⟨g, j * 2 + 1, none⟩ = some (.string x1) := (hc 1 _ rfl).1
      clear hc hf hgb hgl
      go_wp2_with fail
      refine (HC.out x1 wr hsx).mono ?_
      rintro e w2 ⟨rfl, hb2⟩
      have HO2 := Lib.hid (layEarlyS.next HO.out hb2)
      have HB2 := Lib.hid (HB.out.trans (hb2.mono HB.out.size))
      clear hb2 c1
      obtain ⟨g2, k2, cs, hv, hf, hgb, hgl, hr, hc, hst⟩ := flat_at flatEarly HO2.out j _ HX.out
      simp only [Value.slice.injEq, Option.some.injEq, Addr.mk.injEq, and_true, true_and] at hv
      obtain ⟨rfl, rfl⟩ := hv
      rw [layEarly_rd] at hr
      subst hr
      have c1 : w2.cell? ⟨g, j * 2 + 1, none⟩ = some (.string x1) := (hc 1 _ rfl).1
      have f1 : w2.frozen? ⟨g, j * 2 + 1, none⟩ = false := (hc 1 _ rfl).2
      have hst2 := hst [.string x1] 1 (x0, x1) (by show 1 + 1 ≤ 2; omega) (layEarly_rd.2 rfl)
      rw [hset.out] at hst2
      have HO3 : Hid (layEarlyS.own (w2.setCell ⟨g, j * 2 + 1, none⟩ (.string x1)) w.heap.size [g] [.slice (some ⟨g, 0, none⟩) xs.length k] xs) := Lib.hid hst2.1
      have HB3 : Hid (Below w.heap.size w (w2.setCell ⟨g, j * 2 + 1, none⟩ (.string x1))) := Lib.hid (HB2.out.setCell (p := ⟨g, j * 2 + 1, none⟩) hgb _)
      clear hst hst2 hc hf hgb hgl
      go_wp2_with fail
      go_roundw
      case rel => exact ⟨j + 1, by omega, by go_num, HO3, HB3⟩
      case measure => simp [intOf]; omega
    · have hlt' : ¬ ((j : Int) < (xs.length : Int)) := by omega
      go_wp2_with fail
      go_ret
      exact ⟨g, k, rfl, HO.out, HB.out⟩

end Go.Proofs.Ythljmjbmmgligar
namespace Go.Proofs.Ythljmjbmmgligar
open Go.RowKit

/-- 'append(out, list...)' as a step of a region that draws its order, over flat rows. -/
theorem step_copyF {α : Type} {P : Program} {ops : Array Oper} {o : Oper} {a : Act} {W : World} {K : Act → World → Prop} {Q : Exit → Act → World → Prop} {E : Prop}
    (hg : o.guard = none) (s x : Operand) (t : TypeId) (hop : o.op = Op.call { callee := Callee.builtin Builtin.append, args := #[s, x], argTypes := #[t, t] })
    (base : Nat) (e : TypeId) (i : TypeInfo) (z : Value) (bytes : Nat) (A : Lay α) (hf : Flat A) (ht : P.underlying t = some (.slice e)) (hi : P.info? e = some i) (hz : i.zero = some z)
    (hsize : i.size = A.k) (hby : i.bytes = bytes) (hzs : z.cells.size = A.k) (hb1 : bytes ≤ 1000) (v : Value) (f : List Nat) (xs : List α) (hs : a.eval s = v) (hown : (Lay.rows e A).own W base f [v] xs) (hv0 : v ≠ .slice none 0 0)
    (u : Value) (ys : List α) (hx : a.eval x = u) (hys : (Lay.rows e A).rd W [u] ys)
    (hlen : xs.length + ys.length ≤ 1000000000) (hbase : base ≤ W.heap.size)
    (hK : ∀ v' w', (Lay.rows e A).own w' base (blk v') [v'] (xs ++ ys) → v' ≠ .slice none 0 0 → W.grownBy w' v.ownBlock → Below base W w' → K (a.put o.dst v') w') :
    if Region.wanted o (yielded ops a.tmps) = true then Oper.wp P o a W K Q else E := by
  have hw : Region.wanted o (yielded ops a.tmps) = true := by simp [Region.wanted, hg]
  rw [if_pos hw]
  obtain ⟨us, h1, h2, rfl⟩ := flat_inv hf hown
  obtain ⟨u', hu, hys⟩ := hys
  obtain rfl : u = u' := by simpa using hu
  have hlt : ∀ k, v.ownBlock = some k → base ≤ k := fun k hk => (World.ownsRow.lt h1 k hk).1
  have h7 : (xs.length + ys.length) * bytes ≤ 1000000000 * 1000 := Nat.mul_le_mul hlen hb1
  rcases hys with ⟨rfl, a', cap, rfl, hcap⟩ | ⟨g, off, cap, vs, rfl, _, hg2, hc, hr⟩
  · cases a' with
    | none =>
      rw [hcap rfl] at hx
      have hrun := run_append_owned_none (P := P) (w := W) base t o.type e i A.k ht hi v xs.length us h1
      unfold Oper.wp
      simp [execOp, hop, resolve, invoke, builtin, hs, hx, hrun, Result.andThen]
      rw [List.append_nil] at hK
      exact hK v W (flat_own hf h1 h2) hv0 (World.grownBy.refl _ _) (Below.refl _ _)
    | some ad =>
      obtain ⟨v', w', hrun, r1, r2, r3⟩ := run_append_own (P := P) W base t o.type e i z A.k bytes ht hi hz hsize hby hzs A.pos v xs.length us h1 ad 0 cap [] (by simp) (by simp) (by simp) (by unfold maxLen; simp at hlen; omega) (by simp at h7; simp; omega) hbase
      unfold Oper.wp
      simp [execOp, hop, resolve, invoke, builtin, hs, hx, hrun, Result.andThen]
      rw [List.append_nil] at hK
      rw [List.append_nil] at r1
      refine hK v' w' ?_ (fun e => hv0 (r3.1 e).1) r2 (below_grown r2 hlt hbase)
      exact flat_own hf r1 (hf.all h2)
  · obtain ⟨v', w', hrun, r1, r2, r3⟩ := run_append_own (P := P) W base t o.type e i z A.k bytes ht hi hz hsize hby hzs A.pos v xs.length us h1 ⟨g, off, none⟩ ys.length cap vs (rdAll_len A hr) (by
      intro j q hj
      have e1 : (⟨g, off, none⟩ : Addr).add j = ⟨g, off + j, none⟩ := by unfold Addr.add; split <;> simp_all
      rw [e1]
      exact hc j q hj) (rdAll_one A hr) (by unfold maxLen; omega) (by omega) hbase
    unfold Oper.wp
    simp [execOp, hop, resolve, invoke, builtin, hs, hx, hrun, Result.andThen]
    refine hK v' w' ?_ (fun e => hv0 (r3.1 e).1) r2 (below_grown r2 hlt hbase)
    have h6 : w'.ownsRow base e A.k v' (xs ++ ys).length (us ++ vs) := by rw [List.length_append]; exact r1
    exact flat_own hf h6 (rdAll_join A (hf.all h2) (hf.all hr))

end Go.Proofs.Ythljmjbmmgligar
