/-
  The program's cutOf: a row of slices, each with no more room than its bytes.
  Rows of flat data as blocks: cut short, cleared, copied into; no program is spoken of here.
  Rows of flat data as blocks: one more in its place; no program is spoken of here.
  Bytes: their exclusive or and or as the model spells them; no program is spoken of here.
  '[]byte(t)' and '[]byte{}' written into and turned back into a text.
  'out = append(out, x)' as a step of a region that draws its order; no program is spoken of here.
-/
import Derived.Test.YtfhlpgngeiploaaJ01
import Derived.Test.YtfhlpgngeiploaaJ05
import Derived.Laws.CopyOwn
import Derived.Lib.AppendZerosOnto
import Derived.Lib.Overlaps
import Derived.Test.YtfhlpgngeiploaaRows
import Derived.Test.YtfhlpgngeiploaaJ02
import Derived.Lib.ConvBytes
import Derived.Deep.RegionHeld3
import Derived.BigQuiet
import Derived.Deep.QuietTactic
import Derived.Deep.LoopGhost
import Derived.Deep.DeepCutAuto
namespace Go.Proofs.Ytfhlpgngeiploaa
open Go.RowKit

abbrev SliceT : TypeId := 22
/-- A value of one cell as it is. -/
def layOne : Lay Value where
  k := 1
  rd := fun _ cs x => cs = [x] ∧ x.oneCell' = true
  own := fun _ _ fp cs x => fp = [] ∧ cs = [x] ∧ x.oneCell' = true
  mark := fun k x => (x, k)
  pos := by decide
  len := fun h => by rw [h.1]; rfl
  one := fun h u hu => by rw [h.1] at hu; rw [List.mem_singleton.1 hu]; exact h.2
  below := fun h _ => h
  read := fun h => h.2
  blocks := fun h g hg => by rw [h.1] at hg; cases hg
  keep := fun h _ => h
  lower := fun h _ => h
def layOneS : Lay (List Value) := .rows SliceT layOne
theorem flatOne : Flat layOne := ⟨fun _ _ _ _ h => ⟨rfl, h⟩, fun _ _ _ _ _ h => h.1, fun _ _ _ _ h => h⟩
theorem infoSlice : (Try.prog.info? SliceT).map (fun i => (i.zero, i.size, i.bytes)) = some (some (.slice none 0 0), 1, 24) := by kernel_rfl
/-- The part at a place, as a slice into block B. -/
def cutV (B n k i : Nat) : Value := .slice (some ⟨B, i * k, none⟩) (min ((i + 1) * k) n - i * k) (min ((i + 1) * k) n - i * k)
def cutsV (B n k c : Nat) : List Value := (List.range c).map (cutV B n k)
theorem cutsV_length (B n k c : Nat) : (cutsV B n k c).length = c := by unfold cutsV; simp
theorem cutsV_next (B n k c : Nat) : cutsV B n k (c + 1) = cutsV B n k c ++ [cutV B n k c] := by
  unfold cutsV
  rw [List.range_succ, List.map_append]
  rfl
/-- A slice's length. -/
def lenV : Value → Nat
  | .slice _ n _ => n
  | _ => 0
/-- What cutOf hands back. -/
def CutEnd (B n k : Nat) (w : World) (e : Ending) (w' : World) : Prop := ∃ g kk, e = .returned (.slice (some ⟨g, 0, none⟩) (countP n k) kk) ∧ layOneS.own w' w.heap.size [g] [.slice (some ⟨g, 0, none⟩) (countP n k) kk] (cutsV B n k (countP n k)) ∧ Below w.heap.size w w'

set_option maxRecDepth 100000 in
set_option maxHeartbeats 3200000 in
theorem cutOf_any (B n k cp : Nat) (hk : 20 ≤ k) (hk2 : k ≤ 120) (hn : n ≤ 300) (hcp : n ≤ cp) (w : World) :
    Calls Try.prog 27 #[.slice (some ⟨B, 0, none⟩) n cp, .int .i64 k] w (CutEnd B n k w) := by
  obtain ⟨i0, hi, hz0, hsz0, hby0⟩ := info_of infoSlice
  obtain ⟨Q, HQ⟩ : ∃ Q : Ending → World → Prop, Hid (Q = CutEnd B n k w) := ⟨_, Lib.hid rfl⟩
  rw [← HQ.out]
  have hal : Below w.heap.size w (w.alloc (.cells #[] SliceT)) := (Below.refl _ _).alloc (Nat.le_refl _) _
  have O1 : Hid (layOneS.own (w.alloc (.cells #[] SliceT)) w.heap.size [w.heap.size] [.slice (some ⟨w.heap.size, 0, none⟩) 0 0] []) := Lib.hid (flat_lit w _ (Nat.le_refl _))
  have B1 := Lib.hid hal
  have hc := count_few (n := n) (size := k) hn hk
  have HNX := Lib.hid (fun i (h : i < countP n k) => count_next (n := n) (k := k) hk h)
  have HEN := Lib.hid (count_end (n := n) (size := k) (by omega))
  obtain ⟨c, hcc⟩ : ∃ c, countP n k = c := ⟨_, rfl⟩
  have HCC := Lib.hid hcc
  rw [hcc] at hc HNX HEN
  clear hal hcc
  go_enter Try.func27, Try.ntmps27
  go_upto_region 2 with fail
  generalize w.alloc (.cells #[] SliceT) = Y1 at *
  go_wp2_with fail
  go_loopw [0, 5] (fun t u wr => ∃ (i e r cr g kk : Nat), i < c ∧ t = .slice (some ⟨B, e, none⟩) r cr ∧ u = .slice (some ⟨g, 0, none⟩) i kk ∧ Hid (e = i * k ∧ r + e = n ∧ r ≤ cr) ∧ Hid (layOneS.own wr w.heap.size [g] [.slice (some ⟨g, 0, none⟩) i kk] (cutsV B n k i)) ∧ Hid (Below w.heap.size w wr)) (fun t _ _ => lenV t)
  case atStart => exact ⟨0, 0, n, cp, w.heap.size, 0, by omega, rfl, rfl, Lib.hid ⟨by omega, by omega, hcp⟩, O1, B1⟩
  case round =>
    obtain ⟨i, e, r, cr, g, kk, hi2, rfl, rfl, HE, HO, HB⟩ := hrel
    clear O1 B1
    have hyl : Hid ((cutsV B n k i).length = i) := Lib.hid (cutsV_length _ _ _ _)
    have hw1 : Hid (w.heap.size ≤ wr.heap.size) := Lib.hid HB.out.size
    by_cases hm : k < r
    · have hm' : (k : Int) < (r : Int) := by omega
      have hkr : (k : Int) ≤ (cr : Int) := by have := HE.out.2.2; omega
      have hkr2 : (k : Int) ≤ (r : Int) := by omega
      have hnx := (HNX.out i hi2).1 (by have := HE.out; rw [← this.1]; omega)
      have e1 : (i + 1) * k = i * k + k := by rw [Nat.add_mul, Nat.one_mul]
      have hv : cutV B n k i = .slice (some ⟨B, e, none⟩) k k := by
        have h9 := HE.out
        unfold cutV
        rw [e1, ← h9.1, Nat.min_eq_left (by omega), Nat.add_sub_cancel_left]
      have HV := Lib.hid hv
      have HX : Hid (e + k = (i + 1) * k ∧ (r - k) + (e + k) = n ∧ r - k ≤ cr - k) := Lib.hid (by have h9 := HE.out; rw [e1]; omega)
      have HIN := Lib.hid hnx
      have hlen1 : (cutsV B n k i).length + 1 ≤ 1000000000 := by rw [cutsV_length]; omega
      clear hv hnx e1
      have HAL := Lib.hid ((Below.refl wr.heap.size wr).alloc (Nat.le_refl _) (.cells #[.slice (some ⟨B, e, none⟩) k k] SliceT))
      go_upto_region 4 with (at_builtin; refine wpList_pushF wr rfl _ _ 54 rfl w.heap.size SliceT i0 _ 24 layOne flatOne Try.underlying54 hi hz0 hsz0 hby0 rfl (by omega) (.slice (some ⟨g, 0, none⟩) i kk) [g] (cutsV B n k i) (by rfl) HO.out (.slice (some ⟨B, e, none⟩) k k) #[.slice (some ⟨B, e, none⟩) k k] ⟨rfl, rfl⟩ (by rfl) hlen1 hw1.out ?_; intro v1 w3 hown1 hnn1 hgr1 hbe1; obtain ⟨m1, mc1, rfl, hblk, _, _⟩ := flat_some flatOne hown1 hnn1; rw [hblk] at hown1)
      rw [← HV.out, ← cutsV_next, cutsV_length] at hown1
      have HO3 := Lib.hid hown1
      have HB3 := Lib.hid (HB.out.trans hbe1)
      have hl1 : (cutsV B n k i).length + 1 = i + 1 := by rw [cutsV_length]
      rw [hl1]
      have hn1 : ¬ (cr = k) := by have := HE.out.2.2; omega
      have hn2 : ¬ (cr - k = 0) := by have := HE.out.2.2; omega
      clear hown1 hnn1 hgr1 hbe1 hblk hl1 HO HB HV HAL hlen1
      go_wp2_with fail
      go_roundw
      case rel => exact ⟨i + 1, e + k, r - k, cr - k, m1, mc1, HIN.out, by first | rfl | simp, by first | rfl | simp, HX, HO3, HB3⟩
      case measure => simp [lenV]; omega
    · have hm' : ¬ ((k : Int) < (r : Int)) := by omega
      have hrc : (r : Int) ≤ (cr : Int) := by have := HE.out.2.2; omega
      have hic : i + 1 = c := by
        rcases Nat.lt_or_ge (i + 1) c with h9 | h9
        · have h8 := (HNX.out i hi2).2 h9
          have h7 := HE.out
          rw [← h7.1] at h8
          omega
        · omega
      have e1 : (i + 1) * k = i * k + k := by rw [Nat.add_mul, Nat.one_mul]
      have hv : cutV B n k i = .slice (some ⟨B, e, none⟩) r r := by
        have h9 := HE.out
        unfold cutV
        rw [e1, ← h9.1, Nat.min_eq_right (by omega), show n - e = r by omega]
      have HV := Lib.hid hv
      have HIC := Lib.hid hic
      have hlen1 : (cutsV B n k i).length + 1 ≤ 1000000000 := by rw [cutsV_length]; omega
      clear hv e1 hic
      go_wp2_with (at_builtin; refine wpList_pushF wr rfl _ _ 54 rfl w.heap.size SliceT i0 _ 24 layOne flatOne Try.underlying54 hi hz0 hsz0 hby0 rfl (by omega) (.slice (some ⟨g, 0, none⟩) i kk) [g] (cutsV B n k i) (by rfl) HO.out (.slice (some ⟨B, e, none⟩) r r) #[.slice (some ⟨B, e, none⟩) r r] ⟨rfl, rfl⟩ (by rfl) hlen1 hw1.out ?_; intro v1 w3 hown1 hnn1 hgr1 hbe1; obtain ⟨m1, mc1, rfl, hblk, _, _⟩ := flat_some flatOne hown1 hnn1; rw [hblk, ← HV.out, ← cutsV_next, cutsV_length, HIC.out] at hown1; have hl1 : (cutsV B n k i).length + 1 = c := (by rw [cutsV_length]; exact HIC.out); have HO3 := Lib.hid hown1; have HB3 := Lib.hid (HB.out.trans hbe1); clear hown1 hnn1 hgr1 hbe1 hblk)
      rw [HQ.out]
      exact ⟨m1, mc1, by rw [HCC.out], by rw [HCC.out]; exact HO3.out, HB3.out⟩

end Go.Proofs.Ytfhlpgngeiploaa
namespace Go.Proofs.Ytfhlpgngeiploaa
open Go.RowKit

section
variable {α : Type}

/-- The block of a row of the call's own. -/
structure RowK (e : TypeId) (A : Lay α) (w : World) (b g cap : Nat) (cur : List Value) (xs : List α) : Prop where
  low : b ≤ g
  heap : w.heap[g]? = some (.cells cur.toArray e (0, 0))
  room : xs.length ≤ cap
  max : cap ≤ maxLen
  size : cur.length = cap * A.k
  rd : rdAll A w (cur.take (xs.length * A.k)) xs
theorem RowK.of {e : TypeId} {A : Lay α} (hf : Flat A) {w : World} {b g n cap : Nat} {f : List Nat} {xs : List α} (h : (Lay.rows e A).own w b f [.slice (some ⟨g, 0, none⟩) n cap] xs) : ∃ cur, RowK e A w b g cap cur xs := by
  obtain ⟨us, h1, h2, _⟩ := flat_inv hf h
  rcases h1.2 with ⟨hv, _⟩ | ⟨g', cap', cur, hv, hb, hh, hc, hm, hs, ht⟩
  · cases hv
  · simp only [Value.slice.injEq, Option.some.injEq, Addr.mk.injEq, and_true] at hv
    obtain ⟨rfl, _, rfl⟩ := hv
    refine ⟨cur.toList, hb, by simpa using hh, hc, hm, by simpa using hs, ?_⟩
    rw [ht]
    exact h2
theorem RowK.own {e : TypeId} {A : Lay α} (hf : Flat A) {w : World} {b g cap : Nat} {cur : List Value} {xs : List α} (h : RowK e A w b g cap cur xs) : (Lay.rows e A).own w b [g] [.slice (some ⟨g, 0, none⟩) xs.length cap] xs := by
  have h1 : w.ownsRow b e A.k (.slice (some ⟨g, 0, none⟩) xs.length cap) xs.length (cur.take (xs.length * A.k)) := by
    refine ⟨rdAll_len A h.rd, .inr ⟨g, cap, cur.toArray, rfl, h.low, h.heap, h.room, h.max, by simpa using h.size, by simp⟩⟩
  exact flat_own hf h1 h.rd
theorem chg_setRow {w : World} {g : Nat} {cs : Array Value} : Chg [g] w (w.setRow g cs) := ⟨rfl, rfl, rfl, by simp [World.setRow], fun k _ hn => setRow_other w g k cs (fun e => hn (by simp [e]))⟩

end
end Go.Proofs.Ytfhlpgngeiploaa
namespace Go.Proofs.Ytfhlpgngeiploaa
open Go.RowKit

/-- 'copy(d, s)' over rows of elements of k cells. -/
theorem run_copyK {P : Program} (w : World) (dT sT ty elem : TypeId) (g o dLen dCap : Nat) (a : Addr) (sLen sCap : Nat) (cur : List Value) (t : TypeId) (cs : List Value) (m k : Nat)
    (hu : P.underlying dT = some (.slice elem)) (hs : (P.info? elem).map (·.size) = some k) (hg : w.heap[g]? = some (.cells cur.toArray t (0, 0))) (hm : Nat.min sLen dLen = m) (hn : cs.length = m * k)
    (hsrc : ∀ j v, cs[j]? = some v → w.cell? (a.add j) = some v) (hfit : o + cs.length ≤ cur.length) (h1 : ∀ v ∈ cs, v.oneCell' = true) :
    (Builtin.copy_ #[dT, sT] ty #[.slice (some ⟨g, o, none⟩) dLen dCap, .slice (some a) sLen sCap]).run P w = .ok (goInt m) (w.setRow g (splice cur o cs).toArray) := by
  have hl := run_loadCells_list (P := P) w a cs hsrc
  have hst := run_storeCells_at P g o t cs 0 cur.toArray w hg (by simpa using hfit) h1
  rw [hn] at hl
  cases hq : P.info? elem with
  | none => simp [hq] at hs
  | some i =>
    have hi : i.size = k := by simpa [hq] using hs
    simp [Builtin.copy_, run_underlying hu, Builtin.lenOf, Builtin.firstCells, sizeOf, typeInfo, hq, hi, hm, hl, hst, splice]
theorem wp_copyK {P : Program} (w : World) {o : Oper} {a : Act} {K : Act → World → Prop} {Q : Exit → Act → World → Prop} (d s : Operand) (t t' : TypeId)
    (ho : o.op = .call { callee := .builtin .copy, args := #[d, s], argTypes := #[t, t'] }) (v u : Value) (hd : a.eval d = v) (hs : a.eval s = u) {v' : Value} {w' : World}
    (hr : (Builtin.copy_ #[t, t'] o.type #[v, u]).run P w = .ok v' w') (h : K (a.put o.dst v') w') : o.wp P a w K Q := by
  unfold Oper.wp execOp
  simp only [ho, resolve, invoke, builtin, Sem.run_bind, Sem.run_pure, Result.andThen_ok, List.map_toArray, List.map_cons, List.map_nil, hd, hs, hr]
  exact h
theorem wpList_copyK {P : Program} (w : World) {ops : Array Oper} {rest : List Oper} {o : Oper} {a : Act} {Q : Exit → Act → World → Prop} (hgd : o.guard = none) (d s : Operand) (t t' : TypeId)
    (ho : o.op = .call { callee := .builtin .copy, args := #[d, s], argTypes := #[t, t'] }) (v u : Value) (hd : a.eval d = v) (hs : a.eval s = u) {v' : Value} {w' : World}
    (hr : (Builtin.copy_ #[t, t'] o.type #[v, u]).run P w = .ok v' w') (h : wpList P ops Q rest (a.put o.dst v') w') : wpList P ops Q (o :: rest) a w :=
  wpList_plain hgd fun _ hK => wp_copyK w d s t t' ho v u hd hs hr (hK _ _ h)
theorem step_copyK {P : Program} {ops : Array Oper} {o : Oper} {a : Act} {w : World} {K : Act → World → Prop} {Q : Exit → Act → World → Prop} {E : Prop}
    (hg : o.guard = none) (d x : Operand) (dT sT : TypeId) (hop : o.op = Op.call { callee := Callee.builtin Builtin.copy, args := #[d, x], argTypes := #[dT, sT] })
    (v u : Value) (hd : a.eval d = v) (hx : a.eval x = u) {v' : Value} {w' : World} (hr : (Builtin.copy_ #[dT, sT] o.type #[v, u]).run P w = .ok v' w') (hK : K (a.put o.dst v') w') :
    if Region.wanted o (yielded ops a.tmps) = true then Oper.wp P o a w K Q else E := by
  have hw : Region.wanted o (yielded ops a.tmps) = true := by simp [Region.wanted, hg]
  rw [if_pos hw]
  unfold Oper.wp
  simp [execOp, hop, resolve, invoke, builtin, hd, hx, hr, Result.andThen]
  exact hK

section
variable {α : Type}
end
theorem splice_len (cur cs : List Value) (a : Nat) (h : a + cs.length ≤ cur.length) : (splice cur a cs).length = cur.length := by unfold splice; simp; omega
end Go.Proofs.Ytfhlpgngeiploaa
namespace Go.Proofs.Ytfhlpgngeiploaa
open Go.RowKit

end Go.Proofs.Ytfhlpgngeiploaa
namespace Go.Proofs.Ytfhlpgngeiploaa
open Go.RowKit

/-- A row of bytes in block g: its cells, none of them barred. -/
structure RowB (g : Nat) (l : List UInt8) (X : World) : Prop where
  cell : ∀ j, j < l.length → X.cell? ⟨g, j, none⟩ = some (.int .u8 ((l.getD j 0).toNat : Nat))
  free : ∀ j, j < l.length → X.frozen? ⟨g, j, none⟩ = false
theorem RowB.set {g : Nat} {l : List UInt8} {X : World} (h : RowB g l X) (k : Nat) (hk : k < l.length) (b : UInt8) : RowB g (l.set k b) (X.setCell ⟨g, k, none⟩ (.int .u8 (b.toNat : Nat))) := by
  refine ⟨fun j hj => ?_, fun j hj => ?_⟩
  · rw [List.length_set] at hj
    by_cases hjk : k = j
    · subst hjk
      rw [set_on _ _ _ _ _ (h.cell k hk), List.getD_eq_getElem?_getD, List.getElem?_set_self hk]
      rfl
    · rw [set_off _ _ _ _ _ hjk, h.cell j hj, List.getD_eq_getElem?_getD, List.getD_eq_getElem?_getD, List.getElem?_set_ne hjk]
  · rw [List.length_set] at hj
    rw [World.frozen?_setCell]
    exact h.free j hj
theorem RowB.drew {g : Nat} {l : List UInt8} {X : World} (h : RowB g l X) : RowB g l X.drew := ⟨h.cell, h.free⟩
end Go.Proofs.Ytfhlpgngeiploaa
namespace Go.Proofs.Ytfhlpgngeiploaa
open Go.RowKit

/-- 'out = append(out, x)' as a step of a region that draws its order, over flat rows. -/
theorem step_pushOne {α : Type} {P : Program} {ops : Array Oper} {o : Oper} {a : Act} {W : World} {K : Act → World → Prop} {Q : Exit → Act → World → Prop} {E : Prop}
    (hg : o.guard = none) (s x : Operand) (t : TypeId) (hop : o.op = Op.call { callee := Callee.builtin Builtin.append, args := #[s, x], argTypes := #[t, t] })
    (base : Nat) (e : TypeId) (i : TypeInfo) (z : Value) (bytes : Nat) (A : Lay α) (hf : Flat A) (ht : P.underlying t = some (.slice e)) (hi : P.info? e = some i) (hz : i.zero = some z)
    (hsize : i.size = A.k) (hby : i.bytes = bytes) (hzs : z.cells.size = A.k) (hb1 : bytes ≤ 1000) (v : Value) (f : List Nat) (xs : List α) (hs : a.eval s = v) (hown : (Lay.rows e A).own W base f [v] xs)
    (y : α) (cs : List Value) (hcs : A.rd W cs y) (ad : Addr) (hx : a.eval x = .slice (some ad) 1 1) (hc : ∀ j u, cs[j]? = some u → W.cell? (ad.add j) = some u)
    (hlen : xs.length + 1 ≤ 1000000000) (hbase : base ≤ W.heap.size)
    (hK : ∀ v' w', (Lay.rows e A).own w' base (blk v') [v'] (xs ++ [y]) → v' ≠ .slice none 0 0 → Below base W w' → W.grownBy w' v.ownBlock → K (a.put o.dst v') w') :
    if Region.wanted o (yielded ops a.tmps) = true then Oper.wp P o a W K Q else E := by
  have hw : Region.wanted o (yielded ops a.tmps) = true := by simp [Region.wanted, hg]
  rw [if_pos hw]
  obtain ⟨us, h1, h2, rfl⟩ := flat_inv hf hown
  have hlt : ∀ k, v.ownBlock = some k → base ≤ k := fun k hk => (World.ownsRow.lt h1 k hk).1
  obtain ⟨v', w', hrun, r1, r2, r3⟩ := run_append_own (P := P) W base t o.type e i z A.k bytes ht hi hz hsize hby hzs A.pos v xs.length us h1 ad 1 1 cs (by rw [A.len hcs, Nat.one_mul]) hc (A.one hcs) (by unfold maxLen; omega)
    (by have h1 : (xs.length + 1) * bytes ≤ 1000000000 * 1000 := Nat.mul_le_mul hlen hb1
        omega) hbase
  unfold Oper.wp
  simp [execOp, hop, resolve, invoke, builtin, hs, hx, hrun, Result.andThen]
  refine hK v' w' ?_ (fun e => by have := (r3.1 e).2; omega) (below_grown r2 hlt hbase) r2
  have h6 : w'.ownsRow base e A.k v' (xs ++ [y]).length (us ++ cs) := by rw [List.length_append]; exact r1
  exact flat_own hf h6 (rdAll_join A (hf.all h2) ⟨cs, [], by simp, hf.any _ _ _ _ hcs, rfl⟩)
theorem lit_cells_one (X : World) (cs : Array Value) (e : TypeId) (j : Nat) (u : Value) (h : cs.toList[j]? = some u) : (X.alloc (.cells cs e)).drew.cell? ((⟨X.heap.size, 0, none⟩ : Addr).add j) = some u := by
  have e1 : (⟨X.heap.size, 0, none⟩ : Addr).add j = ⟨X.heap.size, j, none⟩ := by unfold Addr.add; split <;> simp_all
  show (X.alloc (.cells cs e)).cell? _ = _
  rw [e1, cell_of_row (X.alloc (.cells cs e)) X.heap.size j cs e (0, 0) (heap_alloc_new X _)]
  simpa using h
theorem lit_cells_at (X : World) (cs : Array Value) (e : TypeId) (j : Nat) (u : Value) (h : cs.toList[j]? = some u) : (X.alloc (.cells cs e)).cell? ((⟨X.heap.size, 0, none⟩ : Addr).add j) = some u := lit_cells_one X cs e j u h

end Go.Proofs.Ytfhlpgngeiploaa
