/-
  'append(out, list...)' as a step of a region that draws its order; no program is spoken of here.
  The program's poolWith and copyOfPool.
-/
import Derived.Test.YtphmomlgmnllkaqJ07
import Derived.Laws.OwnMore
import Derived.Test.YtphmomlgmnllkaqJ23
import Derived.Deep.RegionLaw
namespace Go.Proofs.Ytphmomlgmnllkaq
open Go.RowKit

/-- 'append(out, list...)' as a step of a region that draws its order, over flat rows. -/
theorem step_copyF {α : Type} {P : Program} {ops : Array Oper} {o : Oper} {a : Act} {W : World} {K : Act → World → Prop} {Q : Exit → Act → World → Prop} {E : Prop}
    (hg : o.guard = none) (s x : Operand) (t : TypeId) (hop : o.op = Op.call { callee := Callee.builtin Builtin.append, args := #[s, x], argTypes := #[t, t] })
    (base : Nat) (e : TypeId) (i : TypeInfo) (z : Value) (bytes : Nat) (A : Lay α) (hf : Flat A) (ht : P.underlying t = some (.slice e)) (hi : P.info? e = some i) (hz : i.zero = some z)
    (hsize : i.size = A.k) (hby : i.bytes = bytes) (hzs : z.cells.size = A.k) (hb1 : bytes ≤ 1000) (v : Value) (f : List Nat) (xs : List α) (hs : a.eval s = v) (hown : (Lay.rows e A).own W base f [v] xs) (hv0 : v ≠ .slice none 0 0)
    (u : Value) (ys : List α) (hx : a.eval x = u) (hys : (Lay.rows e A).rd W [u] ys)
    (hlen : xs.length + ys.length ≤ 1000000000) (hbase : base ≤ W.heap.size)
    (hK : ∀ v' w', (Lay.rows e A).own w' base (blk v') [v'] (xs ++ ys) → v' ≠ .slice none 0 0 → W.grownBy w' v.ownBlock → Below base W w' → K (a.put o.dst v') w') :
    if Region.wanted o (yielded ops a.tmps) = true then Oper.wp P o a W K Q else E := by
  have hw : Region.wanted o (yielded ops a.tmps) = true := by simp [Region.wanted, hg]
  rw [if_pos hw]
  obtain ⟨us, h1, h2, rfl⟩ := flat_inv hf hown
  obtain ⟨u', hu, hys⟩ := hys
  obtain rfl : u = u' := by simpa using hu
  have hlt : ∀ k, v.ownBlock = some k → base ≤ k := fun k hk => (World.ownsRow.lt h1 k hk).1
  have h7 : (xs.length + ys.length) * bytes ≤ 1000000000 * 1000 := Nat.mul_le_mul hlen hb1
  rcases hys with ⟨rfl, a', cap, rfl, hcap⟩ | ⟨g, off, cap, vs, rfl, _, hg2, hc, hr⟩
  · cases a' with
    | none =>
      rw [hcap rfl] at hx
      have hrun := run_append_owned_none (P := P) (w := W) base t o.type e i A.k ht hi v xs.length us h1
      unfold Oper.wp
      simp [execOp, hop, resolve, invoke, builtin, hs, hx, hrun, Result.andThen]
      rw [List.append_nil] at hK
      exact hK v W (flat_own hf h1 h2) hv0 (World.grownBy.refl _ _) (Below.refl _ _)
    | some ad =>
      obtain ⟨v', w', hrun, r1, r2, r3⟩ := run_append_own (P := P) W base t o.type e i z A.k bytes ht hi hz hsize hby hzs A.pos v xs.length us h1 ad 0 cap [] (by simp) (by simp) (by simp) (by unfold maxLen; simp at hlen; omega) (by simp at h7; simp; omega) hbase
      unfold Oper.wp
      simp [execOp, hop, resolve, invoke, builtin, hs, hx, hrun, Result.andThen]
      rw [List.append_nil] at hK
      rw [List.append_nil] at r1
      refine hK v' w' ?_ (fun e => hv0 (r3.1 e).1) r2 (below_grown r2 hlt hbase)
      exact flat_own hf r1 (hf.all h2)
  · obtain ⟨v', w', hrun, r1, r2, r3⟩ := run_append_own (P := P) W base t o.type e i z A.k bytes ht hi hz hsize hby hzs A.pos v xs.length us h1 ⟨g, off, none⟩ ys.length cap vs (rdAll_len A hr) (by
      intro j q hj
      have e1 : (⟨g, off, none⟩ : Addr).add j = ⟨g, off + j, none⟩ := by unfold Addr.add; split <;> simp_all
      rw [e1]
      exact hc j q hj) (rdAll_one A hr) (by unfold maxLen; omega) (by omega) hbase
    unfold Oper.wp
    simp [execOp, hop, resolve, invoke, builtin, hs, hx, hrun, Result.andThen]
    refine hK v' w' ?_ (fun e => hv0 (r3.1 e).1) r2 (below_grown r2 hlt hbase)
    have h6 : w'.ownsRow base e A.k v' (xs ++ ys).length (us ++ vs) := by rw [List.length_append]; exact r1
    exact flat_own hf h6 (rdAll_join A (hf.all h2) (hf.all hr))

end Go.Proofs.Ytphmomlgmnllkaq
namespace Go.Proofs.Ytphmomlgmnllkaq
open Go.RowKit

/-- What poolWith leaves. -/
def WithGives (pa pn : Int) (lu : Value) (fs : List Fx) (w : World) (e : Ending) (w' : World) : Prop := ∃ (k kc : Nat), e = .returned (.agg #[.int .i64 pa, .int .i64 pn, lu, .slice (some ⟨k, 0, none⟩) fs.length kc]) ∧ layFixedS.own w' w.heap.size [k] [.slice (some ⟨k, 0, none⟩) fs.length kc] fs ∧ Below w.heap.size w w'
theorem empty_lit (X : World) : layFixedS.own ((X.alloc (.cells #[] FixedT)).drew) X.heap.size [X.heap.size] [.slice (some ⟨X.heap.size, 0, none⟩) 0 0] [] := layFixedS.next (flat_lit X _ (Nat.le_refl _)) ((Below.refl _ _).drew)
theorem empty_litL (X : World) : layLeaseS.own ((X.alloc (.cells #[] LeaseT)).drew) X.heap.size [X.heap.size] [.slice (some ⟨X.heap.size, 0, none⟩) 0 0] [] := layLeaseS.next (flat_lit X _ (Nat.le_refl _)) ((Below.refl _ _).drew)

set_option maxRecDepth 100000 in
set_option maxHeartbeats 1600000 in
theorem poolWith_any (pa pn : Int) (la : Option Addr) (ln lc : Nat) (fv : Value) (fs : List Fx) (ua : Option Addr) (un uc : Nat) (hfl : fs.length ≤ 100000000) (w : World) (h : layFixedS.rd w [fv] fs) :
    Calls Try.prog 33 #[.agg #[.int .i64 pa, .int .i64 pn, .slice la ln lc, fv], .slice ua un uc] w (WithGives pa pn (.slice ua un uc) fs w) := by
  obtain ⟨fa, fc, rfl⟩ := rows_form h
  obtain ⟨i1, hi1, hz1, hsz1, hby1⟩ := info_of infoFixed
  have e1 : (w.alloc (.cells #[.int .i64 pa, .int .i64 pn, .slice la ln lc, .slice fa fs.length fc] PoolT)).heap.size = w.heap.size + 1 := by simp
  have A0 := Lib.hid ((VarA.new w PoolT #[.int .i64 pa, .int .i64 pn, .slice la ln lc, .slice fa fs.length fc]).alloc (.cells #[.int .i64 0, .int .i64 0, .slice none 0 0, .slice none 0 0] PoolT))
  have hr0 := VarA.new (w.alloc (.cells #[.int .i64 pa, .int .i64 pn, .slice la ln lc, .slice fa fs.length fc] PoolT)) PoolT #[.int .i64 0, .int .i64 0, .slice none 0 0, .slice none 0 0]
  rw [e1] at hr0
  have R0 := Lib.hid hr0
  have B0 := Lib.hid (((Below.refl w.heap.size w).alloc (Nat.le_refl _) (.cells #[.int .i64 pa, .int .i64 pn, .slice la ln lc, .slice fa fs.length fc] PoolT)).alloc (by simp) (.cells #[.int .i64 0, .int .i64 0, .slice none 0 0, .slice none 0 0] PoolT))
  have HR := Lib.hid h
  clear h hr0 e1
  go_enter Try.func33, Try.ntmps33
  go_upto_region 1 with fail
  generalize (w.alloc (.cells #[.int .i64 pa, .int .i64 pn, .slice la ln lc, .slice fa fs.length fc] PoolT)).alloc (.cells #[.int .i64 0, .int .i64 0, .slice none 0 0, .slice none 0 0] PoolT) = Y0 at *
  have hy0 : w.heap.size + 1 + 1 ≤ Y0.heap.size := R0.out.lt
  have hbl : Below Y0.heap.size Y0 ((Y0.alloc (.cells #[] FixedT)).drew) := ((Below.refl _ _).alloc (Nat.le_refl _) _).drew
  have a0 : Y0.cell? ⟨w.heap.size, 0, none⟩ = some (.int .i64 pa) := A0.out.cell 0
  have a1 : Y0.cell? ⟨w.heap.size, 1, none⟩ = some (.int .i64 pn) := A0.out.cell 1
  have a3 : Y0.cell? ⟨w.heap.size, 3, none⟩ = some (.slice fa fs.length fc) := A0.out.cell 3
  have A1 := Lib.hid (A0.out.next hbl)
  have R1 := Lib.hid (R0.out.next hbl)
  have b0 : (Y0.alloc (.cells #[] 73)).cell? ⟨w.heap.size, 0, none⟩ = some (.int .i64 pa) := A1.out.cell 0
  have b1 : (Y0.alloc (.cells #[] 73)).cell? ⟨w.heap.size, 1, none⟩ = some (.int .i64 pn) := A1.out.cell 1
  have b3 : (Y0.alloc (.cells #[] 73)).cell? ⟨w.heap.size, 3, none⟩ = some (.slice fa fs.length fc) := A1.out.cell 3
  have HR1 := Lib.hid (layFixedS.below HR.out (B0.out.trans (hbl.mono B0.out.size)))
  have HB1 := Lib.hid (B0.out.trans (hbl.mono B0.out.size))
  have hsz : Y0.heap.size ≤ (Y0.alloc (.cells #[] FixedT)).drew.heap.size := hbl.size
  clear HR hbl
  go_wp2_with fail
  go_region_law (refine step_copyF rfl (.tmp 8) (.tmp 10) 31 rfl Y0.heap.size FixedT i1 _ 16 layFixed flatFixed Try.underlying31 hi1 hz1 hsz1 hby1 rfl (by omega) (.slice (some ⟨Y0.heap.size, 0, none⟩) 0 0) [Y0.heap.size] [] (by first | rfl | simp [Act.eval, Act.put]) (empty_lit Y0) (fun e => by cases e) (.slice fa fs.length fc) fs (by first | rfl | simp [Act.eval, Act.put]) HR1.out (by simp; omega) hsz ?_; intro v1 w1 hown1 hnn1 hgr1 hbe1; obtain ⟨k, kc, rfl, hblk, hg1b, hg1l⟩ := flat_some flatFixed hown1 hnn1; rw [hblk] at hown1; have A2 := A1.out.next' hbe1 (by omega); have R2 := R1.out.next' hbe1 (by omega); have d0 : w1.cell? ⟨w.heap.size, 0, none⟩ = some (.int .i64 pa) := A2.cell 0; have d1 : w1.cell? ⟨w.heap.size, 1, none⟩ = some (.int .i64 pn) := A2.cell 1; have m0 : w1.cell? ⟨w.heap.size + 1, 0, none⟩ = some (.int .i64 0) := R2.cell 0; have m1 : w1.cell? ⟨w.heap.size + 1, 1, none⟩ = some (.int .i64 0) := R2.cell 1; have m2 : w1.cell? ⟨w.heap.size + 1, 2, none⟩ = some (.slice none 0 0) := R2.cell 2; have m3 : w1.cell? ⟨w.heap.size + 1, 3, none⟩ = some (.slice none 0 0) := R2.cell 3; have n0 := R2.free 0; have n1 := R2.free 1; have n2 := R2.free 2; have n3 := R2.free 3)
  all_goals
    have RS := (((R2.set 0 (.int .i64 pa)).set 1 (.int .i64 pn)).set 2 (.slice ua un uc)).set 3 (.slice (some ⟨k, 0, none⟩) fs.length kc)
    have CS : Chg [w.heap.size + 1] w1 ((((w1.setCell ⟨w.heap.size + 1, 0, none⟩ (.int .i64 pa)).setCell ⟨w.heap.size + 1, 1, none⟩ (.int .i64 pn)).setCell ⟨w.heap.size + 1, 2, none⟩ (.slice ua un uc)).setCell ⟨w.heap.size + 1, 3, none⟩ (.slice (some ⟨k, 0, none⟩) fs.length kc)) := (((Chg.cell _ _ _ _).trans (Chg.cell _ _ _ _)).trans (Chg.cell _ _ _ _)).trans (Chg.cell _ _ _ _)
    have j0 := RS.cell 0
    have j1 := RS.cell 1
    have j2 := RS.cell 2
    have j3 := RS.cell 3
    have hb2 := HB1.out.trans (hbe1.mono (by omega))
    have HE : Hid (WithGives pa pn (.slice ua un uc) fs w (.returned (.agg #[.int .i64 pa, .int .i64 pn, .slice ua un uc, .slice (some ⟨k, 0, none⟩) fs.length kc])) ((((w1.setCell ⟨w.heap.size + 1, 0, none⟩ (.int .i64 pa)).setCell ⟨w.heap.size + 1, 1, none⟩ (.int .i64 pn)).setCell ⟨w.heap.size + 1, 2, none⟩ (.slice ua un uc)).setCell ⟨w.heap.size + 1, 3, none⟩ (.slice (some ⟨k, 0, none⟩) fs.length kc))) :=
      ⟨k, kc, rfl, layFixedS.chg (layFixedS.lower hown1 (by omega)) CS (fun j hj hj2 => by rw [List.mem_singleton] at hj hj2; omega), hb2.trans (CS.below (fun j hj => by rw [List.mem_singleton] at hj; omega) hb2.size)⟩
    clear RS CS hb2 hown1 hnn1 hgr1 hbe1 hblk hg1b hg1l A2 R2
    go_wp2_with fail
    exact bodyPost_ret (v := .agg #[.int .i64 pa, .int .i64 pn, .slice ua un uc, .slice (some ⟨k, 0, none⟩) fs.length kc]) (by simp [results, Try.results33, go_sem, j0, j1, j2, j3]) rfl HE.out

/-- A pool goes into the result. -/
theorem out_four {w X : World} {pa pn : Int} {lu fu : Value} {rs : List Ls} {fs : List Fx} {G : Nat} {cs : Array Value} (hG : w.heap.size ≤ G) (hr : VarA G PoolT cs X) (hlo : ∃ f, layLeaseS.own X w.heap.size f [lu] rs) (hfo : ∃ f, layFixedS.own X w.heap.size f [fu] fs) (hb : Below w.heap.size w X) :
    PoolOut w lu fu rs fs ((((X.setCell ⟨G, 0, none⟩ (.int .i64 pa)).setCell ⟨G, 1, none⟩ (.int .i64 pn)).setCell ⟨G, 2, none⟩ lu).setCell ⟨G, 3, none⟩ fu) := by
  have CS : Chg [G] X ((((X.setCell ⟨G, 0, none⟩ (.int .i64 pa)).setCell ⟨G, 1, none⟩ (.int .i64 pn)).setCell ⟨G, 2, none⟩ lu).setCell ⟨G, 3, none⟩ fu) := (((Chg.cell _ _ _ _).trans (Chg.cell _ _ _ _)).trans (Chg.cell _ _ _ _)).trans (Chg.cell _ _ _ _)
  obtain ⟨f, hl⟩ := hlo
  obtain ⟨k, hf⟩ := hfo
  have h1 := row_off flatLease hl hr (by decide)
  have h2 := row_off flatFixed hf hr (by decide)
  exact ⟨⟨f, layLeaseS.chg hl CS (fun j hj hj2 => by rw [List.mem_singleton] at hj2; subst hj2; exact h1 hj)⟩, ⟨k, layFixedS.chg hf CS (fun j hj hj2 => by rw [List.mem_singleton] at hj2; subst hj2; exact h2 hj)⟩, hb.trans (CS.below (fun j hj => by rw [List.mem_singleton] at hj; omega) hb.size)⟩

/-- What copyOfPool leaves is what the given one does. -/
def CopyEnd (pa pn : Int) (ls : List Ls) (fs : List Fx) (w : World) (e : Ending) (w' : World) : Prop := ∃ (lu fu : Value), e = .returned (.agg #[.int .i64 pa, .int .i64 pn, lu, fu]) ∧ PoolOut w lu fu ls fs w'

set_option maxRecDepth 100000 in
set_option maxHeartbeats 1600000 in
theorem copyOfPool_any (pa pn : Int) (lv fv : Value) (ls : List Ls) (fs : List Fx) (hl : ls.length ≤ 100000000) (hfl : fs.length ≤ 100000000) (w : World) (h : PoolR w lv fv ls fs) :
    Calls Try.prog 28 #[.agg #[.int .i64 pa, .int .i64 pn, lv, fv]] w (CopyEnd pa pn ls fs w) := by
  obtain ⟨la, lc, rfl⟩ := rows_form h.leases
  obtain ⟨fa, fc, rfl⟩ := rows_form h.fixes
  obtain ⟨i0, hi, hz0, hsz0, hby0⟩ := info_of infoLease
  have e1 : (w.alloc (.cells #[.int .i64 pa, .int .i64 pn, .slice la ls.length lc, .slice fa fs.length fc] PoolT)).heap.size = w.heap.size + 1 := by simp
  have A0 := Lib.hid ((VarA.new w PoolT #[.int .i64 pa, .int .i64 pn, .slice la ls.length lc, .slice fa fs.length fc]).alloc (.cells #[.int .i64 0, .int .i64 0, .slice none 0 0, .slice none 0 0] PoolT))
  have hr0 := VarA.new (w.alloc (.cells #[.int .i64 pa, .int .i64 pn, .slice la ls.length lc, .slice fa fs.length fc] PoolT)) PoolT #[.int .i64 0, .int .i64 0, .slice none 0 0, .slice none 0 0]
  rw [e1] at hr0
  have R0 := Lib.hid hr0
  have B0 := Lib.hid (((Below.refl w.heap.size w).alloc (Nat.le_refl _) (.cells #[.int .i64 pa, .int .i64 pn, .slice la ls.length lc, .slice fa fs.length fc] PoolT)).alloc (by simp) (.cells #[.int .i64 0, .int .i64 0, .slice none 0 0, .slice none 0 0] PoolT))
  have HR := Lib.hid h
  clear h hr0 e1
  go_enter Try.func28, Try.ntmps28
  go_upto_region 1 with fail
  generalize (w.alloc (.cells #[.int .i64 pa, .int .i64 pn, .slice la ls.length lc, .slice fa fs.length fc] PoolT)).alloc (.cells #[.int .i64 0, .int .i64 0, .slice none 0 0, .slice none 0 0] PoolT) = Y0 at *
  have hy0 : w.heap.size + 1 + 1 ≤ Y0.heap.size := R0.out.lt
  have hbl : Below Y0.heap.size Y0 ((Y0.alloc (.cells #[] LeaseT)).drew) := ((Below.refl _ _).alloc (Nat.le_refl _) _).drew
  have a0 : Y0.cell? ⟨w.heap.size, 0, none⟩ = some (.int .i64 pa) := A0.out.cell 0
  have a1 : Y0.cell? ⟨w.heap.size, 1, none⟩ = some (.int .i64 pn) := A0.out.cell 1
  have a2 : Y0.cell? ⟨w.heap.size, 2, none⟩ = some (.slice la ls.length lc) := A0.out.cell 2
  have a3 : Y0.cell? ⟨w.heap.size, 3, none⟩ = some (.slice fa fs.length fc) := A0.out.cell 3
  have A1 := Lib.hid (A0.out.next hbl)
  have R1 := Lib.hid (R0.out.next hbl)
  have b0 : (Y0.alloc (.cells #[] 49)).cell? ⟨w.heap.size, 0, none⟩ = some (.int .i64 pa) := A1.out.cell 0
  have b1 : (Y0.alloc (.cells #[] 49)).cell? ⟨w.heap.size, 1, none⟩ = some (.int .i64 pn) := A1.out.cell 1
  have b2 : (Y0.alloc (.cells #[] 49)).cell? ⟨w.heap.size, 2, none⟩ = some (.slice la ls.length lc) := A1.out.cell 2
  have b3 : (Y0.alloc (.cells #[] 49)).cell? ⟨w.heap.size, 3, none⟩ = some (.slice fa fs.length fc) := A1.out.cell 3
  have HB1 := Lib.hid (B0.out.trans (hbl.mono B0.out.size))
  have HR1 := Lib.hid (HR.out.next (w' := (Y0.alloc (.cells #[] LeaseT)).drew) (HB1.out))
  have hsz : Y0.heap.size ≤ (Y0.alloc (.cells #[] LeaseT)).drew.heap.size := hbl.size
  clear hbl
  go_wp2_with fail
  go_region_law (first | (refine step_copyF rfl (.tmp 4) (.tmp 6) 30 rfl Y0.heap.size LeaseT i0 _ 24 layLease flatLease Try.underlying30 hi hz0 hsz0 hby0 rfl (by omega) (.slice (some ⟨Y0.heap.size, 0, none⟩) 0 0) [Y0.heap.size] [] (by first | rfl | simp [Act.eval, Act.put]) (empty_litL Y0) (fun e => by cases e) (.slice la ls.length lc) ls (by first | rfl | simp [Act.eval, Act.put]) HR1.out.leases (by simp; omega) hsz ?_; intro v1 w1 hown1 hnn1 hgr1 hbe1; obtain ⟨g, gc, rfl, hblk, hg1b, hg1l⟩ := flat_some flatLease hown1 hnn1; rw [hblk] at hown1; have A2 := A1.out.next' hbe1 (by omega); have R2 := R1.out.next' hbe1 (by omega); have d0 : w1.cell? ⟨w.heap.size, 0, none⟩ = some (.int .i64 pa) := A2.cell 0; have d1 : w1.cell? ⟨w.heap.size, 1, none⟩ = some (.int .i64 pn) := A2.cell 1; have d2 : w1.cell? ⟨w.heap.size, 2, none⟩ = some (.slice la ls.length lc) := A2.cell 2; have d3 : w1.cell? ⟨w.heap.size, 3, none⟩ = some (.slice fa fs.length fc) := A2.cell 3; have hb2 := HB1.out.trans (hbe1.mono (by omega))) | (go_simp; refine (poolWith_any pa pn la ls.length lc _ fs (some ⟨g, 0, none⟩) ls.length gc hfl _ (layFixedS.below HR.out.fixes hb2)).mono ?_; rintro e w2 ⟨k, kc, rfl, hfo, hb3⟩; have R3 := R2.next hb3; have m0 : w2.cell? ⟨w.heap.size + 1, 0, none⟩ = some (.int .i64 0) := R3.cell 0; have m1 : w2.cell? ⟨w.heap.size + 1, 1, none⟩ = some (.int .i64 0) := R3.cell 1; have m2 : w2.cell? ⟨w.heap.size + 1, 2, none⟩ = some (.slice none 0 0) := R3.cell 2; have m3 : w2.cell? ⟨w.heap.size + 1, 3, none⟩ = some (.slice none 0 0) := R3.cell 3; have n0 := R3.free 0; have n1 := R3.free 1; have n2 := R3.free 2; have n3 := R3.free 3; have hlo := layLeaseS.next hown1 hb3; simp only []))
  all_goals
    have RS := (((R3.set 0 (.int .i64 pa)).set 1 (.int .i64 pn)).set 2 (.slice (some ⟨g, 0, none⟩) ls.length gc)).set 3 (.slice (some ⟨k, 0, none⟩) fs.length kc)
    have j0 := RS.cell 0
    have j1 := RS.cell 1
    have j2 := RS.cell 2
    have j3 := RS.cell 3
    have HE := Lib.hid (out_four (pa := pa) (pn := pn) (Nat.le_succ _) R3 ⟨_, layLeaseS.lower hlo (show w.heap.size ≤ Y0.heap.size by omega)⟩ ⟨_, layFixedS.lower hfo hb2.size⟩ (hb2.trans (hb3.mono hb2.size)))
    clear RS hb2 hb3 hown1 hnn1 hgr1 hbe1 hblk hg1b hg1l A2 R2 R3 hlo hfo
    go_wp2_with fail
    exact bodyPost_ret (v := .agg #[.int .i64 pa, .int .i64 pn, .slice (some ⟨g, 0, none⟩) ls.length gc, .slice (some ⟨k, 0, none⟩) fs.length kc]) (by simp [results, Try.results28, go_sem, j0, j1, j2, j3]) rfl ⟨_, _, rfl, HE.out⟩

end Go.Proofs.Ytphmomlgmnllkaq
