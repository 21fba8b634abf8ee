/-
  'append(out, list...)' as a step of a region that draws its order; no program is spoken of here.
  The program's poolWith and copyOfPool.
  The program's Release.
  The program's addrFor.
  The program's Grant.
  The program's Expire, of leases that ascend.
  The program's pools.
-/
import Derived.Test.YtphmomlgmnllkapJ07
import Derived.Laws.OwnMore
import Derived.Test.YtphmomlgmnllkapJ19
import Derived.Deep.RegionLaw
import Derived.Test.YtphmomlgmnllkapJ24
import Derived.Test.YtphmomlgmnllkapJ29
namespace Go.Proofs.Ytphmomlgmnllkap
open Go.RowKit

/-- 'append(out, list...)' as a step of a region that draws its order, over flat rows. -/
theorem step_copyF {α : Type} {P : Program} {ops : Array Oper} {o : Oper} {a : Act} {W : World} {K : Act → World → Prop} {Q : Exit → Act → World → Prop} {E : Prop}
    (hg : o.guard = none) (s x : Operand) (t : TypeId) (hop : o.op = Op.call { callee := Callee.builtin Builtin.append, args := #[s, x], argTypes := #[t, t] })
    (base : Nat) (e : TypeId) (i : TypeInfo) (z : Value) (bytes : Nat) (A : Lay α) (hf : Flat A) (ht : P.underlying t = some (.slice e)) (hi : P.info? e = some i) (hz : i.zero = some z)
    (hsize : i.size = A.k) (hby : i.bytes = bytes) (hzs : z.cells.size = A.k) (hb1 : bytes ≤ 1000) (v : Value) (f : List Nat) (xs : List α) (hs : a.eval s = v) (hown : (Lay.rows e A).own W base f [v] xs) (hv0 : v ≠ .slice none 0 0)
    (u : Value) (ys : List α) (hx : a.eval x = u) (hys : (Lay.rows e A).rd W [u] ys)
    (hlen : xs.length + ys.length ≤ 1000000000) (hbase : base ≤ W.heap.size)
    (hK : ∀ v' w', (Lay.rows e A).own w' base (blk v') [v'] (xs ++ ys) → v' ≠ .slice none 0 0 → W.grownBy w' v.ownBlock → Below base W w' → K (a.put o.dst v') w') :
    if Region.wanted o (yielded ops a.tmps) = true then Oper.wp P o a W K Q else E := by
  have hw : Region.wanted o (yielded ops a.tmps) = true := by simp [Region.wanted, hg]
  rw [if_pos hw]
  obtain ⟨us, h1, h2, rfl⟩ := flat_inv hf hown
  obtain ⟨u', hu, hys⟩ := hys
  obtain rfl : u = u' := by simpa using hu
  have hlt : ∀ k, v.ownBlock = some k → base ≤ k := fun k hk => (World.ownsRow.lt h1 k hk).1
  have h7 : (xs.length + ys.length) * bytes ≤ 1000000000 * 1000 := Nat.mul_le_mul hlen hb1
  rcases hys with ⟨rfl, a', cap, rfl, hcap⟩ | ⟨g, off, cap, vs, rfl, _, hg2, hc, hr⟩
  · cases a' with
    | none =>
      rw [hcap rfl] at hx
      have hrun := run_append_owned_none (P := P) (w := W) base t o.type e i A.k ht hi v xs.length us h1
      unfold Oper.wp
      simp [execOp, hop, resolve, invoke, builtin, hs, hx, hrun, Result.andThen]
      rw [List.append_nil] at hK
      exact hK v W (flat_own hf h1 h2) hv0 (World.grownBy.refl _ _) (Below.refl _ _)
    | some ad =>
      obtain ⟨v', w', hrun, r1, r2, r3⟩ := run_append_own (P := P) W base t o.type e i z A.k bytes ht hi hz hsize hby hzs A.pos v xs.length us h1 ad 0 cap [] (by simp) (by simp) (by simp) (by unfold maxLen; simp at hlen; omega) (by simp at h7; simp; omega) hbase
      unfold Oper.wp
      simp [execOp, hop, resolve, invoke, builtin, hs, hx, hrun, Result.andThen]
      rw [List.append_nil] at hK
      rw [List.append_nil] at r1
      refine hK v' w' ?_ (fun e => hv0 (r3.1 e).1) r2 (below_grown r2 hlt hbase)
      exact flat_own hf r1 (hf.all h2)
  · obtain ⟨v', w', hrun, r1, r2, r3⟩ := run_append_own (P := P) W base t o.type e i z A.k bytes ht hi hz hsize hby hzs A.pos v xs.length us h1 ⟨g, off, none⟩ ys.length cap vs (rdAll_len A hr) (by
      intro j q hj
      have e1 : (⟨g, off, none⟩ : Addr).add j = ⟨g, off + j, none⟩ := by unfold Addr.add; split <;> simp_all
      rw [e1]
      exact hc j q hj) (rdAll_one A hr) (by unfold maxLen; omega) (by omega) hbase
    unfold Oper.wp
    simp [execOp, hop, resolve, invoke, builtin, hs, hx, hrun, Result.andThen]
    refine hK v' w' ?_ (fun e => hv0 (r3.1 e).1) r2 (below_grown r2 hlt hbase)
    have h6 : w'.ownsRow base e A.k v' (xs ++ ys).length (us ++ vs) := by rw [List.length_append]; exact r1
    exact flat_own hf h6 (rdAll_join A (hf.all h2) (hf.all hr))

end Go.Proofs.Ytphmomlgmnllkap
namespace Go.Proofs.Ytphmomlgmnllkap
open Go.RowKit

/-- What poolWith leaves. -/
def WithGives (pa pn : Int) (lu : Value) (fs : List Fx) (w : World) (e : Ending) (w' : World) : Prop := ∃ (k kc : Nat), e = .returned (.agg #[.int .i64 pa, .int .i64 pn, lu, .slice (some ⟨k, 0, none⟩) fs.length kc]) ∧ layFixedS.own w' w.heap.size [k] [.slice (some ⟨k, 0, none⟩) fs.length kc] fs ∧ Below w.heap.size w w'
theorem empty_lit (X : World) : layFixedS.own ((X.alloc (.cells #[] FixedT)).drew) X.heap.size [X.heap.size] [.slice (some ⟨X.heap.size, 0, none⟩) 0 0] [] := layFixedS.next (flat_lit X _ (Nat.le_refl _)) ((Below.refl _ _).drew)
theorem empty_litL (X : World) : layLeaseS.own ((X.alloc (.cells #[] LeaseT)).drew) X.heap.size [X.heap.size] [.slice (some ⟨X.heap.size, 0, none⟩) 0 0] [] := layLeaseS.next (flat_lit X _ (Nat.le_refl _)) ((Below.refl _ _).drew)

/-- A pool goes into the result. -/
theorem out_four {w X : World} {pa pn : Int} {lu fu : Value} {rs : List Ls} {fs : List Fx} {G : Nat} {cs : Array Value} (hG : w.heap.size ≤ G) (hr : VarA G PoolT cs X) (hlo : ∃ f, layLeaseS.own X w.heap.size f [lu] rs) (hfo : ∃ f, layFixedS.own X w.heap.size f [fu] fs) (hb : Below w.heap.size w X) :
    PoolOut w lu fu rs fs ((((X.setCell ⟨G, 0, none⟩ (.int .i64 pa)).setCell ⟨G, 1, none⟩ (.int .i64 pn)).setCell ⟨G, 2, none⟩ lu).setCell ⟨G, 3, none⟩ fu) := by
  have CS : Chg [G] X ((((X.setCell ⟨G, 0, none⟩ (.int .i64 pa)).setCell ⟨G, 1, none⟩ (.int .i64 pn)).setCell ⟨G, 2, none⟩ lu).setCell ⟨G, 3, none⟩ fu) := (((Chg.cell _ _ _ _).trans (Chg.cell _ _ _ _)).trans (Chg.cell _ _ _ _)).trans (Chg.cell _ _ _ _)
  obtain ⟨f, hl⟩ := hlo
  obtain ⟨k, hf⟩ := hfo
  have h1 := row_off flatLease hl hr (by decide)
  have h2 := row_off flatFixed hf hr (by decide)
  exact ⟨⟨f, layLeaseS.chg hl CS (fun j hj hj2 => by rw [List.mem_singleton] at hj2; subst hj2; exact h1 hj)⟩, ⟨k, layFixedS.chg hf CS (fun j hj hj2 => by rw [List.mem_singleton] at hj2; subst hj2; exact h2 hj)⟩, hb.trans (CS.below (fun j hj => by rw [List.mem_singleton] at hj; omega) hb.size)⟩

/-- What copyOfPool leaves is what the given one does. -/
def CopyEnd (pa pn : Int) (ls : List Ls) (fs : List Fx) (w : World) (e : Ending) (w' : World) : Prop := ∃ (lu fu : Value), e = .returned (.agg #[.int .i64 pa, .int .i64 pn, lu, fu]) ∧ PoolOut w lu fu ls fs w'

end Go.Proofs.Ytphmomlgmnllkap
namespace Go.Proofs.Ytphmomlgmnllkap
open Go.RowKit

/-- What Release leaves. -/
def RelEnd (pa pn : Int) (ls : List Ls) (fs : List Fx) (who : Int) (w : World) (e : Ending) (w' : World) : Prop := ∃ (lu fu : Value) (rs : List Ls) (b : Bool), e = .returned (.tuple #[.agg #[.int .i64 pa, .int .i64 pn, lu, fu], .bool b]) ∧ RelTold pa pn ls fs who rs b ∧ PoolOut w lu fu rs fs w'

end Go.Proofs.Ytphmomlgmnllkap
namespace Go.Proofs.Ytphmomlgmnllkap
open Go.RowKit

/-- What addrFor tells. -/
def ForEnd (fp : Int) (w : World) (e : Ending) (w' : World) : Prop := ∃ b : Bool, e = .returned (.tuple #[.int .i64 fp, .bool b]) ∧ (b = true ↔ fp ≠ 0) ∧ Below w.heap.size w w'

end Go.Proofs.Ytphmomlgmnllkap
namespace Go.Proofs.Ytphmomlgmnllkap
open Go.RowKit

/-- What Grant leaves. -/
def GrEnd (pa pn : Int) (ls : List Ls) (fs : List Fx) (who now : Int) (w : World) (e : Ending) (w' : World) : Prop := ∃ (lu fu : Value) (rs : List Ls) (a : Int) (b : Bool), e = .returned (.tuple #[.agg #[.int .i64 pa, .int .i64 pn, lu, fu], .int .i64 a, .bool b]) ∧ GrTold pa pn ls fs who now rs a b ∧ PoolOut w lu fu rs fs w'

/-- A node that is told another time. -/
def setUntil (nd : Nat → Hd) (p : Nat) (t : Int) : Nat → Hd := fun x => if x = p then (((nd p).1.1, (nd p).1.2.1, t), (nd p).2) else nd x
theorem until_key (nd : Nat → Hd) (p : Nat) (t : Int) : keyN (setUntil nd p t) = keyN nd := by
  funext x
  unfold keyN setUntil
  by_cases h : x = p
  · rw [if_pos h, h]
  · rw [if_neg h]
theorem until_old {pa pn : Int} {ls : List Ls} {fs : List Fx} {nd : Nat → Hd} {ps : List Nat} {who t : Int} (hR : LeasesR pa pn ls fs) (h : LeasesIn nd ps ls) (hk : KeyOne nd ps) {p : Nat} (hp : p ∈ ps) (hw : (nd p).1.2.1 = who) : LeasesIn (setUntil nd p t) ps (ls.map (renewL who t)) := by
  intro x
  rw [List.mem_map]
  have e : ∀ q ∈ ps, (setUntil nd p t q).1 = renewL who t (nd q).1 := fun q hq => by
    unfold setUntil renewL
    by_cases hqp : q = p
    · subst hqp
      rw [if_pos rfl, if_pos hw]
    · rw [if_neg hqp, if_neg (fun e => hqp (h.who hR hk hq hp (e.trans hw.symm)))]
  constructor
  · rintro ⟨l, hl, rfl⟩
    obtain ⟨q, hq, rfl⟩ := (h l).1 hl
    exact ⟨q, hq, e q hq⟩
  · rintro ⟨q, hq, rfl⟩
    exact ⟨(nd q).1, (h _).2 ⟨q, hq, rfl⟩, (e q hq).symm⟩
theorem until_new {ls : List Ls} {nd nd' : Nat → Hd} {ps qs : List Nat} {a who t : Int} (h : LeasesIn nd ps ls) (hn : ∀ l ∈ ls, l.1 ≠ a) {p : Nat} (hpn : p ∉ ps) (hq : ∀ x, x ∈ qs ↔ x ∈ ps ∨ x = p) (ho : ∀ x ∈ ps, nd' x = nd x) (hp : (nd' p).1 = (a, who, 0)) : LeasesIn (setUntil nd' p t) qs (withL ls a who t) := by
  intro x
  rw [mem_with hn]
  have e1 : (setUntil nd' p t p).1 = (a, who, t) := by
    unfold setUntil
    rw [if_pos rfl]
    show ((nd' p).1.1, (nd' p).1.2.1, t) = _
    rw [hp]
  have e2 : ∀ q ∈ ps, (setUntil nd' p t q).1 = (nd q).1 := fun q hq => by
    unfold setUntil
    rw [if_neg (fun e => hpn (by rw [← e]; exact hq)), ho q hq]
  constructor
  · rintro (rfl | hx)
    · exact ⟨p, (hq p).2 (.inr rfl), e1⟩
    · obtain ⟨q, hq1, rfl⟩ := (h x).1 hx
      exact ⟨q, (hq q).2 (.inl hq1), e2 q hq1⟩
  · rintro ⟨q, hq1, rfl⟩
    rcases (hq q).1 hq1 with h1 | rfl
    · rw [e2 q h1]
      exact .inr ((h _).2 ⟨q, h1, rfl⟩)
    · exact .inl e1
theorem gr_old {pa pn : Int} {ls : List Ls} {fs : List Fx} {who now : Int} (hG : GrOk pa pn ls fs who now) {l : Ls} (hl : l ∈ ls) (hw : l.2.1 = who) : GrTold pa pn ls fs who now (ls.map (renewL who (now + 20))) l.1 true := by
  obtain ⟨k, hk⟩ := List.mem_iff_getElem?.1 hl
  refine .inr (.inl ⟨rfl, hG, k, l, hk, hw, fun j hj x hx e => ?_, ?_, rfl⟩)
  · exact at_of_pair _ _ hG.1.leases.2.2 k j x l hj hx hk (e.trans hw.symm)
  · rw [renew_eq hG.1.leases k l _ hk, hw]

end Go.Proofs.Ytphmomlgmnllkap
namespace Go.Proofs.Ytphmomlgmnllkap
open Go.RowKit

/-- What Expire leaves. -/
def ExpEnd (pa pn : Int) (ls : List Ls) (fs : List Fx) (now : Int) (w : World) (e : Ending) (w' : World) : Prop := ∃ (lu fu gv : Value), e = .returned (.tuple #[.agg #[.int .i64 pa, .int .i64 pn, lu, fu], gv]) ∧ (∃ f, layIntS.own w' w.heap.size f [gv] (goneP now ls)) ∧ PoolOut w lu fu (keptP now ls) fs w'

section
variable {α β : Type} {A : Lay α} {B : Lay β}
theorem row_typed (hf : Flat A) {e : TypeId} {X : World} {b : Nat} {f : List Nat} {v : Value} {xs : List α} (h : (Lay.rows e A).own X b f [v] xs) {g : Nat} (hg : g ∈ f) : ∃ cs, X.heap[g]? = some (.cells cs e (0, 0)) := by
  obtain ⟨us, ho, _, rfl⟩ := flat_inv hf h
  rcases ho.2 with ⟨rfl, _⟩ | ⟨g', cap, cur, rfl, _, hb, _⟩
  · simp [blk, Value.ownBlock] at hg
  · have : g = g' := by simpa [blk, Value.ownBlock] using hg
    subst this
    exact ⟨cur, hb⟩
theorem row_grown (hf : Flat A) (hg : Flat B) {e e' : TypeId} {X Y : World} {b c : Nat} {f k : List Nat} {v u : Value} {xs : List α} {ys : List β} (h : (Lay.rows e A).own X b f [v] xs) (h' : (Lay.rows e' B).own X c k [u] ys) (he : e ≠ e') (hgr : X.grownBy Y u.ownBlock) : (Lay.rows e A).own Y b f [v] xs := by
  have h1 := rows_off hf hg h h' he
  obtain ⟨us, ho, _, rfl⟩ := flat_inv hg h'
  refine (Lay.rows e A).keep h fun g hg2 => hgr.block g ((Lay.rows e A).blocks h g hg2).2 fun e2 => h1 g hg2 ?_
  unfold blk
  rw [← e2]
  simp
end

/-- While those that are over are told. -/
structure ExJ (w : World) (pa pn : Int) (lv fv lf tv : Value) (ks T : List Ls) (gv : Value) (gs : List Int) (X : World) : Prop where
  box : VarA w.heap.size PoolT #[.int .i64 pa, .int .i64 pn, lv, fv] X
  res : VarA (w.heap.size + 1) PoolT #[.int .i64 0, .int .i64 0, .slice none 0 0, .slice none 0 0] X
  below : Below w.heap.size w X
  left : ∃ f, layLeaseS.own X (w.heap.size + 2) f [lf] ks
  told : ∃ f, layLeaseS.own X (w.heap.size + 2) f [tv] T
  own : ∃ f, layIntS.own X (w.heap.size + 2) f [gv] gs
theorem ExJ.next {w : World} {pa pn : Int} {lv fv lf tv : Value} {ks T : List Ls} {gv : Value} {gs : List Int} {X Y : World} (h : ExJ w pa pn lv fv lf tv ks T gv gs X) (hb : Below X.heap.size X Y) : ExJ w pa pn lv fv lf tv ks T gv gs Y :=
  ⟨h.box.next hb, h.res.next hb, h.below.trans (hb.mono h.below.size), h.left.imp fun _ hf => layLeaseS.next hf hb, h.told.imp fun _ hf => layLeaseS.next hf hb, h.own.imp fun _ hf => layIntS.next hf hb⟩
theorem ExJ.more {w : World} {pa pn : Int} {lv fv lf tv : Value} {ks T : List Ls} {gv gv' : Value} {gs gs' : List Int} {X Y : World} (h : ExJ w pa pn lv fv lf tv ks T gv gs X) (hg : X.grownBy Y gv.ownBlock) (hb : Below (w.heap.size + 2) X Y) (ho : ∃ f, layIntS.own Y (w.heap.size + 2) f [gv'] gs') : ExJ w pa pn lv fv lf tv ks T gv' gs' Y := by
  obtain ⟨f, hf⟩ := h.own
  exact ⟨h.box.next' hb (by omega), h.res.next' hb (by omega), h.below.trans (hb.mono (by omega)), h.left.imp fun _ h1 => row_grown flatLease flatInt h1 hf (by decide) hg, h.told.imp fun _ h1 => row_grown flatLease flatInt h1 hf (by decide) hg, ho⟩

theorem VarA.new' (w : World) (n : Nat) (hn : w.heap.size = n) (t : TypeId) (cs : Array Value) : VarA n t cs (w.alloc (.cells cs t)) := by
  subst hn
  exact VarA.new w t cs
theorem over_take (now : Int) (ls : List Ls) (j : Nat) (h : j < ls.length) : (ls.take (j + 1)).filter (fun l => !keepL now l) = (ls.take j).filter (fun l => !keepL now l) ++ if keepL now ls[j] then [] else [ls[j]] := by
  rw [filter_take _ ls j h]
  cases keepL now ls[j] <;> rfl

end Go.Proofs.Ytphmomlgmnllkap
namespace Go.Proofs.Ytphmomlgmnllkap

end Go.Proofs.Ytphmomlgmnllkap
