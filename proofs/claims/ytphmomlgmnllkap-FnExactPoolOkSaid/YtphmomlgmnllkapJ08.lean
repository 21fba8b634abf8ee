/-
  A heap of pointers as it lies: its variable, its row, its nodes; which function an interface's method is.
  The heap's Less and Swap.
  container/heap's up and down over the program's heap.
  container/heap's down over the program's heap.
  The heap's Push and Pop; container/heap's Push, Pop and Remove over it.
  container/heap's Pop and Remove over the program's heap.
  Routes as records of three numbers.
  The given DropTo.
  Small laws of no program: rows of texts that the call itself made.
-/
import Derived.Test.YtphmomlgmnllkapJ02
import Derived.Test.YtphmomlgmnllkapJ07
import Derived.Handy
import Derived.Deep.RegionLaw
import Derived.Test.YtphmomlgmnllkapJ04
import Derived.Test.YtphmomlgmnllkapRows
import Derived.Deep.RegionHeld3
import Derived.BigQuiet
import Derived.Deep.QuietTactic
import Derived.Test.YtphmomlgmnllkapJ03
namespace Go.Proofs.Ytphmomlgmnllkap
open Go.RowKit

/-- A lease, and how many came ahead of it. -/
abbrev Hd := (Int × Int × Int) × Int
def holdA (x : Hd) : Array Value := #[.int .i64 x.1.1, .int .i64 x.1.2.1, .int .i64 x.1.2.2, .int .i64 x.2]

/-- A row and a variable of another type lie apart; so do two variables. -/
theorem OwnR.off_var {α : Type} {R : Rec α} {w : World} {base b : Nat} {e t : TypeId} {v : Value} {l : List α} {cs : Array Value} (h : OwnR R w base e v l) (hv : VarA b t cs w) (he : e ≠ t) : b ∉ blk v := by
  intro hb
  have h1 := hv.row
  unfold blk at hb
  rcases h.2 with ⟨rfl, _⟩ | ⟨g', cap, cur, rfl, _, hc, _⟩
  · simp [Value.ownBlock] at hb
  · simp [Value.ownBlock] at hb
    subst hb
    rw [hc] at h1
    injection h1 with h1
    injection h1 with _ h1
    exact he h1
theorem var_off {X : World} {b c : Nat} {T U : TypeId} {xs ys : Array Value} (h : VarA b T xs X) (k : VarA c U ys X) (hT : T ≠ U) : b ≠ c := by
  intro e
  subst e
  have := h.row.symm.trans k.row
  injection this with this
  injection this with _ this
  exact hT this
theorem VarA.chg {r : Nat} {t : TypeId} {cs : Array Value} {fp : List Nat} {X Y : World} (h : VarA r t cs X) (hc : Chg fp X Y) (hr : r ∉ fp) : VarA r t cs Y := ⟨(hc.block r h.lt hr).trans h.row⟩

/-- Changes one behind another, the second ones in what is new besides. -/
theorem Chg.then {fp fq : List Nat} {w w1 w2 : World} (h : Chg fp w w1) (k : Chg fq w1 w2) (hs : ∀ g ∈ fq, g ∈ fp ∨ w.heap.size ≤ g) : Chg fp w w2 :=
  ⟨k.os.trans h.os, k.tape.trans h.tape, k.output.trans h.output, Nat.le_trans h.size k.size, fun g hg hn => (k.block g (Nat.lt_of_lt_of_le hg h.size) (fun e => by
    rcases hs g e with h1 | h1
    · exact hn h1
    · omega)).trans (h.block g hg hn)⟩

theorem load_cell {P : Program} {t : TypeId} {a : Addr} {v : Value} {w : World} (ht : (isAgg t).run P w = .ok false w) (h : w.cell? a = some v) : (loadVar t a).run P w = .ok v w := by
  unfold loadVar
  rw [Sem.run_bind, ht]
  simp [h]
end Go.Proofs.Ytphmomlgmnllkap
namespace Go.Proofs.Ytphmomlgmnllkap
open Go.RowKit

theorem lt_less (a n b m : Int) (h : a = b → n = m) : decide (orI (cmpI a b) (cmpI n m) < 0) = decide (a < b) := by
  rw [Bool.eq_iff_iff, decide_eq_true_eq, decide_eq_true_eq]
  unfold orI cmpI
  by_cases h1 : a < b
  · rw [if_pos h1]
    simp [h1]
  · rw [if_neg h1]
    by_cases h2 : b < a
    · rw [if_pos h2]
      simp [h1]
    · have := h (by omega)
      rw [if_neg h2, if_pos rfl]
      subst this
      simp
      omega

/-- Two nodes behind two pointers of a row. -/
def LN (w : World) (g i j p q : Nat) (a n b m : Int) (X : World) : Prop := X.cell? ⟨g, i, none⟩ = some (.pointer (some ⟨p, 0, none⟩)) ∧ X.cell? ⟨g, j, none⟩ = some (.pointer (some ⟨q, 0, none⟩)) ∧ X.cell? ⟨p, 0, none⟩ = some (.int .i64 a) ∧ X.cell? ⟨p, 3, none⟩ = some (.int .i64 n) ∧ X.cell? ⟨q, 0, none⟩ = some (.int .i64 b) ∧ X.cell? ⟨q, 3, none⟩ = some (.int .i64 m) ∧ Below w.heap.size w X
theorem LN.next {w : World} {g i j p q : Nat} {a n b m : Int} {X Y : World} (h : LN w g i j p q a n b m X) (hb : Below X.heap.size X Y) : LN w g i j p q a n b m Y := by
  obtain ⟨h0, h1, h2, h3, h4, h5, h6⟩ := h
  have k0 : g < X.heap.size := cell_size (p := ⟨g, i, none⟩) h0
  have k2 : p < X.heap.size := cell_size (p := ⟨p, 0, none⟩) h2
  have k4 : q < X.heap.size := cell_size (p := ⟨q, 0, none⟩) h4
  exact ⟨by rw [hb.cell (p := ⟨g, i, none⟩) k0]; exact h0, by rw [hb.cell (p := ⟨g, j, none⟩) k0]; exact h1, by rw [hb.cell (p := ⟨p, 0, none⟩) k2]; exact h2, by rw [hb.cell (p := ⟨p, 3, none⟩) k2]; exact h3, by rw [hb.cell (p := ⟨q, 0, none⟩) k4]; exact h4, by rw [hb.cell (p := ⟨q, 3, none⟩) k4]; exact h5, h6.trans (hb.mono h6.size)⟩
theorem LN.below {w : World} {g i j p q : Nat} {a n b m : Int} {X : World} (h : LN w g i j p q a n b m X) : Below w.heap.size w X := by
  obtain ⟨_, _, _, _, _, _, h⟩ := h
  exact h
theorem LN.drew {w : World} {g i j p q : Nat} {a n b m : Int} {X : World} (h : LN w g i j p q a n b m X) : LN w g i j p q a n b m X.drew := h.next ((Below.refl _ X).drew)
theorem LN.alloc {w : World} {g i j p q : Nat} {a n b m : Int} {X : World} (h : LN w g i j p q a n b m X) (o : Obj) : LN w g i j p q a n b m (X.alloc o) := h.next ((Below.refl _ X).alloc (Nat.le_refl _) o)

end Go.Proofs.Ytphmomlgmnllkap
namespace Go.Proofs.Ytphmomlgmnllkap
open Go.RowKit

def keyN (nd : Nat → Hd) (p : Nat) : Int := (nd p).1.1

end Go.Proofs.Ytphmomlgmnllkap
namespace Go.Proofs.Ytphmomlgmnllkap
open Go.RowKit

/-- What down leaves. -/
def DownEnd (nd : Nat → Hd) (ps qs : List Nat) (n i : Nat) (mv : Bool) : Prop := (mv = true ∧ HeapK (keyL (keyN nd) qs) n) ∨ (mv = false ∧ qs = ps ∧ UpK (keyL (keyN nd) qs) n i)
/-- While it goes down. -/
def DownI (nd : Nat → Hd) (ps qs : List Nat) (n i m : Nat) : Prop := (m = i ∧ qs = ps) ∨ (i < m ∧ m < n ∧ DownK (keyL (keyN nd) qs) n m)
theorem DownI.but {nd : Nat → Hd} {ps qs : List Nat} {n i m : Nat} (h : DownI nd ps qs n i m) (hB : ButK (keyL (keyN nd) ps) n i) : ButK (keyL (keyN nd) qs) n m := by
  rcases h with ⟨rfl, rfl⟩ | ⟨_, _, h⟩
  · exact hB
  · exact h.1
theorem DownI.end {nd : Nat → Hd} {ps qs : List Nat} {n i m : Nat} (h : DownI nd ps qs n i m) (hB : ButK (keyL (keyN nd) ps) n i) (hm : ∀ c, 0 < c → c < n → (c - 1) / 2 = m → keyL (keyN nd) qs m ≤ keyL (keyN nd) qs c) : DownEnd nd ps qs n i (decide (i < m)) := by
  rcases h with ⟨rfl, rfl⟩ | ⟨h1, _, h⟩
  · exact .inr ⟨by simp, rfl, hB.done hm⟩
  · exact .inl ⟨by simp; omega, h.done hm⟩
theorem DownI.step {nd : Nat → Hd} {ps qs : List Nat} {n i m j : Nat} (h : DownI nd ps qs n i m) (hB : ButK (keyL (keyN nd) ps) n i) (lm : m < qs.length) (lj : j < qs.length) (hj : (j - 1) / 2 = m) (j0 : 0 < j) (hn : j < n) (hlt : keyL (keyN nd) qs j < keyL (keyN nd) qs m) (hm : ∀ c, 0 < c → c < n → (c - 1) / 2 = m → keyL (keyN nd) qs j ≤ keyL (keyN nd) qs c) : DownI nd ps (swapL qs m j) n i j := by
  have h2 : DownK (keyL (keyN nd) (swapL qs m j)) n j := by
    rw [keyL_swap _ _ lm lj]
    exact (h.but hB).step hj j0 hn hlt hm
  refine .inr ⟨?_, hn, h2⟩
  rcases h with ⟨rfl, _⟩ | ⟨h1, _, _⟩ <;> omega

end Go.Proofs.Ytphmomlgmnllkap
namespace Go.Proofs.Ytphmomlgmnllkap
open Go.RowKit

theorem chg_grown {w w' : World} {v : Value} (h : w.grownBy w' v.ownBlock) : Chg (blk v) w w' := Chg.grown h (blk v) (fun k hk => by unfold blk; rw [hk]; simp)

/-- A row that is cut at its end. -/
theorem OwnR.cut {α : Type} {R : Rec α} {w : World} {base : Nat} {e : TypeId} {g n cap : Nat} {l : List α} (h : OwnR R w base e (.slice (some ⟨g, 0, none⟩) n cap) l) (m : Nat) (hm : m ≤ l.length) : OwnR R w base e (.slice (some ⟨g, 0, none⟩) m cap) (l.take m) := by
  have e1 : (l.take m).length = m := by rw [List.length_take]; omega
  unfold OwnR
  rw [e1]
  refine ⟨by rw [R.flat_length, e1], .inr ?_⟩
  rcases h.2 with ⟨h0, _⟩ | ⟨g', cap', cur, h0, h1, h2, h3, h4, h5, h6⟩
  · cases h0
  · simp only [Value.slice.injEq, Option.some.injEq, Addr.mk.injEq, and_true] at h0
    obtain ⟨rfl, rfl, rfl⟩ := h0
    refine ⟨g, cap, cur, rfl, h1, h2, by omega, h4, h5, ?_⟩
    have e2 : l.flatMap R.enc = (l.take m).flatMap R.enc ++ (l.drop m).flatMap R.enc := by rw [← List.flatMap_append, List.take_append_drop]
    have e3 : ((l.take m).flatMap R.enc).length = m * R.k := by rw [R.flat_length, e1]
    have e4 : (cur.toList.take (l.length * R.k)).take (m * R.k) = cur.toList.take (m * R.k) := by rw [List.take_take, Nat.min_eq_left (Nat.mul_le_mul_right _ hm)]
    rw [← e4, h6, e2, List.take_left' e3]

theorem OwnR.chgR {α : Type} {R : Rec α} {w w' : World} {base : Nat} {e : TypeId} {v : Value} {l : List α} {fp : List Nat} (h : OwnR R w base e v l) (hc : Chg fp w w') (hn : ∀ g ∈ blk v, g ∉ fp) : OwnR R w' base e v l := by
  refine ⟨h.1, ?_⟩
  rcases h.2 with h | ⟨g, cap, cur, rfl, h2, h3, h4⟩
  · exact .inl h
  · exact .inr ⟨g, cap, cur, rfl, h2, by rw [hc.block g (lt_of_block h3) (hn g (by simp [blk, Value.ownBlock]))]; exact h3, h4⟩

/-- 'h = append(h, p)' as a step of a region that draws its order. -/
theorem step_pushP {P : Program} {ops : Array Oper} {o : Oper} {a : Act} {W : World} {K : Act → World → Prop} {Q : Exit → Act → World → Prop} {E : Prop}
    (hg : o.guard = none) (s x : Operand) (t : TypeId) (hop : o.op = Op.call { callee := Callee.builtin Builtin.append, args := #[s, x], argTypes := #[t, t] })
    (base : Nat) (e : TypeId) (i : TypeInfo) (z : Value) (ht : P.underlying t = some (.slice e)) (hi : P.info? e = some i) (hz : i.zero = some z)
    (hsize : i.size = 1) (hby : i.bytes = 8) (hzs : z.cells.size = 1) (v : Value) (xs : List Nat) (hs : a.eval s = v) (hown : OwnR ptrRec W base e v xs)
    (y : Nat) (ad : Addr) (hx : a.eval x = .slice (some ad) 1 1) (hc : ∀ (j : Nat) (u : Value), [Value.pointer (some ⟨y, 0, none⟩)][j]? = some u → W.cell? (ad.add j) = some u)
    (hlen : xs.length + 1 ≤ 1000000000) (hbase : base ≤ W.heap.size)
    (hK : ∀ v' w', OwnR ptrRec w' base e v' (xs ++ [y]) → v' ≠ .slice none 0 0 → W.grownBy w' v.ownBlock → K (a.put o.dst v') w') :
    if Region.wanted o (yielded ops a.tmps) = true then Oper.wp P o a W K Q else E := by
  have hw : Region.wanted o (yielded ops a.tmps) = true := by simp [Region.wanted, hg]
  rw [if_pos hw]
  obtain ⟨v', w', hrun, r1, r2, r3⟩ := run_append_own (P := P) W base t o.type e i z 1 8 ht hi hz hsize hby hzs (by decide) v xs.length (xs.flatMap ptrRec.enc) hown ad 1 1 [.pointer (some ⟨y, 0, none⟩)] rfl hc (by intro u hu; simp at hu; subst hu; rfl) (by unfold maxLen; omega) (by omega) hbase
  unfold Oper.wp
  simp [execOp, hop, resolve, invoke, builtin, hs, hx, hrun, Result.andThen]
  refine hK v' w' ?_ (fun e => by have := (r3.1 e).2; omega) r2
  unfold OwnR
  rw [List.length_append, List.flatMap_append]
  exact r1

/-- Who lies in a heap has a key of its own. -/
def KeyOne (nd : Nat → Hd) (ps : List Nat) : Prop := ∀ p ∈ ps, ∀ q ∈ ps, keyN nd p = keyN nd q → p = q
theorem KeyOne.sub {nd : Nat → Hd} {ps qs : List Nat} (h : KeyOne nd ps) (hs : ∀ x ∈ qs, x ∈ ps) : KeyOne nd qs := fun p hp q hq e => h p (hs p hp) q (hs q hq) e

end Go.Proofs.Ytphmomlgmnllkap
namespace Go.Proofs.Ytphmomlgmnllkap
open Go.RowKit

end Go.Proofs.Ytphmomlgmnllkap
namespace Go.Proofs.Ytphmomlgmnllkap
open Go.RowKit

/-- A route: address, length, whom it leads to. -/
abbrev Rt := Int × Int × Int
def rtRec : Rec Rt where
  k := 3
  enc := fun r => [.int .i64 r.1, .int .i64 r.2.1, .int .i64 r.2.2]
  len := fun _ => rfl
  one := fun r u hu => by
    simp only [List.mem_cons, List.not_mem_nil, or_false] at hu
    rcases hu with rfl | rfl | rfl <;> rfl
  pos := by decide
end Go.Proofs.Ytphmomlgmnllkap
namespace Go.Proofs.Ytphmomlgmnllkap
open Go.RowKit

theorem row_three {w : World} {g : Nat} {xs : List Rt} (h : ∀ j t x, xs[j]? = some x → t < rtRec.k → w.cell? ⟨g, rtRec.k * j + t, none⟩ = (rtRec.enc x)[t]?) (j : Nat) (x : Rt) (hx : xs[j]? = some x) :
    w.cell? ⟨g, j * 3, none⟩ = some (.int .i64 x.1) ∧ w.cell? ⟨g, j * 3 + 1, none⟩ = some (.int .i64 x.2.1) ∧ w.cell? ⟨g, j * 3 + 2, none⟩ = some (.int .i64 x.2.2) := by
  have h0 := h j 0 x hx (by decide)
  have h1 := h j 1 x hx (by decide)
  have h2 := h j 2 x hx (by decide)
  have e : rtRec.k * j = j * 3 := Nat.mul_comm _ _
  rw [e] at h0 h1 h2
  exact ⟨h0, h1, h2⟩

end Go.Proofs.Ytphmomlgmnllkap
namespace Go.Proofs.Ytphmomlgmnllkap
open Go.RowKit

def strs (ls : List (List UInt8)) : List Value := ls.map fun l => Value.string ⟨l.toArray⟩

/-- The slice value v is nil or the call's own (from block 'base' on), and holds these texts. -/
def OwnS (w : World) (base : Nat) (e : TypeId) (v : Value) (ls : List (List UInt8)) : Prop := w.ownsRow base e 1 v ls.length (strs ls)

theorem OwnS.nil (w : World) (base : Nat) (e : TypeId) : OwnS w base e (.slice none 0 0) [] := World.ownsRow_nil _ _ _ _
theorem OwnS.lit (w : World) (base : Nat) (e : TypeId) (hb : base ≤ w.heap.size) : OwnS (w.alloc (.cells #[] e)) base e (.slice (some ⟨w.heap.size, 0, none⟩) 0 0) [] :=
  World.ownsRow_lit w #[] 0 hb (by decide) rfl
theorem OwnS.alloc {w : World} {base : Nat} {e : TypeId} {v : Value} {ls : List (List UInt8)} (h : OwnS w base e v ls) (o : Obj) : OwnS (w.alloc o) base e v ls := World.ownsRow.alloc h o
theorem OwnS.drewN {w : World} {base : Nat} {e : TypeId} {v : Value} {ls : List (List UInt8)} (h : OwnS w base e v ls) (n : Nat) : OwnS (w.drewN n) base e v ls := h
theorem OwnS.lower {w : World} {base base' : Nat} {e : TypeId} {v : Value} {ls : List (List UInt8)} (h : OwnS w base e v ls) (hb : base' ≤ base) : OwnS w base' e v ls := by
  refine ⟨h.1, ?_⟩
  rcases h.2 with h | ⟨g, cap, cur, h1, h2, h3⟩
  · exact .inl h
  · exact .inr ⟨g, cap, cur, h1, by omega, h3⟩

theorem OwnS.below {w w' : World} {base : Nat} {e : TypeId} {v : Value} {ls : List (List UInt8)} (h : OwnS w base e v ls) (hb : Below w.heap.size w w') : OwnS w' base e v ls := by
  refine ⟨h.1, ?_⟩
  rcases h.2 with h | ⟨g, cap, cur, h1, h2, h3, h4⟩
  · exact .inl h
  · exact .inr ⟨g, cap, cur, h1, h2, by rw [hb.block g (lt_of_block h3)]; exact h3, h4⟩

/-- The shape of an owned row of texts, and its cells. -/
theorem OwnS.form {w : World} {base : Nat} {e : TypeId} {v : Value} {ls : List (List UInt8)} (h : OwnS w base e v ls) : ∃ ao cap, v = .slice ao ls.length cap ∧
    (0 < ls.length → ∃ g, ao = some ⟨g, 0, none⟩ ∧ base ≤ g ∧ g < w.heap.size ∧ ∀ j, j < ls.length → w.cell? ⟨g, j, none⟩ = some (.string ⟨(ls.getD j []).toArray⟩) ∧ w.frozen? ⟨g, j, none⟩ = false) := by
  have h' : w.ownsRow base e 1 v ls.length (strs ls) := h
  rcases h'.2 with ⟨rfl, h0⟩ | ⟨g, cap, cur, rfl, hb, hh, _, _, _, _⟩
  · exact ⟨none, 0, by rw [h0], fun hp => by omega⟩
  · refine ⟨_, cap, rfl, fun _ => ⟨g, rfl, hb, lt_of_block hh, fun j hj => ⟨?_, h'.frozenAt j⟩⟩⟩
    rw [h'.cellAt j (by omega)]
    simp [strs, hj]

/-- One text of the row is written over. -/
theorem OwnS.stored {w : World} {base : Nat} {e : TypeId} {g n cap : Nat} {ls : List (List UInt8)} (hn : n = ls.length) (h : OwnS w base e (.slice (some ⟨g, 0, none⟩) n cap) ls) (j : Nat) (t : List UInt8) :
    OwnS (w.setCell ⟨g, j, none⟩ (.string ⟨t.toArray⟩)) base e (.slice (some ⟨g, 0, none⟩) n cap) (ls.set j t) := by
  subst hn
  have h' : w.ownsRow base e 1 (.slice (some ⟨g, 0, none⟩) ls.length cap) ls.length (strs ls) := h
  have h2 := (h'.stored j (.string ⟨t.toArray⟩)).1
  unfold OwnS
  have e1 : strs (ls.set j t) = (strs ls).set j (.string ⟨t.toArray⟩) := by simp [strs]
  rw [e1, List.length_set]
  exact h2

/-- 'out = append(out, t)': out a row of texts of the call's own. -/
theorem wpList_pushS {P : Program} (w : World) {ops : Array Oper} {rest : List Oper} {o : Oper} {a : Act} {Q : Exit → Act → World → Prop} (hgd : o.guard = none) (s x : Operand) (t : TypeId)
    (ho : o.op = .call { callee := .builtin .append, args := #[s, x], argTypes := #[t, t] })
    (base : Nat) (e : TypeId) (i : TypeInfo) (ht : P.underlying t = some (.slice e)) (hi : P.info? e = some i) (hz : i.zero = some (.string ByteArray.empty))
    (hsize : i.size = 1) (hby : i.bytes = 16) (v : Value) (ls : List (List UInt8)) (hs : a.eval s = v) (hown : OwnS w base e v ls)
    (l : List UInt8) (z : ByteArray) (hx : a.eval x = .slice (some ⟨w.heap.size, 0, none⟩) 1 1) (hzl : z = ⟨l.toArray⟩)
    (hlen : ls.length ≤ 1000000000) (hbase : base ≤ w.heap.size)
    (h : ∀ v' w', OwnS w' base e v' (ls ++ [l]) → Below base w w' → wpList P ops Q rest (a.put o.dst v') w') :
    wpList P ops Q (o :: rest) a (w.alloc (.cells #[.string z] e)) := by
  subst hzl
  refine wpList_append_own (w.alloc (.cells #[.string ⟨l.toArray⟩] e)) hgd s x t ho base e i (.string ByteArray.empty) 1 16 ht hi hz hsize hby rfl (by decide) v ls.length (strs ls) hs (World.ownsRow.alloc hown _) ⟨w.heap.size, 0, none⟩ 1 1 [.string ⟨l.toArray⟩] hx rfl
    (by intro j u hj; match j, hj with | 0, hj => simp at hj; subst hj; simp [Addr.add]) (by intro u hu; simp at hu; subst hu; rfl) (by unfold maxLen; omega) (by omega) (by simp; omega) ?_
  intro v' w' h1 h2 _
  refine h v' w' ?_ ?_
  · have e1 : (ls ++ [l]).length = ls.length + 1 := by simp
    have e2 : strs (ls ++ [l]) = strs ls ++ [.string ⟨l.toArray⟩] := by simp [strs]
    unfold OwnS
    rw [e1, e2]
    exact h1
  · exact ((Below.refl base w).alloc hbase _).grown h2 (by simp; omega) (fun k hk => (World.ownsRow.lt hown k hk).1)

end Go.Proofs.Ytphmomlgmnllkap
