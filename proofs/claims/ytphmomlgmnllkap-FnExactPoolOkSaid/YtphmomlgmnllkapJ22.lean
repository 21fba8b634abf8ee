/-
  The given Release.
  The given l11Free.
  The given Grant.
  Rows of ints of the call's own; no program is spoken of here.
  The given Expire.
-/
import Derived.Test.YtphmomlgmnllkapJ19
import Derived.Test.YtphmomlgmnllkapJ21
import Derived.Test.YtphmomlgmnllkapJ06
import Derived.Test.YtphmomlgmnllkapRows
namespace Go.Proofs.Ytphmomlgmnllkap
open Go.RowKit

/-- The pool in its box, a result, a copy in a variable. -/
structure RP (w : World) (pa pn : Int) (lv fv : Value) (ls : List Ls) (fs : List Fx) (gx g gc k kc : Nat) (X : World) : Prop where
  pb : PB w pa pn lv fv ls fs X
  res : VarA (w.heap.size + 1) PoolT #[.int .i64 0, .int .i64 0, .slice none 0 0, .slice none 0 0] X
  out : VarA gx PoolT #[.int .i64 pa, .int .i64 pn, .slice (some ⟨g, 0, none⟩) ls.length gc, .slice (some ⟨k, 0, none⟩) fs.length kc] X
  lown : layLeaseS.own X w.heap.size [g] [.slice (some ⟨g, 0, none⟩) ls.length gc] ls
  fown : layFixedS.own X w.heap.size [k] [.slice (some ⟨k, 0, none⟩) fs.length kc] fs
  far : w.heap.size + 1 < gx
theorem RP.next {w : World} {pa pn : Int} {lv fv : Value} {ls : List Ls} {fs : List Fx} {gx g gc k kc : Nat} {X Y : World} (h : RP w pa pn lv fv ls fs gx g gc k kc X) (hb : Below X.heap.size X Y) : RP w pa pn lv fv ls fs gx g gc k kc Y :=
  ⟨h.pb.next hb, h.res.next hb, h.out.next hb, layLeaseS.next h.lown hb, layFixedS.next h.fown hb, h.far⟩

/-- Four cells of a variable of four are set. -/
theorem set_four {X : World} {G : Nat} {a b c d p q r s : Value} (h : VarA G PoolT #[a, b, c, d] X) : VarA G PoolT #[p, q, r, s] ((((X.setCell ⟨G, 0, none⟩ p).setCell ⟨G, 1, none⟩ q).setCell ⟨G, 2, none⟩ r).setCell ⟨G, 3, none⟩ s) :=
  (((h.set 0 p).set 1 q).set 2 r).set 3 s
theorem chg_four (X : World) (G : Nat) (p q r s : Value) : Chg [G] X ((((X.setCell ⟨G, 0, none⟩ p).setCell ⟨G, 1, none⟩ q).setCell ⟨G, 2, none⟩ r).setCell ⟨G, 3, none⟩ s) :=
  (((Chg.cell _ _ _ _).trans (Chg.cell _ _ _ _)).trans (Chg.cell _ _ _ _)).trans (Chg.cell _ _ _ _)

/-- What Release tells. -/
def RelTold (pa pn : Int) (ls : List Ls) (fs : List Fx) (who : Int) (rs : List Ls) (b : Bool) : Prop :=
  (b = true ∧ (PoolOkP pa pn ls fs ∧ (ls.filter fun l => l.2.1 != who).length ≠ ls.length) ∧ rs = ls.filter fun l => l.2.1 != who) ∨
  (b = false ∧ rs = ls ∧ ¬ (PoolOkP pa pn ls fs ∧ (ls.filter fun l => l.2.1 != who).length ≠ ls.length))
def RelGives (pa pn : Int) (ls : List Ls) (fs : List Fx) (who : Int) (w : World) (e : Ending) (w' : World) : Prop :=
  ∃ (g gc k kc : Nat) (rs : List Ls) (b : Bool), e = .returned (.tuple #[.agg #[.int .i64 pa, .int .i64 pn, .slice (some ⟨g, 0, none⟩) rs.length gc, .slice (some ⟨k, 0, none⟩) fs.length kc], .bool b]) ∧ RelTold pa pn ls fs who rs b ∧ layLeaseS.own w' w.heap.size [g] [.slice (some ⟨g, 0, none⟩) rs.length gc] rs ∧ layFixedS.own w' w.heap.size [k] [.slice (some ⟨k, 0, none⟩) fs.length kc] fs ∧ Below w.heap.size w w'

/-- The copy goes into the result. -/
theorem rel_out {w X : World} {pa pn who : Int} {ls rs : List Ls} {fs : List Fx} {m mc k kc : Nat} {b : Bool} (hb : Below w.heap.size w X) (hr : VarA (w.heap.size + 1) PoolT #[.int .i64 0, .int .i64 0, .slice none 0 0, .slice none 0 0] X) (ho : layLeaseS.own X w.heap.size [m] [.slice (some ⟨m, 0, none⟩) rs.length mc] rs) (hf : layFixedS.own X w.heap.size [k] [.slice (some ⟨k, 0, none⟩) fs.length kc] fs) (ht : RelTold pa pn ls fs who rs b) :
    RelGives pa pn ls fs who w (.returned (.tuple #[.agg #[.int .i64 pa, .int .i64 pn, .slice (some ⟨m, 0, none⟩) rs.length mc, .slice (some ⟨k, 0, none⟩) fs.length kc], .bool b])) ((((X.setCell ⟨w.heap.size + 1, 0, none⟩ (.int .i64 pa)).setCell ⟨w.heap.size + 1, 1, none⟩ (.int .i64 pn)).setCell ⟨w.heap.size + 1, 2, none⟩ (.slice (some ⟨m, 0, none⟩) rs.length mc)).setCell ⟨w.heap.size + 1, 3, none⟩ (.slice (some ⟨k, 0, none⟩) fs.length kc)) := by
  have CS := chg_four X (w.heap.size + 1) (.int .i64 pa) (.int .i64 pn) (.slice (some ⟨m, 0, none⟩) rs.length mc) (.slice (some ⟨k, 0, none⟩) fs.length kc)
  have h1 := row_off flatLease ho hr (by decide)
  have h2 := row_off flatFixed hf hr (by decide)
  exact ⟨m, mc, k, kc, rs, b, rfl, ht, layLeaseS.chg ho CS (fun j hj hj2 => by rw [List.mem_singleton] at hj2; subst hj2; exact h1 hj), layFixedS.chg hf CS (fun j hj hj2 => by rw [List.mem_singleton] at hj2; subst hj2; exact h2 hj), hb.trans (CS.below (fun j hj => by rw [List.mem_singleton] at hj; omega) hb.size)⟩

end Go.Proofs.Ytphmomlgmnllkap
namespace Go.Proofs.Ytphmomlgmnllkap
open Go.RowKit

/-- The first address that is free, of so many from one on. -/
def freeFrom (ls : List Ls) (fs : List Fx) : Nat → Int → Int
  | 0, _ => 0
  | n + 1, a => if holderP ls a = 0 ∧ fixedP fs a = 0 then a else freeFrom ls fs n (a + 1)
/-- The address that one may have. -/
def freeP (pa pn : Int) (ls : List Ls) (fs : List Fx) (who : Int) : Int :=
  match ownP fs who with
  | some a => a
  | none => freeFrom ls fs (sizeP pn.toNat - 2) (pa + 1)
theorem own_at (fs : List Fx) (a : Int) : ∀ (k : Nat) (f : Fx), fs[k]? = some f → (∀ j, j < k → ∀ x, fs[j]? = some x → x.1 ≠ a) → f.1 = a → ownP fs a = some f.2 := by
  induction fs with
  | nil => intro k f h; simp at h
  | cons g fs ih =>
    intro k f hk hn hf
    cases k with
    | zero =>
      simp at hk
      subst hk
      rw [ownP, if_pos hf]
    | succ k =>
      rw [ownP, if_neg (hn 0 (by omega) g rfl)]
      exact ih k f (by simpa using hk) (fun j hj x hx => hn (j + 1) (by omega) x (by simpa using hx)) hf
theorem own_none (fs : List Fx) (a : Int) (hn : ∀ (j : Nat) (x : Fx), fs[j]? = some x → x.1 ≠ a) : ownP fs a = none := by
  induction fs with
  | nil => rfl
  | cons g fs ih =>
    rw [ownP, if_neg (hn 0 g rfl)]
    exact ih fun j x hx => hn (j + 1) x (by simpa using hx)
theorem free_next (ls : List Ls) (fs : List Fx) (z j : Nat) (b : Nat) (hj : j + 2 < z) (hn : ¬ (holderP ls ((b + 1 + j : Nat) : Int) = 0 ∧ fixedP fs ((b + 1 + j : Nat) : Int) = 0)) : freeFrom ls fs (z - 2 - j) ((b + 1 + j : Nat) : Int) = freeFrom ls fs (z - 2 - (j + 1)) ((b + 1 + (j + 1) : Nat) : Int) := by
  obtain ⟨d, hd⟩ : ∃ d, z - 2 - j = d + 1 := ⟨z - 2 - j - 1, by omega⟩
  rw [hd, freeFrom, if_neg hn, show z - 2 - (j + 1) = d by omega]
  rfl
theorem free_here (ls : List Ls) (fs : List Fx) (z j : Nat) (b : Nat) (hj : j + 2 < z) (hn : holderP ls ((b + 1 + j : Nat) : Int) = 0 ∧ fixedP fs ((b + 1 + j : Nat) : Int) = 0) : freeFrom ls fs (z - 2 - j) ((b + 1 + j : Nat) : Int) = ((b + 1 + j : Nat) : Int) := by
  obtain ⟨d, hd⟩ : ∃ d, z - 2 - j = d + 1 := ⟨z - 2 - j - 1, by omega⟩
  rw [hd, freeFrom, if_pos hn]

end Go.Proofs.Ytphmomlgmnllkap
namespace Go.Proofs.Ytphmomlgmnllkap
open Go.RowKit

def aheadL (a : Int) (l : Ls) : Bool := decide (l.1 < a)
def behindL (a : Int) (l : Ls) : Bool := decide (a < l.1)
def NoOne (ls : List Ls) (who : Int) : Prop := ∀ (j : Nat) (x : Ls), ls[j]? = some x → x.2.1 ≠ who
def GrOk (pa pn : Int) (ls : List Ls) (fs : List Fx) (who now : Int) : Prop := PoolOkP pa pn ls fs ∧ (1 ≤ who ∧ who ≤ 99) ∧ (0 ≤ now ∧ now ≤ 999999980)
/-- What Grant tells. -/
def GrTold (pa pn : Int) (ls : List Ls) (fs : List Fx) (who now : Int) (rs : List Ls) (a : Int) (b : Bool) : Prop :=
  (b = false ∧ a = 0 ∧ rs = ls ∧ (¬ GrOk pa pn ls fs who now ∨ (NoOne ls who ∧ (ls.length = 6 ∨ freeP pa pn ls fs who = 0)))) ∨
  (b = true ∧ GrOk pa pn ls fs who now ∧ ∃ (k : Nat) (l : Ls), ls[k]? = some l ∧ l.2.1 = who ∧ (∀ j, j < k → ∀ x, ls[j]? = some x → x.2.1 ≠ who) ∧ rs = ls.set k (l.1, l.2.1, now + 20) ∧ a = l.1) ∨
  (b = true ∧ GrOk pa pn ls fs who now ∧ NoOne ls who ∧ ls.length ≠ 6 ∧ freeP pa pn ls fs who ≠ 0 ∧ a = freeP pa pn ls fs who ∧ rs = ls.filter (aheadL a) ++ [(a, who, now + 20)] ++ ls.filter (behindL a))
theorem GrTold.no {pa pn : Int} {ls : List Ls} {fs : List Fx} {who now : Int} (h : ¬ GrOk pa pn ls fs who now ∨ (NoOne ls who ∧ (ls.length = 6 ∨ freeP pa pn ls fs who = 0))) : GrTold pa pn ls fs who now ls 0 false := .inl ⟨rfl, rfl, rfl, h⟩
def GrGives (pa pn : Int) (ls : List Ls) (fs : List Fx) (who now : Int) (w : World) (e : Ending) (w' : World) : Prop :=
  ∃ (g gc k kc : Nat) (rs : List Ls) (a : Int) (b : Bool), e = .returned (.tuple #[.agg #[.int .i64 pa, .int .i64 pn, .slice (some ⟨g, 0, none⟩) rs.length gc, .slice (some ⟨k, 0, none⟩) fs.length kc], .int .i64 a, .bool b]) ∧ GrTold pa pn ls fs who now rs a b ∧ layLeaseS.own w' w.heap.size [g] [.slice (some ⟨g, 0, none⟩) rs.length gc] rs ∧ layFixedS.own w' w.heap.size [k] [.slice (some ⟨k, 0, none⟩) fs.length kc] fs ∧ Below w.heap.size w w'
/-- The copy goes into the result. -/
theorem gr_out {w X : World} {pa pn who now a : Int} {ls rs : List Ls} {fs : List Fx} {m mc k kc : Nat} {b : Bool} (hb : Below w.heap.size w X) (hr : VarA (w.heap.size + 1) PoolT #[.int .i64 0, .int .i64 0, .slice none 0 0, .slice none 0 0] X) (ho : layLeaseS.own X w.heap.size [m] [.slice (some ⟨m, 0, none⟩) rs.length mc] rs) (hf : layFixedS.own X w.heap.size [k] [.slice (some ⟨k, 0, none⟩) fs.length kc] fs) (ht : GrTold pa pn ls fs who now rs a b) :
    GrGives pa pn ls fs who now w (.returned (.tuple #[.agg #[.int .i64 pa, .int .i64 pn, .slice (some ⟨m, 0, none⟩) rs.length mc, .slice (some ⟨k, 0, none⟩) fs.length kc], .int .i64 a, .bool b])) ((((X.setCell ⟨w.heap.size + 1, 0, none⟩ (.int .i64 pa)).setCell ⟨w.heap.size + 1, 1, none⟩ (.int .i64 pn)).setCell ⟨w.heap.size + 1, 2, none⟩ (.slice (some ⟨m, 0, none⟩) rs.length mc)).setCell ⟨w.heap.size + 1, 3, none⟩ (.slice (some ⟨k, 0, none⟩) fs.length kc)) := by
  have CS := chg_four X (w.heap.size + 1) (.int .i64 pa) (.int .i64 pn) (.slice (some ⟨m, 0, none⟩) rs.length mc) (.slice (some ⟨k, 0, none⟩) fs.length kc)
  have h1 := row_off flatLease ho hr (by decide)
  have h2 := row_off flatFixed hf hr (by decide)
  exact ⟨m, mc, k, kc, rs, a, b, rfl, ht, layLeaseS.chg ho CS (fun j hj hj2 => by rw [List.mem_singleton] at hj2; subst hj2; exact h1 hj), layFixedS.chg hf CS (fun j hj hj2 => by rw [List.mem_singleton] at hj2; subst hj2; exact h2 hj), hb.trans (CS.below (fun j hj => by rw [List.mem_singleton] at hj; omega) hb.size)⟩

theorem GrGives.drew {pa pn : Int} {ls : List Ls} {fs : List Fx} {who now : Int} {w : World} {e : Ending} {X : World} (h : GrGives pa pn ls fs who now w e X) : GrGives pa pn ls fs who now w e X.drew := by
  obtain ⟨g, gc, k, kc, rs, a, b, h1, h2, h3, h4, h5⟩ := h
  have hb : Below X.heap.size X X.drew := (Below.refl _ X).drew
  exact ⟨g, gc, k, kc, rs, a, b, h1, h2, layLeaseS.next h3 hb, layFixedS.next h4 hb, h5.trans (hb.mono h5.size)⟩

end Go.Proofs.Ytphmomlgmnllkap
namespace Go.Proofs.Ytphmomlgmnllkap
open Go.RowKit

def layIntS : Lay (List Int) := .rows 3 .int
theorem int_own {w : World} {b : Nat} {f : List Nat} {cs : List Value} {x : Int} : Lay.int.own w b f cs x ↔ f = [] ∧ cs = [.int .i64 x] := Iff.rfl
theorem int_rd {w : World} {cs : List Value} {x : Int} : Lay.int.rd w cs x ↔ cs = [.int .i64 x] := Iff.rfl
theorem zeroInt_none (w : World) (b : Nat) (f : List Nat) (c : List Value) (h : Lay.int.own w b f c 0) : f = [] := h.1
theorem infoInt : (Try.prog.info? 3).map (fun i => (i.zero, i.size, i.bytes)) = some (some (.int .i64 0), 1, 8) := by kernel_rfl
/-- One number of a row that can be read. -/
theorem ints_get {w : World} {v : Value} {xs : List Int} (h : layIntS.rd w [v] xs) (m : Nat) (hm : m < xs.length) : ∃ g off cap, v = .slice (some ⟨g, off, none⟩) xs.length cap ∧ g < w.heap.size ∧ w.cell? ⟨g, off + m, none⟩ = some (.int .i64 xs[m]) := by
  obtain ⟨a, cap, rfl⟩ := rows_form h
  obtain ⟨g, off, c, rfl, hg, hr, hc⟩ := rows_elem h m _ (List.getElem?_eq_getElem hm)
  rw [int_rd] at hr
  subst hr
  refine ⟨g, off, cap, rfl, hg, ?_⟩
  have := hc 0 _ rfl
  rw [show Lay.int.k = 1 from rfl, Nat.mul_one] at this
  exact this
/-- One number of a row is read and written. -/
theorem ints_put {w : World} {b : Nat} {fp : List Nat} {v : Value} {xs : List Int} (h : layIntS.own w b fp [v] xs) (hd : fp.Nodup) (m : Nat) (hm : m < xs.length) (y : Int) :
    ∃ g cap, v = .slice (some ⟨g, 0, none⟩) xs.length cap ∧ b ≤ g ∧ g < w.heap.size ∧ g ∈ fp ∧ w.cell? ⟨g, m, none⟩ = some (.int .i64 xs[m]) ∧ w.frozen? ⟨g, m, none⟩ = false ∧
      layIntS.own (w.setCell ⟨g, m, none⟩ (.int .i64 y)) b fp [v] (xs.set m y) ∧ Chg fp w (w.setCell ⟨g, m, none⟩ (.int .i64 y)) := by
  have e : xs = xs.take m ++ xs[m] :: xs.drop (m + 1) := by rw [List.getElem_cons_drop, List.take_append_drop]
  have es : xs.set m y = xs.take m ++ y :: xs.drop (m + 1) := by rw [List.set_eq_take_append_cons_drop, if_pos hm]
  have hl : (xs.take m ++ xs[m] :: xs.drop (m + 1)).length = xs.length := by rw [← e]
  have h2 := h
  rw [e] at h2
  obtain ⟨g, cap, f1, f2, f3, u1, c, u3, hv, rfl, Z⟩ := rows_open h2 hd
  rw [hl] at hv
  obtain ⟨rfl, rfl⟩ := int_own.1 Z.mid
  have hml : (xs.take m).length = m := by rw [List.length_take]; omega
  have hc := Z.cell 0 _ rfl
  rw [show Lay.int.k = 1 from rfl, Nat.mul_one, hml] at hc
  have hs := Z.store [.int .i64 y] 0 (by simp) [] y (int_own.2 ⟨rfl, rfl⟩) Z.dup
  rw [show Lay.int.k = 1 from rfl, Nat.mul_one, hml] at hs
  refine ⟨g, cap, hv, Z.lt.1, Z.lt.2, by simp, hc.1, hc.2, ?_, hs.2.sub (by simp)⟩
  have h3 := hs.1.shut
  have e4 : (xs.take m ++ y :: xs.drop (m + 1)).length = xs.length := by rw [← es, List.length_set]
  rw [e4] at h3
  rw [es, hv]
  exact h3

end Go.Proofs.Ytphmomlgmnllkap
namespace Go.Proofs.Ytphmomlgmnllkap
open Go.RowKit

theorem flatInt : Flat Lay.int := ⟨fun _ _ _ _ h => int_own.2 ⟨rfl, int_rd.1 h⟩, fun _ _ _ _ _ h => (int_own.1 h).1, fun _ _ _ _ h => int_rd.2 (int_rd.1 h)⟩
abbrev IntT : TypeId := 3
/-- Who stays, who goes. -/
def keepL (now : Int) (l : Ls) : Bool := decide (now < l.2.2)
def keptP (now : Int) (ls : List Ls) : List Ls := ls.filter (keepL now)
def goneP (now : Int) (ls : List Ls) : List Int := (ls.filter fun l => !keepL now l).map fun l => l.2.1
theorem kept_take (now : Int) (ls : List Ls) (j : Nat) (h : j < ls.length) : keptP now (ls.take (j + 1)) = keptP now (ls.take j) ++ if keepL now ls[j] then [ls[j]] else [] := filter_take _ ls j h
theorem gone_take (now : Int) (ls : List Ls) (j : Nat) (h : j < ls.length) : goneP now (ls.take (j + 1)) = goneP now (ls.take j) ++ if keepL now ls[j] then [] else [ls[j].2.1] := by
  unfold goneP
  rw [filter_take _ ls j h, List.map_append]
  cases keepL now ls[j] <;> rfl
theorem kept_len (now : Int) (ls : List Ls) : (keptP now ls).length ≤ ls.length := List.length_filter_le _ _
theorem gone_len (now : Int) (ls : List Ls) : (goneP now ls).length ≤ ls.length := by unfold goneP; rw [List.length_map]; exact List.length_filter_le _ _

/-- How Expire ends. -/
def ExpGives (pa pn : Int) (ls : List Ls) (fs : List Fx) (now : Int) (w : World) (e : Ending) (w' : World) : Prop :=
  ∃ (g gc k kc u uc : Nat), e = .returned (.tuple #[.agg #[.int .i64 pa, .int .i64 pn, .slice (some ⟨g, 0, none⟩) (keptP now ls).length gc, .slice (some ⟨k, 0, none⟩) fs.length kc], .slice (some ⟨u, 0, none⟩) (goneP now ls).length uc]) ∧ layLeaseS.own w' w.heap.size [g] [.slice (some ⟨g, 0, none⟩) (keptP now ls).length gc] (keptP now ls) ∧ layFixedS.own w' w.heap.size [k] [.slice (some ⟨k, 0, none⟩) fs.length kc] fs ∧ layIntS.own w' w.heap.size [u] [.slice (some ⟨u, 0, none⟩) (goneP now ls).length uc] (goneP now ls) ∧ Below w.heap.size w w'
/-- The copy goes into the result. -/
theorem exp_out {w X : World} {pa pn now : Int} {ls : List Ls} {fs : List Fx} {m mc k kc u uc : Nat} (hb : Below w.heap.size w X) (hr : VarA (w.heap.size + 1) PoolT #[.int .i64 0, .int .i64 0, .slice none 0 0, .slice none 0 0] X) (ho : layLeaseS.own X w.heap.size [m] [.slice (some ⟨m, 0, none⟩) (keptP now ls).length mc] (keptP now ls)) (hf : layFixedS.own X w.heap.size [k] [.slice (some ⟨k, 0, none⟩) fs.length kc] fs) (hu : layIntS.own X w.heap.size [u] [.slice (some ⟨u, 0, none⟩) (goneP now ls).length uc] (goneP now ls)) :
    ExpGives pa pn ls fs now w (.returned (.tuple #[.agg #[.int .i64 pa, .int .i64 pn, .slice (some ⟨m, 0, none⟩) (keptP now ls).length mc, .slice (some ⟨k, 0, none⟩) fs.length kc], .slice (some ⟨u, 0, none⟩) (goneP now ls).length uc])) ((((X.setCell ⟨w.heap.size + 1, 0, none⟩ (.int .i64 pa)).setCell ⟨w.heap.size + 1, 1, none⟩ (.int .i64 pn)).setCell ⟨w.heap.size + 1, 2, none⟩ (.slice (some ⟨m, 0, none⟩) (keptP now ls).length mc)).setCell ⟨w.heap.size + 1, 3, none⟩ (.slice (some ⟨k, 0, none⟩) fs.length kc)) := by
  have CS := chg_four X (w.heap.size + 1) (.int .i64 pa) (.int .i64 pn) (.slice (some ⟨m, 0, none⟩) (keptP now ls).length mc) (.slice (some ⟨k, 0, none⟩) fs.length kc)
  have h1 := row_off flatLease ho hr (by decide)
  have h2 := row_off flatFixed hf hr (by decide)
  have h3 := row_off flatInt hu hr (by decide)
  exact ⟨m, mc, k, kc, u, uc, rfl, layLeaseS.chg ho CS (fun j hj hj2 => by rw [List.mem_singleton] at hj2; subst hj2; exact h1 hj), layFixedS.chg hf CS (fun j hj hj2 => by rw [List.mem_singleton] at hj2; subst hj2; exact h2 hj), layIntS.chg hu CS (fun j hj hj2 => by rw [List.mem_singleton] at hj2; subst hj2; exact h3 hj), hb.trans (CS.below (fun j hj => by rw [List.mem_singleton] at hj; omega) hb.size)⟩

end Go.Proofs.Ytphmomlgmnllkap
