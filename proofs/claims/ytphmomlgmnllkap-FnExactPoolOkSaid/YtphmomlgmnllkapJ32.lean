/-
  Pools in variables of their own, with rows of their own, in whatever block: for the exact laws.
  The exact law on Release, out of one answer that both give.
  The exact law on Grant, out of one answer that both give.
  The test package's functions over rows of ints: held against each other, marked, found marked.
  A pool and a row of ints in one answer: for the exact law on Expire.
  The exact law on Expire, out of one answer that both give.
-/
import Derived.Test.YtphmomlgmnllkapJ31
import Derived.Test.YtphmomlgmnllkapJ19
import Derived.Test.YtphmomlgmnllkapJ22
import Derived.Test.YtphmomlgmnllkapJ07
import Derived.BigQuiet
import Derived.Deep.QuietTactic
namespace Go.Proofs.Ytphmomlgmnllkap
open Go.RowKit

/-- A pool in its variable, whose rows lie in blocks from lo on, below hi. -/
structure PR (lo hi G : Nat) (pa pn : Int) (lv fv : Value) (rs : List Ls) (fs : List Fx) (f1 f2 : List Nat) (X : World) : Prop where
  var : VarA G PoolT #[.int .i64 pa, .int .i64 pn, lv, fv] X
  lown : layLeaseS.own X lo f1 [lv] rs
  fown : layFixedS.own X lo f2 [fv] fs
  up : ∀ g ∈ f1 ++ f2, g < hi
  dup : (f1 ++ f2).Nodup
section
variable {lo hi G : Nat} {pa pn : Int} {lv fv : Value} {rs rs' : List Ls} {fs fs' : List Fx} {f1 f2 : List Nat} {X Y : World}
theorem PR.pool (h : PR lo hi G pa pn lv fv rs fs f1 f2 X) : PoolR X lv fv rs fs := ⟨layLeaseS.read h.lown, layFixedS.read h.fown⟩
theorem PR.next (h : PR lo hi G pa pn lv fv rs fs f1 f2 X) (hb : Below X.heap.size X Y) : PR lo hi G pa pn lv fv rs fs f1 f2 Y := ⟨h.var.next hb, layLeaseS.next h.lown hb, layFixedS.next h.fown hb, h.up, h.dup⟩
theorem PR.low (h : PR lo hi G pa pn lv fv rs fs f1 f2 X) : ∀ g ∈ f1 ++ f2, lo ≤ g := fun g hg => by
  rcases List.mem_append.1 hg with h1 | h1
  · exact (layLeaseS.blocks h.lown g h1).1
  · exact (layFixedS.blocks h.fown g h1).1
/-- No variable of another type lies among its rows. -/
theorem PR.off (h : PR lo hi G pa pn lv fv rs fs f1 f2 X) {T : TypeId} {G' : Nat} {cs : Array Value} (hv : VarA G' T cs X) (h1 : T ≠ LeT) (h2 : T ≠ FiT) : G' ∉ f1 ++ f2 := fun hm => by
  rcases List.mem_append.1 hm with h3 | h3
  · exact row_off flatLease h.lown hv h1 h3
  · exact row_off flatFixed h.fown hv h2 h3
/-- Other rows are written. -/
theorem PR.apart (h : PR lo hi G pa pn lv fv rs fs f1 f2 X) {fq : List Nat} (hc : Chg fq X Y) (hq : ∀ g ∈ fq, hi ≤ g ∨ g < lo) (hv : G ∉ fq) : PR lo hi G pa pn lv fv rs fs f1 f2 Y := by
  have hl := h.low
  have hu := h.up
  refine ⟨⟨(hc.block G h.var.lt hv).trans h.var.row⟩, layLeaseS.chg h.lown hc (fun g hg hg2 => ?_), layFixedS.chg h.fown hc (fun g hg hg2 => ?_), h.up, h.dup⟩
  · have h1 := hl g (List.mem_append.2 (.inl hg))
    have h2 := hu g (List.mem_append.2 (.inl hg))
    have h3 := hq g hg2
    omega
  · have h1 := hl g (List.mem_append.2 (.inr hg))
    have h2 := hu g (List.mem_append.2 (.inr hg))
    have h3 := hq g hg2
    omega
/-- Its own rows are written. -/
theorem PR.marked (h : PR lo hi G pa pn lv fv rs fs f1 f2 X) (hl : layLeaseS.own Y lo f1 [lv] rs') (hf : layFixedS.own Y lo f2 [fv] fs') (hc : Chg (f1 ++ f2) X Y) : PR lo hi G pa pn lv fv rs' fs' f1 f2 Y :=
  ⟨⟨(hc.block G h.var.lt (h.off h.var (by decide) (by decide))).trans h.var.row⟩, hl, hf, h.up, h.dup⟩
theorem PR.new {w : World} (h : PoolOut w lv fv rs fs X) : ∃ f1 f2, PR w.heap.size X.heap.size X.heap.size pa pn lv fv rs fs f1 f2 (X.alloc (.cells #[.int .i64 pa, .int .i64 pn, lv, fv] PoolT)) := by
  obtain ⟨f1, hl⟩ := h.lo
  obtain ⟨f2, hf⟩ := h.fo
  have hb : Below X.heap.size X (X.alloc (.cells #[.int .i64 pa, .int .i64 pn, lv, fv] PoolT)) := (Below.refl _ _).alloc (Nat.le_refl _) _
  refine ⟨f1, f2, VarA.new X PoolT _, layLeaseS.next hl hb, layFixedS.next hf hb, fun g hg => ?_, ?_⟩
  · rcases List.mem_append.1 hg with h1 | h1
    · exact (layLeaseS.blocks hl g h1).2
    · exact (layFixedS.blocks hf g h1).2
  · have hd := rows_off flatLease flatFixed hl hf (by decide)
    obtain ⟨_, _, _, rfl⟩ := flat_inv flatLease hl
    obtain ⟨_, _, _, rfl⟩ := flat_inv flatFixed hf
    rw [List.nodup_append]
    exact ⟨blk_dup _, blk_dup _, fun a ha b hb e => hd a ha (e ▸ hb)⟩
end
/-- The argument's variable, one answer, a copy of the argument, another answer; in blocks of their own. -/
structure QX (w : World) (lu hu gu lx hx gx lg hg gg : Nat) (pa pn : Int) (va vb vu vv vx vy vg vh : Value) (ls rs : List Ls) (fs : List Fx) (u1 u2 x1 x2 g1 g2 : List Nat) (X : World) : Prop where
  abox : VarA w.heap.size 47 #[.int .i64 pa, .int .i64 pn, va, vb] X
  u : PR lu hu gu pa pn vu vv rs fs u1 u2 X
  x : PR lx hx gx pa pn vx vy ls fs x1 x2 X
  g : PR lg hg gg pa pn vg vh rs fs g1 g2 X
  below : Below w.heap.size w X
  o1 : hu ≤ lx
  o2 : hx ≤ lg
  o3 : hu ≤ lg
  o4 : w.heap.size ≤ lx
  o5 : w.heap.size ≤ lg
section
variable {w : World} {lu hu gu lx hx gx lg hg gg : Nat} {pa pn : Int} {va vb vu vv vx vy vg vh : Value} {ls rs : List Ls} {fs : List Fx} {u1 u2 x1 x2 g1 g2 : List Nat} {X Y : World}
theorem QX.next (h : QX w lu hu gu lx hx gx lg hg gg pa pn va vb vu vv vx vy vg vh ls rs fs u1 u2 x1 x2 g1 g2 X) (hb : Below X.heap.size X Y) : QX w lu hu gu lx hx gx lg hg gg pa pn va vb vu vv vx vy vg vh ls rs fs u1 u2 x1 x2 g1 g2 Y :=
  ⟨h.abox.next hb, h.u.next hb, h.x.next hb, h.g.next hb, h.below.trans (hb.mono h.below.size), h.o1, h.o2, h.o3, h.o4, h.o5⟩
end

/-- The argument's variable, one answer, another that is marked or not. -/
structure QY (w : World) (lu hu gu lg hg gg : Nat) (pa pn : Int) (va vb vu vv vg vh : Value) (rs : List Ls) (fs : List Fx) (gl : List Ls) (gf : List Fx) (u1 u2 g1 g2 : List Nat) (X : World) : Prop where
  abox : VarA w.heap.size 47 #[.int .i64 pa, .int .i64 pn, va, vb] X
  u : PR lu hu gu pa pn vu vv rs fs u1 u2 X
  g : PR lg hg gg pa pn vg vh gl gf g1 g2 X
  below : Below w.heap.size w X
  o3 : hu ≤ lg
  o5 : w.heap.size ≤ lg
section
variable {w : World} {lu hu gu lx hx gx lg hg gg : Nat} {pa pn : Int} {va vb vu vv vx vy vg vh : Value} {ls rs gl gl' : List Ls} {fs gf gf' : List Fx} {u1 u2 x1 x2 g1 g2 : List Nat} {X Y : World}
theorem QY.next (h : QY w lu hu gu lg hg gg pa pn va vb vu vv vg vh rs fs gl gf u1 u2 g1 g2 X) (hb : Below X.heap.size X Y) : QY w lu hu gu lg hg gg pa pn va vb vu vv vg vh rs fs gl gf u1 u2 g1 g2 Y :=
  ⟨h.abox.next hb, h.u.next hb, h.g.next hb, h.below.trans (hb.mono h.below.size), h.o3, h.o5⟩
/-- The copy is marked. -/
theorem QX.markx (h : QX w lu hu gu lx hx gx lg hg gg pa pn va vb vu vv vx vy vg vh ls rs fs u1 u2 x1 x2 g1 g2 X) (hc : Chg (x1 ++ x2) X Y) : QY w lu hu gu lg hg gg pa pn va vb vu vv vg vh rs fs rs fs u1 u2 g1 g2 Y := by
  have hl := h.x.low
  have hu' := h.x.up
  have k1 := h.o1
  have k2 := h.o2
  have k4 := h.o4
  exact ⟨⟨(hc.block _ h.abox.lt (h.x.off h.abox (by decide) (by decide))).trans h.abox.row⟩, h.u.apart hc (fun g hg => .inl (by have := hl g hg; omega)) (h.x.off h.u.var (by decide) (by decide)), h.g.apart hc (fun g hg => .inr (by have := hu' g hg; omega)) (h.x.off h.g.var (by decide) (by decide)), h.below.trans (hc.below (fun g hg => by have := hl g hg; omega) h.below.size), h.o3, h.o5⟩
/-- The answer is marked. -/
theorem QY.markg (h : QY w lu hu gu lg hg gg pa pn va vb vu vv vg vh rs fs gl gf u1 u2 g1 g2 X) (ol : layLeaseS.own Y lg g1 [vg] gl') (of' : layFixedS.own Y lg g2 [vh] gf') (hc : Chg (g1 ++ g2) X Y) : QY w lu hu gu lg hg gg pa pn va vb vu vv vg vh rs fs gl' gf' u1 u2 g1 g2 Y := by
  have hl := h.g.low
  have k3 := h.o3
  have k5 := h.o5
  exact ⟨⟨(hc.block _ h.abox.lt (h.g.off h.abox (by decide) (by decide))).trans h.abox.row⟩, h.u.apart hc (fun g hg => .inl (by have := hl g hg; omega)) (h.g.off h.u.var (by decide) (by decide)), h.g.marked ol of' hc, h.below.trans (hc.below (fun g hg => by have := hl g hg; omega) h.below.size), h.o3, h.o5⟩
end

/-- What toPool gives, with rows of its own. -/
theorem toPool_out (pa pn : Int) (lv fv : Value) (ls : List Ls) (fs : List Fx) (w : World) (h : PoolR w lv fv ls fs) (hl : ls.length ≤ 1048576) (hf : fs.length ≤ 1048576) : Calls Try.prog 24 #[.agg #[.int .i64 pa, .int .i64 pn, lv, fv]] w fun e w' => ∃ (x y : Option Addr) (c d : Nat), e = .returned (.agg #[.int .i64 pa, .int .i64 pn, .slice x ls.length c, .slice y fs.length d]) ∧ PoolOut w (.slice x ls.length c) (.slice y fs.length d) ls fs w' := by
  refine (toPool_any pa pn lv ls fv fs w h.leases hl h.fixes hf).mono ?_
  rintro e w' ⟨cs, fp, rfl, _, hown, hb⟩
  obtain ⟨v2, v3, f2, f3, rfl, _, o2, o3⟩ := layPool_own.1 hown
  obtain ⟨x, c, rfl⟩ := rows_form (layLeaseS.read o2)
  obtain ⟨y, d, rfl⟩ := rows_form (layFixedS.read o3)
  exact ⟨x, y, c, d, rfl, ⟨_, o2⟩, ⟨_, o3⟩, hb⟩
theorem eqPool_pool (pa pn : Int) (lv fv lu fu : Value) (ls : List Ls) (fs : List Fx) (w : World) (h : PoolR w lv fv ls fs) (k : PoolR w lu fu ls fs) (hl : ls.length ≤ 100000000) (hf : fs.length ≤ 100000000) :
    Calls Try.prog 26 #[.agg #[.int .i64 pa, .int .i64 pn, lv, fv], .agg #[.int .i64 pa, .int .i64 pn, lu, fu]] w fun e w' => e = .returned (.bool true) ∧ Below w.heap.size w w' :=
  eqPool_same pa pn lv lu ls fv fu fs w h.leases k.leases hl h.fixes k.fixes hf

end Go.Proofs.Ytphmomlgmnllkap
namespace Go.Proofs.Ytphmomlgmnllkap
open Go.RowKit

end Go.Proofs.Ytphmomlgmnllkap
namespace Go.Proofs.Ytphmomlgmnllkap
open Go.RowKit

end Go.Proofs.Ytphmomlgmnllkap
namespace Go.Proofs.Ytphmomlgmnllkap
open Go.RowKit

/-- The numbers from k on. -/
def upI (k : Int) (n : Nat) : List Int := (List.range n).map fun (j : Nat) => k + (j : Int)
theorem upI_length (k : Int) (n : Nat) : (upI k n).length = n := by simp [upI]
theorem upI_get (k : Int) (n j : Nat) (h : j < (upI k n).length) : (upI k n)[j] = k + (j : Int) := by simp [upI]
/-- The first j of a list are marked. -/
def partI (k : Int) (xs : List Int) (j : Nat) : List Int := upI k j ++ xs.drop j
theorem partI_length (k : Int) (xs : List Int) (j : Nat) (h : j ≤ xs.length) : (partI k xs j).length = xs.length := by
  unfold partI
  rw [List.length_append, upI_length, List.length_drop]
  omega
theorem partI_next (k : Int) (xs : List Int) (j : Nat) (h : j < xs.length) : (partI k xs j).set j (k + (j : Int)) = partI k xs (j + 1) := by
  unfold partI
  have e : upI k (j + 1) = upI k j ++ [k + (j : Int)] := by simp [upI, List.range_succ]
  have hl : (upI k j).length = j := upI_length k j
  rw [e, List.set_append_right _ _ (by omega), hl, Nat.sub_self, List.append_assoc]
  congr 1
  rw [← List.getElem_cons_drop h]
  rfl

end Go.Proofs.Ytphmomlgmnllkap
namespace Go.Proofs.Ytphmomlgmnllkap
open Go.RowKit

abbrev InT : TypeId := 3
/-- A row of ints of one's own, in blocks from lo on, below hi. -/
structure IR (lo hi : Nat) (v : Value) (xs : List Int) (f : List Nat) (X : World) : Prop where
  own : layIntS.own X lo f [v] xs
  up : ∀ g ∈ f, g < hi
  dup : f.Nodup
section
variable {lo hi : Nat} {v : Value} {xs ys : List Int} {f : List Nat} {X Y : World}
theorem IR.next (h : IR lo hi v xs f X) (hb : Below X.heap.size X Y) : IR lo hi v xs f Y := ⟨layIntS.next h.own hb, h.up, h.dup⟩
theorem IR.low (h : IR lo hi v xs f X) : ∀ g ∈ f, lo ≤ g := fun g hg => (layIntS.blocks h.own g hg).1
theorem IR.off (h : IR lo hi v xs f X) {T : TypeId} {G : Nat} {cs : Array Value} (hv : VarA G T cs X) (h1 : T ≠ InT) : G ∉ f := row_off flatInt h.own hv h1
theorem IR.apart (h : IR lo hi v xs f X) {fq : List Nat} (hc : Chg fq X Y) (hq : ∀ g ∈ f, g ∉ fq) : IR lo hi v xs f Y := ⟨layIntS.chg h.own hc hq, h.up, h.dup⟩
theorem IR.new {w : World} (h : layIntS.own X w.heap.size f [v] xs) (hb : Below X.heap.size X Y) : IR w.heap.size X.heap.size v xs f Y := by
  refine ⟨layIntS.next h hb, fun g hg => (layIntS.blocks h g hg).2, ?_⟩
  obtain ⟨_, _, _, rfl⟩ := flat_inv flatInt h
  exact blk_dup _
end
theorem PR.apartT {lo hi G : Nat} {pa pn : Int} {lv fv : Value} {rs : List Ls} {fs : List Fx} {f1 f2 : List Nat} {X Y : World} (h : PR lo hi G pa pn lv fv rs fs f1 f2 X) {fq : List Nat} (hc : Chg fq X Y) (h1 : ∀ g ∈ f1, g ∉ fq) (h2 : ∀ g ∈ f2, g ∉ fq) (hv : G ∉ fq) : PR lo hi G pa pn lv fv rs fs f1 f2 Y :=
  ⟨⟨(hc.block G h.var.lt hv).trans h.var.row⟩, layLeaseS.chg h.lown hc h1, layFixedS.chg h.fown hc h2, h.up, h.dup⟩
/-- What the law holds: as QX, and the ints of both answers. -/
structure QXI (w : World) (lu hu gu lx hx gx lg hg gg : Nat) (pa pn : Int) (va vb vu vv vx vy vg vh vi vj : Value) (ls rs : List Ls) (fs : List Fx) (gs : List Int) (u1 u2 x1 x2 g1 g2 ui gi : List Nat) (X : World) : Prop where
  q : QX w lu hu gu lx hx gx lg hg gg pa pn va vb vu vv vx vy vg vh ls rs fs u1 u2 x1 x2 g1 g2 X
  i : IR lu hu vi gs ui X
  j : IR lg hg vj gs gi X
structure QYI (w : World) (lu hu gu lg hg gg : Nat) (pa pn : Int) (va vb vu vv vg vh vi vj : Value) (rs : List Ls) (fs : List Fx) (gl : List Ls) (gf : List Fx) (gs js : List Int) (u1 u2 g1 g2 ui gi : List Nat) (X : World) : Prop where
  q : QY w lu hu gu lg hg gg pa pn va vb vu vv vg vh rs fs gl gf u1 u2 g1 g2 X
  i : IR lu hu vi gs ui X
  j : IR lg hg vj js gi X
section
variable {w : World} {lu hu gu lx hx gx lg hg gg : Nat} {pa pn : Int} {va vb vu vv vx vy vg vh vi vj : Value} {ls rs gl gl' : List Ls} {fs gf gf' : List Fx} {gs js js' : List Int} {u1 u2 x1 x2 g1 g2 ui gi : List Nat} {X Y : World}
theorem QXI.next (h : QXI w lu hu gu lx hx gx lg hg gg pa pn va vb vu vv vx vy vg vh vi vj ls rs fs gs u1 u2 x1 x2 g1 g2 ui gi X) (hb : Below X.heap.size X Y) : QXI w lu hu gu lx hx gx lg hg gg pa pn va vb vu vv vx vy vg vh vi vj ls rs fs gs u1 u2 x1 x2 g1 g2 ui gi Y := ⟨h.q.next hb, h.i.next hb, h.j.next hb⟩
theorem QYI.next (h : QYI w lu hu gu lg hg gg pa pn va vb vu vv vg vh vi vj rs fs gl gf gs js u1 u2 g1 g2 ui gi X) (hb : Below X.heap.size X Y) : QYI w lu hu gu lg hg gg pa pn va vb vu vv vg vh vi vj rs fs gl gf gs js u1 u2 g1 g2 ui gi Y := ⟨h.q.next hb, h.i.next hb, h.j.next hb⟩
theorem QXI.markx (h : QXI w lu hu gu lx hx gx lg hg gg pa pn va vb vu vv vx vy vg vh vi vj ls rs fs gs u1 u2 x1 x2 g1 g2 ui gi X) (hc : Chg (x1 ++ x2) X Y) : QYI w lu hu gu lg hg gg pa pn va vb vu vv vg vh vi vj rs fs rs fs gs gs u1 u2 g1 g2 ui gi Y := by
  have hl := h.q.x.low
  have hu' := h.q.x.up
  have k1 := h.q.o1
  have k2 := h.q.o2
  exact ⟨h.q.markx hc, h.i.apart hc (fun g hg hg2 => by have := h.i.up g hg; have := hl g hg2; omega), h.j.apart hc (fun g hg hg2 => by have := h.j.low g hg; have := hu' g hg2; omega)⟩
theorem QYI.markg (h : QYI w lu hu gu lg hg gg pa pn va vb vu vv vg vh vi vj rs fs gl gf gs js u1 u2 g1 g2 ui gi X) (ol : layLeaseS.own Y lg g1 [vg] gl') (of' : layFixedS.own Y lg g2 [vh] gf') (hc : Chg (g1 ++ g2) X Y) : QYI w lu hu gu lg hg gg pa pn va vb vu vv vg vh vi vj rs fs gl' gf' gs js u1 u2 g1 g2 ui gi Y := by
  have hl := h.q.g.low
  have k3 := h.q.o3
  refine ⟨h.q.markg ol of' hc, h.i.apart hc (fun g hg hg2 => by have := h.i.up g hg; have := hl g hg2; omega), h.j.apart hc (fun g hg hg2 => ?_)⟩
  rcases List.mem_append.1 hg2 with h1 | h1
  · exact rows_off flatInt flatLease h.j.own h.q.g.lown (by decide) g hg h1
  · exact rows_off flatInt flatFixed h.j.own h.q.g.fown (by decide) g hg h1
theorem QYI.marki (h : QYI w lu hu gu lg hg gg pa pn va vb vu vv vg vh vi vj rs fs gl gf gs js u1 u2 g1 g2 ui gi X) (oi : layIntS.own Y lg gi [vj] js') (hc : Chg gi X Y) : QYI w lu hu gu lg hg gg pa pn va vb vu vv vg vh vi vj rs fs gl gf gs js' u1 u2 g1 g2 ui gi Y := by
  have hl := h.j.low
  have k3 := h.q.o3
  have k5 := h.q.o5
  exact ⟨⟨⟨(hc.block _ h.q.abox.lt (h.j.off h.q.abox (by decide))).trans h.q.abox.row⟩, h.q.u.apart hc (fun g hg => .inl (by have := hl g hg; omega)) (h.j.off h.q.u.var (by decide)), h.q.g.apartT hc (fun g hg hg2 => rows_off flatInt flatLease h.j.own h.q.g.lown (by decide) g hg2 hg) (fun g hg hg2 => rows_off flatInt flatFixed h.j.own h.q.g.fown (by decide) g hg2 hg) (h.j.off h.q.g.var (by decide)), h.q.below.trans (hc.below (fun g hg => by have := hl g hg; omega) h.q.below.size), h.q.o3, h.q.o5⟩, h.i.apart hc (fun g hg hg2 => by have := h.i.up g hg; have := hl g hg2; omega), ⟨oi, h.j.up, h.j.dup⟩⟩
end

end Go.Proofs.Ytphmomlgmnllkap
namespace Go.Proofs.Ytphmomlgmnllkap
open Go.RowKit

end Go.Proofs.Ytphmomlgmnllkap
