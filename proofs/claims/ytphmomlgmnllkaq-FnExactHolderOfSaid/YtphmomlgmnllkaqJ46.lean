/-
  The test package's functions over rows of ints: held against each other, marked, found marked.
  A pool and a row of ints in one answer: for the exact law on Expire.
  The exact law on Expire, out of one answer that both give.
  What the laws on leases ask, in plain words; no program is spoken of here.
-/
import Derived.Test.YtphmomlgmnllkaqJ31
import Derived.Test.YtphmomlgmnllkaqJ07
import Derived.BigQuiet
import Derived.Deep.QuietTactic
import Derived.Test.YtphmomlgmnllkaqJ43
import Derived.Test.YtphmomlgmnllkaqJ32
namespace Go.Proofs.Ytphmomlgmnllkaq
open Go.RowKit

/-- The numbers from k on. -/
def upI (k : Int) (n : Nat) : List Int := (List.range n).map fun (j : Nat) => k + (j : Int)
theorem upI_length (k : Int) (n : Nat) : (upI k n).length = n := by simp [upI]
theorem upI_get (k : Int) (n j : Nat) (h : j < (upI k n).length) : (upI k n)[j] = k + (j : Int) := by simp [upI]
/-- The first j of a list are marked. -/
def partI (k : Int) (xs : List Int) (j : Nat) : List Int := upI k j ++ xs.drop j
theorem partI_length (k : Int) (xs : List Int) (j : Nat) (h : j ≤ xs.length) : (partI k xs j).length = xs.length := by
  unfold partI
  rw [List.length_append, upI_length, List.length_drop]
  omega
theorem partI_next (k : Int) (xs : List Int) (j : Nat) (h : j < xs.length) : (partI k xs j).set j (k + (j : Int)) = partI k xs (j + 1) := by
  unfold partI
  have e : upI k (j + 1) = upI k j ++ [k + (j : Int)] := by simp [upI, List.range_succ]
  have hl : (upI k j).length = j := upI_length k j
  rw [e, List.set_append_right _ _ (by omega), hl, Nat.sub_self, List.append_assoc]
  congr 1
  rw [← List.getElem_cons_drop h]
  rfl

end Go.Proofs.Ytphmomlgmnllkaq
namespace Go.Proofs.Ytphmomlgmnllkaq
open Go.RowKit

abbrev InT : TypeId := 3
/-- A row of ints of one's own, in blocks from lo on, below hi. -/
structure IR (lo hi : Nat) (v : Value) (xs : List Int) (f : List Nat) (X : World) : Prop where
  own : layIntS.own X lo f [v] xs
  up : ∀ g ∈ f, g < hi
  dup : f.Nodup
section
variable {lo hi : Nat} {v : Value} {xs ys : List Int} {f : List Nat} {X Y : World}
theorem IR.next (h : IR lo hi v xs f X) (hb : Below X.heap.size X Y) : IR lo hi v xs f Y := ⟨layIntS.next h.own hb, h.up, h.dup⟩
theorem IR.low (h : IR lo hi v xs f X) : ∀ g ∈ f, lo ≤ g := fun g hg => (layIntS.blocks h.own g hg).1
theorem IR.off (h : IR lo hi v xs f X) {T : TypeId} {G : Nat} {cs : Array Value} (hv : VarA G T cs X) (h1 : T ≠ InT) : G ∉ f := row_off flatInt h.own hv h1
theorem IR.apart (h : IR lo hi v xs f X) {fq : List Nat} (hc : Chg fq X Y) (hq : ∀ g ∈ f, g ∉ fq) : IR lo hi v xs f Y := ⟨layIntS.chg h.own hc hq, h.up, h.dup⟩
theorem IR.new {w : World} (h : layIntS.own X w.heap.size f [v] xs) (hb : Below X.heap.size X Y) : IR w.heap.size X.heap.size v xs f Y := by
  refine ⟨layIntS.next h hb, fun g hg => (layIntS.blocks h g hg).2, ?_⟩
  obtain ⟨_, _, _, rfl⟩ := flat_inv flatInt h
  exact blk_dup _
end
theorem PR.apartT {lo hi G : Nat} {pa pn : Int} {lv fv : Value} {rs : List Ls} {fs : List Fx} {f1 f2 : List Nat} {X Y : World} (h : PR lo hi G pa pn lv fv rs fs f1 f2 X) {fq : List Nat} (hc : Chg fq X Y) (h1 : ∀ g ∈ f1, g ∉ fq) (h2 : ∀ g ∈ f2, g ∉ fq) (hv : G ∉ fq) : PR lo hi G pa pn lv fv rs fs f1 f2 Y :=
  ⟨⟨(hc.block G h.var.lt hv).trans h.var.row⟩, layLeaseS.chg h.lown hc h1, layFixedS.chg h.fown hc h2, h.up, h.dup⟩
/-- What the law holds: as QX, and the ints of both answers. -/
structure QXI (w : World) (lu hu gu lx hx gx lg hg gg : Nat) (pa pn : Int) (va vb vu vv vx vy vg vh vi vj : Value) (ls rs : List Ls) (fs : List Fx) (gs : List Int) (u1 u2 x1 x2 g1 g2 ui gi : List Nat) (X : World) : Prop where
  q : QX w lu hu gu lx hx gx lg hg gg pa pn va vb vu vv vx vy vg vh ls rs fs u1 u2 x1 x2 g1 g2 X
  i : IR lu hu vi gs ui X
  j : IR lg hg vj gs gi X
structure QYI (w : World) (lu hu gu lg hg gg : Nat) (pa pn : Int) (va vb vu vv vg vh vi vj : Value) (rs : List Ls) (fs : List Fx) (gl : List Ls) (gf : List Fx) (gs js : List Int) (u1 u2 g1 g2 ui gi : List Nat) (X : World) : Prop where
  q : QY w lu hu gu lg hg gg pa pn va vb vu vv vg vh rs fs gl gf u1 u2 g1 g2 X
  i : IR lu hu vi gs ui X
  j : IR lg hg vj js gi X
section
variable {w : World} {lu hu gu lx hx gx lg hg gg : Nat} {pa pn : Int} {va vb vu vv vx vy vg vh vi vj : Value} {ls rs gl gl' : List Ls} {fs gf gf' : List Fx} {gs js js' : List Int} {u1 u2 x1 x2 g1 g2 ui gi : List Nat} {X Y : World}
theorem QXI.next (h : QXI w lu hu gu lx hx gx lg hg gg pa pn va vb vu vv vx vy vg vh vi vj ls rs fs gs u1 u2 x1 x2 g1 g2 ui gi X) (hb : Below X.heap.size X Y) : QXI w lu hu gu lx hx gx lg hg gg pa pn va vb vu vv vx vy vg vh vi vj ls rs fs gs u1 u2 x1 x2 g1 g2 ui gi Y := ⟨h.q.next hb, h.i.next hb, h.j.next hb⟩
theorem QYI.next (h : QYI w lu hu gu lg hg gg pa pn va vb vu vv vg vh vi vj rs fs gl gf gs js u1 u2 g1 g2 ui gi X) (hb : Below X.heap.size X Y) : QYI w lu hu gu lg hg gg pa pn va vb vu vv vg vh vi vj rs fs gl gf gs js u1 u2 g1 g2 ui gi Y := ⟨h.q.next hb, h.i.next hb, h.j.next hb⟩
theorem QXI.markx (h : QXI w lu hu gu lx hx gx lg hg gg pa pn va vb vu vv vx vy vg vh vi vj ls rs fs gs u1 u2 x1 x2 g1 g2 ui gi X) (hc : Chg (x1 ++ x2) X Y) : QYI w lu hu gu lg hg gg pa pn va vb vu vv vg vh vi vj rs fs rs fs gs gs u1 u2 g1 g2 ui gi Y := by
  have hl := h.q.x.low
  have hu' := h.q.x.up
  have k1 := h.q.o1
  have k2 := h.q.o2
  exact ⟨h.q.markx hc, h.i.apart hc (fun g hg hg2 => by have := h.i.up g hg; have := hl g hg2; omega), h.j.apart hc (fun g hg hg2 => by have := h.j.low g hg; have := hu' g hg2; omega)⟩
theorem QYI.markg (h : QYI w lu hu gu lg hg gg pa pn va vb vu vv vg vh vi vj rs fs gl gf gs js u1 u2 g1 g2 ui gi X) (ol : layLeaseS.own Y lg g1 [vg] gl') (of' : layFixedS.own Y lg g2 [vh] gf') (hc : Chg (g1 ++ g2) X Y) : QYI w lu hu gu lg hg gg pa pn va vb vu vv vg vh vi vj rs fs gl' gf' gs js u1 u2 g1 g2 ui gi Y := by
  have hl := h.q.g.low
  have k3 := h.q.o3
  refine ⟨h.q.markg ol of' hc, h.i.apart hc (fun g hg hg2 => by have := h.i.up g hg; have := hl g hg2; omega), h.j.apart hc (fun g hg hg2 => ?_)⟩
  rcases List.mem_append.1 hg2 with h1 | h1
  · exact rows_off flatInt flatLease h.j.own h.q.g.lown (by decide) g hg h1
  · exact rows_off flatInt flatFixed h.j.own h.q.g.fown (by decide) g hg h1
theorem QYI.marki (h : QYI w lu hu gu lg hg gg pa pn va vb vu vv vg vh vi vj rs fs gl gf gs js u1 u2 g1 g2 ui gi X) (oi : layIntS.own Y lg gi [vj] js') (hc : Chg gi X Y) : QYI w lu hu gu lg hg gg pa pn va vb vu vv vg vh vi vj rs fs gl gf gs js' u1 u2 g1 g2 ui gi Y := by
  have hl := h.j.low
  have k3 := h.q.o3
  have k5 := h.q.o5
  exact ⟨⟨⟨(hc.block _ h.q.abox.lt (h.j.off h.q.abox (by decide))).trans h.q.abox.row⟩, h.q.u.apart hc (fun g hg => .inl (by have := hl g hg; omega)) (h.j.off h.q.u.var (by decide)), h.q.g.apartT hc (fun g hg hg2 => rows_off flatInt flatLease h.j.own h.q.g.lown (by decide) g hg2 hg) (fun g hg hg2 => rows_off flatInt flatFixed h.j.own h.q.g.fown (by decide) g hg2 hg) (h.j.off h.q.g.var (by decide)), h.q.below.trans (hc.below (fun g hg => by have := hl g hg; omega) h.q.below.size), h.q.o3, h.q.o5⟩, h.i.apart hc (fun g hg hg2 => by have := h.i.up g hg; have := hl g hg2; omega), ⟨oi, h.j.up, h.j.dup⟩⟩
end

end Go.Proofs.Ytphmomlgmnllkaq
namespace Go.Proofs.Ytphmomlgmnllkaq
open Go.RowKit

end Go.Proofs.Ytphmomlgmnllkaq
namespace Go.Proofs.Ytphmomlgmnllkaq

/-- There is one answer. -/
theorem GrTold.one {pa pn : Int} {ls rs qs : List Ls} {fs : List Fx} {who now a c : Int} {b d : Bool} (h : GrTold pa pn ls fs who now rs a b) (k : GrTold pa pn ls fs who now qs c d) : rs = qs ∧ a = c ∧ b = d := by
  have clash : ∀ {n : Nat} {l : Ls}, ls[n]? = some l → l.2.1 = who → NoOne ls who → False := fun hn e hw => hw _ _ hn e
  rcases h with ⟨rfl, rfl, rfl, h4⟩ | ⟨rfl, hg, n, l, hn, e, hf, rfl, rfl⟩ | ⟨rfl, hg, hw, h6, hz, rfl, rfl⟩
  · rcases k with ⟨rfl, rfl, rfl, _⟩ | ⟨rfl, kg, m, x, hm, ex, _⟩ | ⟨rfl, kg, kw, k6, kz, _⟩
    · exact ⟨rfl, rfl, rfl⟩
    · rcases h4 with h4 | h4
      · exact absurd kg h4
      · exact (clash hm ex h4.1).elim
    · rcases h4 with h4 | ⟨_, h4 | h4⟩
      · exact absurd kg h4
      · exact absurd h4 k6
      · exact absurd h4 kz
  · rcases k with ⟨rfl, rfl, rfl, k4⟩ | ⟨rfl, kg, m, x, hm, ex, kf, rfl, rfl⟩ | ⟨rfl, kg, kw, _⟩
    · rcases k4 with k4 | k4
      · exact absurd hg k4
      · exact (clash hn e k4.1).elim
    · have : n = m := by
        rcases Nat.lt_trichotomy n m with h1 | h1 | h1
        · exact absurd e (kf n h1 l hn)
        · exact h1
        · exact absurd ex (hf m h1 x hm)
      subst this
      rw [hn] at hm
      cases hm
      exact ⟨rfl, rfl, rfl⟩
    · exact (clash hn e kw).elim
  · rcases k with ⟨rfl, rfl, rfl, k4⟩ | ⟨rfl, kg, m, x, hm, ex, _⟩ | ⟨rfl, _, _, _, _, rfl, rfl⟩
    · rcases k4 with k4 | ⟨_, k4 | k4⟩
      · exact absurd hg k4
      · exact absurd k4 h6
      · exact absurd k4 hz
    · exact (clash hm ex hw).elim
    · exact ⟨rfl, rfl, rfl⟩
theorem RelTold.one {pa pn : Int} {ls rs qs : List Ls} {fs : List Fx} {who : Int} {b d : Bool} (h : RelTold pa pn ls fs who rs b) (k : RelTold pa pn ls fs who qs d) : rs = qs ∧ b = d := by
  rcases h with ⟨rfl, h1, rfl⟩ | ⟨rfl, rfl, h1⟩ <;> rcases k with ⟨rfl, k1, rfl⟩ | ⟨rfl, rfl, k1⟩
  · exact ⟨rfl, rfl⟩
  · exact absurd h1 k1
  · exact absurd k1 h1
  · exact ⟨rfl, rfl⟩

/-- Not granted: nothing is changed. -/
theorem GrTold.same {pa pn : Int} {ls rs : List Ls} {fs : List Fx} {who now a : Int} (h : GrTold pa pn ls fs who now rs a false) : rs = ls := by
  rcases h with ⟨_, _, rfl, _⟩ | ⟨h, _⟩ | ⟨h, _⟩
  · rfl
  · cases h
  · cases h
/-- Granted: who asks has the address. -/
theorem GrTold.has {pa pn : Int} {ls rs : List Ls} {fs : List Fx} {who now a : Int} (h : GrTold pa pn ls fs who now rs a true) (hp : PoolOkP pa pn ls fs) : ∃ l ∈ rs, l.1 = a ∧ l.2.1 = who ∧ l.2.2 = now + 20 := by
  rcases h with ⟨h, _⟩ | ⟨_, hg, n, l, hn, e, hf, rfl, rfl⟩ | ⟨_, hg, hw, h6, hz, rfl, rfl⟩
  · cases h
  · exact ⟨(l.1, l.2.1, now + 20), List.mem_iff_getElem?.2 ⟨n, by rw [List.getElem?_set_self (List.getElem?_eq_some_iff.1 hn).1]⟩, rfl, e, rfl⟩
  · exact ⟨(freeP pa pn ls fs who, who, now + 20), (mem_with (free_right hp hw hz).2.2 _).2 (.inl rfl), rfl, rfl, rfl⟩
/-- All others keep theirs. -/
theorem GrTold.others {pa pn : Int} {ls rs : List Ls} {fs : List Fx} {who now a : Int} {b : Bool} (h : GrTold pa pn ls fs who now rs a b) (hp : PoolOkP pa pn ls fs) (l : Ls) (hl : l ∈ ls) (hw : l.2.1 ≠ who) : holderP rs l.1 = l.2.1 := by
  refine holder_mem (h.right hp).leases l ?_
  rcases h with ⟨_, _, rfl, _⟩ | ⟨_, hg, n, x, hn, e, hf, rfl, rfl⟩ | ⟨_, hg, hw2, h6, hz, rfl, rfl⟩
  · exact hl
  · rw [renew_eq hp.leases n x _ hn]
    exact List.mem_map.2 ⟨l, hl, by rw [renewL, if_neg (by rw [e]; exact hw)]⟩
  · exact (mem_with (free_right hp hw2 hz).2.2 l).2 (.inr hl)
/-- The address is within. -/
theorem GrTold.inside {pa pn : Int} {ls rs : List Ls} {fs : List Fx} {who now a : Int} (h : GrTold pa pn ls fs who now rs a true) (hp : PoolOkP pa pn ls fs) : insideP pa pn a = true := by
  obtain ⟨l, hl, rfl, _⟩ := h.has hp
  exact ((h.right hp).leases.1 l hl).1
/-- Asked again: the same. -/
theorem GrTold.again {pa pn : Int} {ls rs : List Ls} {fs : List Fx} {who now c : Int} {b : Bool} (h : GrTold pa pn ls fs who now rs c b) (hp : PoolOkP pa pn ls fs) (hg : (1 ≤ who ∧ who ≤ 99) ∧ (0 ≤ now ∧ now ≤ 999999980)) (l : Ls) (hl : l ∈ ls) (e : l.2.1 = who) : b = true ∧ c = l.1 := by
  have hno : ¬ NoOne ls who := fun hw => by
    obtain ⟨j, hj⟩ := List.mem_iff_getElem?.1 hl
    exact hw j l hj e
  rcases h with ⟨_, _, rfl, h4⟩ | ⟨rfl, _, n, x, hn, ex, hf, rfl, rfl⟩ | ⟨_, _, hw2, _⟩
  · rcases h4 with h4 | h4
    · exact absurd ⟨hp, hg.1, hg.2⟩ h4
    · exact absurd h4.1 hno
  · exact ⟨rfl, by rw [one_who hp.leases x l (List.mem_of_getElem? hn) hl (ex.trans e.symm)]⟩
  · exact absurd hw2 hno
/-- Released: it is free. -/
theorem RelTold.free {pa pn : Int} {ls rs : List Ls} {fs : List Fx} {who : Int} {b : Bool} (h : RelTold pa pn ls fs who rs b) (hp : PoolOkP pa pn ls fs) (l : Ls) (hl : l ∈ ls) (e : l.2.1 = who) : b = true ∧ holderP rs l.1 = 0 := by
  have hlt : (ls.filter fun l => l.2.1 != who).length ≠ ls.length := fun h1 => by
    have h2 := List.length_filter_eq_length_iff.1 h1 l hl
    rw [bne_iff_ne] at h2
    exact h2 e
  rcases h with ⟨rfl, _, rfl⟩ | ⟨_, _, h3⟩
  · refine ⟨rfl, holder_not fun x hx ex => ?_⟩
    obtain ⟨h4, h5⟩ := List.mem_filter.1 hx
    have := one_addr hp.leases x l h4 hl ex
    subst this
    rw [bne_iff_ne] at h5
    exact h5 e
  · exact absurd ⟨hp, hlt⟩ h3

end Go.Proofs.Ytphmomlgmnllkaq
