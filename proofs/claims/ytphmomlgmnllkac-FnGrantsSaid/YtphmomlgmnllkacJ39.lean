/-
  The program's Expire, of leases that ascend.
  The program's pools.
  What the laws on leases ask, in plain words; no program is spoken of here.
  Pools as they are drawn are right; no program is spoken of here.
-/
import Derived.Test.YtphmomlgmnllkacJ37
import Derived.Test.YtphmomlgmnllkacJ38
import Derived.Test.YtphmomlgmnllkacJ30
namespace Go.Proofs.Ytphmomlgmnllkac
open Go.RowKit

/-- What Expire leaves. -/
def ExpEnd (pa pn : Int) (ls : List Ls) (fs : List Fx) (now : Int) (w : World) (e : Ending) (w' : World) : Prop := ∃ (lu fu gv : Value), e = .returned (.tuple #[.agg #[.int .i64 pa, .int .i64 pn, lu, fu], gv]) ∧ (∃ f, layIntS.own w' w.heap.size f [gv] (goneP now ls)) ∧ PoolOut w lu fu (keptP now ls) fs w'

section
variable {α β : Type} {A : Lay α} {B : Lay β}
theorem row_typed (hf : Flat A) {e : TypeId} {X : World} {b : Nat} {f : List Nat} {v : Value} {xs : List α} (h : (Lay.rows e A).own X b f [v] xs) {g : Nat} (hg : g ∈ f) : ∃ cs, X.heap[g]? = some (.cells cs e (0, 0)) := by
  obtain ⟨us, ho, _, rfl⟩ := flat_inv hf h
  rcases ho.2 with ⟨rfl, _⟩ | ⟨g', cap, cur, rfl, _, hb, _⟩
  · simp [blk, Value.ownBlock] at hg
  · have : g = g' := by simpa [blk, Value.ownBlock] using hg
    subst this
    exact ⟨cur, hb⟩
theorem row_hchg (hf : Flat A) {e : TypeId} {X Y : World} {base b c : Nat} {f : List Nat} {v x : Value} {xs : List α} (h : (Lay.rows e A).own X c f [v] xs) (hv : VarA b HpT #[x] X) (hc : HChg base b X Y) (h1 : HpT ≠ e) (h2 : e ≠ HoT) : (Lay.rows e A).own Y c f [v] xs := by
  have h3 := row_off hf h hv h1
  refine (Lay.rows e A).keep h fun g hg => ?_
  refine hc.block g ((Lay.rows e A).blocks h g hg).2 (fun e => h3 (by rw [← e]; exact hg)) (.inr fun cs fr e' => ?_)
  obtain ⟨cs', h4⟩ := row_typed hf h hg
  rw [h4] at e'
  injection e' with e'
  injection e' with _ e'
  exact h2 e'
theorem row_grown (hf : Flat A) (hg : Flat B) {e e' : TypeId} {X Y : World} {b c : Nat} {f k : List Nat} {v u : Value} {xs : List α} {ys : List β} (h : (Lay.rows e A).own X b f [v] xs) (h' : (Lay.rows e' B).own X c k [u] ys) (he : e ≠ e') (hgr : X.grownBy Y u.ownBlock) : (Lay.rows e A).own Y b f [v] xs := by
  have h1 := rows_off hf hg h h' he
  obtain ⟨us, ho, _, rfl⟩ := flat_inv hg h'
  refine (Lay.rows e A).keep h fun g hg2 => hgr.block g ((Lay.rows e A).blocks h g hg2).2 fun e2 => h1 g hg2 ?_
  unfold blk
  rw [← e2]
  simp
end

/-- While leases are looked at: those that stay, those that are over. -/
structure ExI (w : World) (pa pn : Int) (lv fv : Value) (b : Nat) (lf : Value) (ks : List Ls) (nd : Nat → Hd) (v : Value) (ps : List Nat) (X : World) : Prop where
  box : VarA w.heap.size PoolT #[.int .i64 pa, .int .i64 pn, lv, fv] X
  res : VarA (w.heap.size + 1) PoolT #[.int .i64 0, .int .i64 0, .slice none 0 0, .slice none 0 0] X
  below : Below w.heap.size w X
  own : ∃ f, layLeaseS.own X (w.heap.size + 2) f [lf] ks
  heap : HeapP X (w.heap.size + 2) b nd v ps
theorem ExI.next {w : World} {pa pn : Int} {lv fv : Value} {b : Nat} {lf : Value} {ks : List Ls} {nd : Nat → Hd} {v : Value} {ps : List Nat} {X Y : World} (h : ExI w pa pn lv fv b lf ks nd v ps X) (hb : Below X.heap.size X Y) : ExI w pa pn lv fv b lf ks nd v ps Y :=
  ⟨h.box.next hb, h.res.next hb, h.below.trans (hb.mono h.below.size), h.own.imp fun _ hf => layLeaseS.next hf hb, h.heap.next hb⟩
/-- One more that stays. -/
theorem ExI.stay {w : World} {pa pn : Int} {lv fv : Value} {b : Nat} {lf lf' : Value} {ks ks' : List Ls} {nd : Nat → Hd} {v : Value} {ps : List Nat} {X Y : World} (h : ExI w pa pn lv fv b lf ks nd v ps X) (hg : X.grownBy Y lf.ownBlock) (hb : Below (w.heap.size + 2) X Y) (ho : ∃ f, layLeaseS.own Y (w.heap.size + 2) f [lf'] ks') : ExI w pa pn lv fv b lf' ks' nd v ps Y := by
  obtain ⟨f, hf⟩ := h.own
  exact ⟨h.box.next' hb (by omega), h.res.next' hb (by omega), h.below.trans (hb.mono (by omega)), ho, ⟨h.heap.hw.grownL hf hg, h.heap.heap, h.heap.one⟩⟩
/-- One more that is over. -/
theorem ExI.over {w : World} {pa pn : Int} {lv fv : Value} {b : Nat} {lf : Value} {ks : List Ls} {nd nd' : Nat → Hd} {v v' : Value} {ps qs : List Nat} {X Y : World} (h : ExI w pa pn lv fv b lf ks nd v ps X) (hc : HChg (w.heap.size + 2) b X Y) (hp : HeapP Y (w.heap.size + 2) b nd' v' qs) (hs : w.heap.size + 2 ≤ X.heap.size) : ExI w pa pn lv fv b lf ks nd' v' qs Y := by
  have hb := hc.below h.heap.hw.vb hs
  exact ⟨h.box.next' hb (by omega), h.res.next' hb (by omega), h.below.trans (hb.mono (by omega)), h.own.imp fun _ hf => row_hchg flatLease hf h.heap.hw.var hc (by decide) (by decide), hp⟩

/-- While those that are over are told. -/
structure ExJ (w : World) (pa pn : Int) (lv fv lf tv : Value) (ks T : List Ls) (gv : Value) (gs : List Int) (X : World) : Prop where
  box : VarA w.heap.size PoolT #[.int .i64 pa, .int .i64 pn, lv, fv] X
  res : VarA (w.heap.size + 1) PoolT #[.int .i64 0, .int .i64 0, .slice none 0 0, .slice none 0 0] X
  below : Below w.heap.size w X
  left : ∃ f, layLeaseS.own X (w.heap.size + 2) f [lf] ks
  told : ∃ f, layLeaseS.own X (w.heap.size + 2) f [tv] T
  own : ∃ f, layIntS.own X (w.heap.size + 2) f [gv] gs
theorem ExJ.next {w : World} {pa pn : Int} {lv fv lf tv : Value} {ks T : List Ls} {gv : Value} {gs : List Int} {X Y : World} (h : ExJ w pa pn lv fv lf tv ks T gv gs X) (hb : Below X.heap.size X Y) : ExJ w pa pn lv fv lf tv ks T gv gs Y :=
  ⟨h.box.next hb, h.res.next hb, h.below.trans (hb.mono h.below.size), h.left.imp fun _ hf => layLeaseS.next hf hb, h.told.imp fun _ hf => layLeaseS.next hf hb, h.own.imp fun _ hf => layIntS.next hf hb⟩
theorem ExJ.more {w : World} {pa pn : Int} {lv fv lf tv : Value} {ks T : List Ls} {gv gv' : Value} {gs gs' : List Int} {X Y : World} (h : ExJ w pa pn lv fv lf tv ks T gv gs X) (hg : X.grownBy Y gv.ownBlock) (hb : Below (w.heap.size + 2) X Y) (ho : ∃ f, layIntS.own Y (w.heap.size + 2) f [gv'] gs') : ExJ w pa pn lv fv lf tv ks T gv' gs' Y := by
  obtain ⟨f, hf⟩ := h.own
  exact ⟨h.box.next' hb (by omega), h.res.next' hb (by omega), h.below.trans (hb.mono (by omega)), h.left.imp fun _ h1 => row_grown flatLease flatInt h1 hf (by decide) hg, h.told.imp fun _ h1 => row_grown flatLease flatInt h1 hf (by decide) hg, ho⟩

theorem VarA.new' (w : World) (n : Nat) (hn : w.heap.size = n) (t : TypeId) (cs : Array Value) : VarA n t cs (w.alloc (.cells cs t)) := by
  subst hn
  exact VarA.new w t cs
theorem exI_new (w : World) (pa pn : Int) (lv fv : Value) : ExI w pa pn lv fv (w.heap.size + 1 + 1 + 1 + 1) (.slice (some ⟨w.heap.size + 1 + 1, 0, none⟩) 0 0) [] (fun _ => ((0, 0, 0), 0)) (.slice (some ⟨w.heap.size + 1 + 1 + 1, 0, none⟩) 0 0) [] (((((w.alloc (.cells #[.int .i64 pa, .int .i64 pn, lv, fv] PoolT)).alloc (.cells #[.int .i64 0, .int .i64 0, .slice none 0 0, .slice none 0 0] PoolT)).alloc (.cells #[] LeaseT)).alloc (.cells #[] HoT)).alloc (.cells #[.slice (some ⟨w.heap.size + 1 + 1 + 1, 0, none⟩) 0 0] HpT)) := by
  have a1 := VarA.new w PoolT #[.int .i64 pa, .int .i64 pn, lv, fv]
  have b1 : Below w.heap.size w (w.alloc (.cells #[.int .i64 pa, .int .i64 pn, lv, fv] PoolT)) := (Below.refl _ w).alloc (Nat.le_refl _) _
  have s1 : (w.alloc (.cells #[.int .i64 pa, .int .i64 pn, lv, fv] PoolT)).heap.size = w.heap.size + 1 := by simp
  generalize w.alloc (.cells #[.int .i64 pa, .int .i64 pn, lv, fv] PoolT) = W1 at *
  have a2 := a1.alloc (.cells #[.int .i64 0, .int .i64 0, .slice none 0 0, .slice none 0 0] PoolT)
  have r2 := VarA.new' W1 _ s1 PoolT #[.int .i64 0, .int .i64 0, .slice none 0 0, .slice none 0 0]
  have b2 := b1.alloc (o := .cells #[.int .i64 0, .int .i64 0, .slice none 0 0, .slice none 0 0] PoolT) b1.size
  have s2 : (W1.alloc (.cells #[.int .i64 0, .int .i64 0, .slice none 0 0, .slice none 0 0] PoolT)).heap.size = w.heap.size + 1 + 1 := by simp [s1]
  generalize W1.alloc (.cells #[.int .i64 0, .int .i64 0, .slice none 0 0, .slice none 0 0] PoolT) = W2 at *
  have o3 : layLeaseS.own (W2.alloc (.cells #[] LeaseT)) (w.heap.size + 2) [W2.heap.size] [.slice (some ⟨W2.heap.size, 0, none⟩) 0 0] [] := flat_lit W2 _ (by omega)
  rw [s2] at o3
  have a3 := a2.alloc (.cells #[] LeaseT)
  have r3 := r2.alloc (.cells #[] LeaseT)
  have b3 := b2.alloc (o := .cells #[] LeaseT) b2.size
  have s3 : (W2.alloc (.cells #[] LeaseT)).heap.size = w.heap.size + 1 + 1 + 1 := by simp [s2]
  generalize W2.alloc (.cells #[] LeaseT) = W3 at *
  have l4 : OwnR ptrRec (W3.alloc (.cells #[] HoT)) (w.heap.size + 2) HoT (.slice (some ⟨W3.heap.size, 0, none⟩) 0 0) [] := OwnR.lit W3 _ HoT (by omega)
  rw [s3] at l4
  have n4 : Below W3.heap.size W3 (W3.alloc (.cells #[] HoT)) := (Below.refl _ _).alloc (Nat.le_refl _) _
  have s4 : (W3.alloc (.cells #[] HoT)).heap.size = w.heap.size + 1 + 1 + 1 + 1 := by simp [s3]
  generalize W3.alloc (.cells #[] HoT) = W4 at *
  have n5 : Below W4.heap.size W4 (W4.alloc (.cells #[.slice (some ⟨w.heap.size + 1 + 1 + 1, 0, none⟩) 0 0] HpT)) := (Below.refl _ _).alloc (Nat.le_refl _) _
  have b4 := b3.trans (n4.mono b3.size)
  exact ⟨(a3.next n4).next n5, (r3.next n4).next n5, b4.trans (n5.mono b4.size), ⟨_, layLeaseS.next (layLeaseS.next o3 n4) n5⟩, ⟨VarA.new' W4 _ s4 HpT _, l4.below n5, fun p hp => (by cases hp), List.nodup_nil, fun p hp => (by cases hp), by omega⟩, fun c c0 cn => (by simp at cn), fun p hp => (by cases hp)⟩
theorem over_take (now : Int) (ls : List Ls) (j : Nat) (h : j < ls.length) : (ls.take (j + 1)).filter (fun l => !keepL now l) = (ls.take j).filter (fun l => !keepL now l) ++ if keepL now ls[j] then [] else [ls[j]] := by
  rw [filter_take _ ls j h]
  cases keepL now ls[j] <;> rfl

end Go.Proofs.Ytphmomlgmnllkac
namespace Go.Proofs.Ytphmomlgmnllkac

end Go.Proofs.Ytphmomlgmnllkac
namespace Go.Proofs.Ytphmomlgmnllkac

/-- There is one answer. -/
theorem GrTold.one {pa pn : Int} {ls rs qs : List Ls} {fs : List Fx} {who now a c : Int} {b d : Bool} (h : GrTold pa pn ls fs who now rs a b) (k : GrTold pa pn ls fs who now qs c d) : rs = qs ∧ a = c ∧ b = d := by
  have clash : ∀ {n : Nat} {l : Ls}, ls[n]? = some l → l.2.1 = who → NoOne ls who → False := fun hn e hw => hw _ _ hn e
  rcases h with ⟨rfl, rfl, rfl, h4⟩ | ⟨rfl, hg, n, l, hn, e, hf, rfl, rfl⟩ | ⟨rfl, hg, hw, h6, hz, rfl, rfl⟩
  · rcases k with ⟨rfl, rfl, rfl, _⟩ | ⟨rfl, kg, m, x, hm, ex, _⟩ | ⟨rfl, kg, kw, k6, kz, _⟩
    · exact ⟨rfl, rfl, rfl⟩
    · rcases h4 with h4 | h4
      · exact absurd kg h4
      · exact (clash hm ex h4.1).elim
    · rcases h4 with h4 | ⟨_, h4 | h4⟩
      · exact absurd kg h4
      · exact absurd h4 k6
      · exact absurd h4 kz
  · rcases k with ⟨rfl, rfl, rfl, k4⟩ | ⟨rfl, kg, m, x, hm, ex, kf, rfl, rfl⟩ | ⟨rfl, kg, kw, _⟩
    · rcases k4 with k4 | k4
      · exact absurd hg k4
      · exact (clash hn e k4.1).elim
    · have : n = m := by
        rcases Nat.lt_trichotomy n m with h1 | h1 | h1
        · exact absurd e (kf n h1 l hn)
        · exact h1
        · exact absurd ex (hf m h1 x hm)
      subst this
      rw [hn] at hm
      cases hm
      exact ⟨rfl, rfl, rfl⟩
    · exact (clash hn e kw).elim
  · rcases k with ⟨rfl, rfl, rfl, k4⟩ | ⟨rfl, kg, m, x, hm, ex, _⟩ | ⟨rfl, _, _, _, _, rfl, rfl⟩
    · rcases k4 with k4 | ⟨_, k4 | k4⟩
      · exact absurd hg k4
      · exact absurd k4 h6
      · exact absurd k4 hz
    · exact (clash hm ex hw).elim
    · exact ⟨rfl, rfl, rfl⟩
theorem RelTold.one {pa pn : Int} {ls rs qs : List Ls} {fs : List Fx} {who : Int} {b d : Bool} (h : RelTold pa pn ls fs who rs b) (k : RelTold pa pn ls fs who qs d) : rs = qs ∧ b = d := by
  rcases h with ⟨rfl, h1, rfl⟩ | ⟨rfl, rfl, h1⟩ <;> rcases k with ⟨rfl, k1, rfl⟩ | ⟨rfl, rfl, k1⟩
  · exact ⟨rfl, rfl⟩
  · exact absurd h1 k1
  · exact absurd k1 h1
  · exact ⟨rfl, rfl⟩

/-- Not granted: nothing is changed. -/
theorem GrTold.same {pa pn : Int} {ls rs : List Ls} {fs : List Fx} {who now a : Int} (h : GrTold pa pn ls fs who now rs a false) : rs = ls := by
  rcases h with ⟨_, _, rfl, _⟩ | ⟨h, _⟩ | ⟨h, _⟩
  · rfl
  · cases h
  · cases h
/-- Granted: who asks has the address. -/
theorem GrTold.has {pa pn : Int} {ls rs : List Ls} {fs : List Fx} {who now a : Int} (h : GrTold pa pn ls fs who now rs a true) (hp : PoolOkP pa pn ls fs) : ∃ l ∈ rs, l.1 = a ∧ l.2.1 = who ∧ l.2.2 = now + 20 := by
  rcases h with ⟨h, _⟩ | ⟨_, hg, n, l, hn, e, hf, rfl, rfl⟩ | ⟨_, hg, hw, h6, hz, rfl, rfl⟩
  · cases h
  · exact ⟨(l.1, l.2.1, now + 20), List.mem_iff_getElem?.2 ⟨n, by rw [List.getElem?_set_self (List.getElem?_eq_some_iff.1 hn).1]⟩, rfl, e, rfl⟩
  · exact ⟨(freeP pa pn ls fs who, who, now + 20), (mem_with (free_right hp hw hz).2.2 _).2 (.inl rfl), rfl, rfl, rfl⟩
/-- All others keep theirs. -/
theorem GrTold.others {pa pn : Int} {ls rs : List Ls} {fs : List Fx} {who now a : Int} {b : Bool} (h : GrTold pa pn ls fs who now rs a b) (hp : PoolOkP pa pn ls fs) (l : Ls) (hl : l ∈ ls) (hw : l.2.1 ≠ who) : holderP rs l.1 = l.2.1 := by
  refine holder_mem (h.right hp).leases l ?_
  rcases h with ⟨_, _, rfl, _⟩ | ⟨_, hg, n, x, hn, e, hf, rfl, rfl⟩ | ⟨_, hg, hw2, h6, hz, rfl, rfl⟩
  · exact hl
  · rw [renew_eq hp.leases n x _ hn]
    exact List.mem_map.2 ⟨l, hl, by rw [renewL, if_neg (by rw [e]; exact hw)]⟩
  · exact (mem_with (free_right hp hw2 hz).2.2 l).2 (.inr hl)
/-- The address is within. -/
theorem GrTold.inside {pa pn : Int} {ls rs : List Ls} {fs : List Fx} {who now a : Int} (h : GrTold pa pn ls fs who now rs a true) (hp : PoolOkP pa pn ls fs) : insideP pa pn a = true := by
  obtain ⟨l, hl, rfl, _⟩ := h.has hp
  exact ((h.right hp).leases.1 l hl).1
/-- Asked again: the same. -/
theorem GrTold.again {pa pn : Int} {ls rs : List Ls} {fs : List Fx} {who now c : Int} {b : Bool} (h : GrTold pa pn ls fs who now rs c b) (hp : PoolOkP pa pn ls fs) (hg : (1 ≤ who ∧ who ≤ 99) ∧ (0 ≤ now ∧ now ≤ 999999980)) (l : Ls) (hl : l ∈ ls) (e : l.2.1 = who) : b = true ∧ c = l.1 := by
  have hno : ¬ NoOne ls who := fun hw => by
    obtain ⟨j, hj⟩ := List.mem_iff_getElem?.1 hl
    exact hw j l hj e
  rcases h with ⟨_, _, rfl, h4⟩ | ⟨rfl, _, n, x, hn, ex, hf, rfl, rfl⟩ | ⟨_, _, hw2, _⟩
  · rcases h4 with h4 | h4
    · exact absurd ⟨hp, hg.1, hg.2⟩ h4
    · exact absurd h4.1 hno
  · exact ⟨rfl, by rw [one_who hp.leases x l (List.mem_of_getElem? hn) hl (ex.trans e.symm)]⟩
  · exact absurd hw2 hno
/-- Released: it is free. -/
theorem RelTold.free {pa pn : Int} {ls rs : List Ls} {fs : List Fx} {who : Int} {b : Bool} (h : RelTold pa pn ls fs who rs b) (hp : PoolOkP pa pn ls fs) (l : Ls) (hl : l ∈ ls) (e : l.2.1 = who) : b = true ∧ holderP rs l.1 = 0 := by
  have hlt : (ls.filter fun l => l.2.1 != who).length ≠ ls.length := fun h1 => by
    have h2 := List.length_filter_eq_length_iff.1 h1 l hl
    rw [bne_iff_ne] at h2
    exact h2 e
  rcases h with ⟨rfl, _, rfl⟩ | ⟨_, _, h3⟩
  · refine ⟨rfl, holder_not fun x hx ex => ?_⟩
    obtain ⟨h4, h5⟩ := List.mem_filter.1 hx
    have := one_addr hp.leases x l h4 hl ex
    subst this
    rw [bne_iff_ne] at h5
    exact h5 e
  · exact absurd ⟨hp, hlt⟩ h3

end Go.Proofs.Ytphmomlgmnllkac
namespace Go.Proofs.Ytphmomlgmnllkac

/-- Fixed ones that are right, by pairs. -/
def FixesR (pa pn : Int) (fs : List Fx) : Prop := (∀ f ∈ fs, (1 ≤ f.1 ∧ f.1 ≤ 99) ∧ insideP pa pn f.2 = true) ∧ fs.Pairwise (fun x y => x.1 < y.1) ∧ fs.Pairwise (fun x y => x.2 ≠ y.2)
theorem fixes_ok {pa pn : Int} {fs : List Fx} (h : FixesR pa pn fs) (i : Nat) (f : Fx) (hf : fs[i]? = some f) : FixOk pa pn fs i f :=
  ⟨(h.1 f (List.mem_of_getElem? hf)).1, (h.1 f (List.mem_of_getElem? hf)).2, fun g hi hg => at_of_pair _ _ h.2.1 i (i - 1) g f (by omega) hg hf, fixed_at fs f.2 i f hf (fun j hj x hx => at_of_pair _ _ h.2.2 i j x f hj hx hf) rfl⟩
theorem fixes_nil (pa pn : Int) : FixesR pa pn [] := ⟨fun f h => absurd h (by simp), List.Pairwise.nil, List.Pairwise.nil⟩
theorem fixed_zero {pa pn : Int} {fs : List Fx} (h : FixesR pa pn fs) {a : Int} (hz : fixedP fs a = 0) : ∀ f ∈ fs, f.2 ≠ a := by
  intro f hf e
  obtain ⟨i, hi⟩ := List.mem_iff_getElem?.1 hf
  have h1 := (fixes_ok h i f hi).2.2.2
  rw [e, hz] at h1
  have := (h.1 f hf).1
  omega
theorem FixesR.push {pa pn : Int} {fs : List Fx} (h : FixesR pa pn fs) {who a : Int} (hw : 1 ≤ who ∧ who ≤ 99) (hup : ∀ f ∈ fs, f.1 < who) (hi : insideP pa pn a = true) (hz : fixedP fs a = 0) : FixesR pa pn (fs ++ [(who, a)]) := by
  refine ⟨fun f hf => ?_, ?_, ?_⟩
  · rcases List.mem_append.1 hf with h1 | h1
    · exact h.1 f h1
    · rw [List.mem_singleton] at h1
      subst h1
      exact ⟨hw, hi⟩
  · rw [List.pairwise_append]
    refine ⟨h.2.1, List.pairwise_singleton _ _, fun x hx y hy => ?_⟩
    rw [List.mem_singleton] at hy
    subst hy
    exact hup x hx
  · rw [List.pairwise_append]
    refine ⟨h.2.2, List.pairwise_singleton _ _, fun x hx y hy => ?_⟩
    rw [List.mem_singleton] at hy
    subst hy
    exact fixed_zero h hz x hx
/-- A pool without leases. -/
theorem pool_new {pa pn : Int} {fs : List Fx} (hp : PrefOk pa pn) (h1 : 24 ≤ pn) (h2 : pn ≤ 30) (h : FixesR pa pn fs) (hl : fs.length ≤ 4) : PoolOkP pa pn [] fs :=
  ⟨⟨hp, h1, h2, by simp, hl⟩, fun i f hf => fixes_ok h i f hf, fun i l hl => by simp at hl⟩
/-- The net that is drawn. -/
theorem net_drawn (n : Nat) (h : n = 24 ∨ n = 28 ∨ n = 29 ∨ n = 30) : PrefOk 167772160 n ∧ 24 ≤ (n : Int) ∧ (n : Int) ≤ 30 := by
  rcases h with rfl | rfl | rfl | rfl <;> exact ⟨⟨⟨by decide, by decide⟩, ⟨by decide, by decide⟩, by decide⟩, by decide, by decide⟩

end Go.Proofs.Ytphmomlgmnllkac
