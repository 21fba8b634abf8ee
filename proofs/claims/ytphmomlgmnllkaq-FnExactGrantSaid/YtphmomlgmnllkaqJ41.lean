/-
  The program's Expire, of leases that ascend.
  The program's pools.
-/
import Derived.Test.YtphmomlgmnllkaqJ39
import Derived.Test.YtphmomlgmnllkaqJ40
namespace Go.Proofs.Ytphmomlgmnllkaq
open Go.RowKit

/-- What Expire leaves. -/
def ExpEnd (pa pn : Int) (ls : List Ls) (fs : List Fx) (now : Int) (w : World) (e : Ending) (w' : World) : Prop := ∃ (lu fu gv : Value), e = .returned (.tuple #[.agg #[.int .i64 pa, .int .i64 pn, lu, fu], gv]) ∧ (∃ f, layIntS.own w' w.heap.size f [gv] (goneP now ls)) ∧ PoolOut w lu fu (keptP now ls) fs w'

section
variable {α β : Type} {A : Lay α} {B : Lay β}
theorem row_typed (hf : Flat A) {e : TypeId} {X : World} {b : Nat} {f : List Nat} {v : Value} {xs : List α} (h : (Lay.rows e A).own X b f [v] xs) {g : Nat} (hg : g ∈ f) : ∃ cs, X.heap[g]? = some (.cells cs e (0, 0)) := by
  obtain ⟨us, ho, _, rfl⟩ := flat_inv hf h
  rcases ho.2 with ⟨rfl, _⟩ | ⟨g', cap, cur, rfl, _, hb, _⟩
  · simp [blk, Value.ownBlock] at hg
  · have : g = g' := by simpa [blk, Value.ownBlock] using hg
    subst this
    exact ⟨cur, hb⟩
theorem row_hchg (hf : Flat A) {e : TypeId} {X Y : World} {base b c : Nat} {f : List Nat} {v x : Value} {xs : List α} (h : (Lay.rows e A).own X c f [v] xs) (hv : VarA b HpT #[x] X) (hc : HChg base b X Y) (h1 : HpT ≠ e) (h2 : e ≠ HoT) : (Lay.rows e A).own Y c f [v] xs := by
  have h3 := row_off hf h hv h1
  refine (Lay.rows e A).keep h fun g hg => ?_
  refine hc.block g ((Lay.rows e A).blocks h g hg).2 (fun e => h3 (by rw [← e]; exact hg)) (.inr fun cs fr e' => ?_)
  obtain ⟨cs', h4⟩ := row_typed hf h hg
  rw [h4] at e'
  injection e' with e'
  injection e' with _ e'
  exact h2 e'
theorem row_grown (hf : Flat A) (hg : Flat B) {e e' : TypeId} {X Y : World} {b c : Nat} {f k : List Nat} {v u : Value} {xs : List α} {ys : List β} (h : (Lay.rows e A).own X b f [v] xs) (h' : (Lay.rows e' B).own X c k [u] ys) (he : e ≠ e') (hgr : X.grownBy Y u.ownBlock) : (Lay.rows e A).own Y b f [v] xs := by
  have h1 := rows_off hf hg h h' he
  obtain ⟨us, ho, _, rfl⟩ := flat_inv hg h'
  refine (Lay.rows e A).keep h fun g hg2 => hgr.block g ((Lay.rows e A).blocks h g hg2).2 fun e2 => h1 g hg2 ?_
  unfold blk
  rw [← e2]
  simp
end

/-- While leases are looked at: those that stay, those that are over. -/
structure ExI (w : World) (pa pn : Int) (lv fv : Value) (b : Nat) (lf : Value) (ks : List Ls) (nd : Nat → Hd) (v : Value) (ps : List Nat) (X : World) : Prop where
  box : VarA w.heap.size PoolT #[.int .i64 pa, .int .i64 pn, lv, fv] X
  res : VarA (w.heap.size + 1) PoolT #[.int .i64 0, .int .i64 0, .slice none 0 0, .slice none 0 0] X
  below : Below w.heap.size w X
  own : ∃ f, layLeaseS.own X (w.heap.size + 2) f [lf] ks
  heap : HeapP X (w.heap.size + 2) b nd v ps
theorem ExI.next {w : World} {pa pn : Int} {lv fv : Value} {b : Nat} {lf : Value} {ks : List Ls} {nd : Nat → Hd} {v : Value} {ps : List Nat} {X Y : World} (h : ExI w pa pn lv fv b lf ks nd v ps X) (hb : Below X.heap.size X Y) : ExI w pa pn lv fv b lf ks nd v ps Y :=
  ⟨h.box.next hb, h.res.next hb, h.below.trans (hb.mono h.below.size), h.own.imp fun _ hf => layLeaseS.next hf hb, h.heap.next hb⟩
/-- One more that stays. -/
theorem ExI.stay {w : World} {pa pn : Int} {lv fv : Value} {b : Nat} {lf lf' : Value} {ks ks' : List Ls} {nd : Nat → Hd} {v : Value} {ps : List Nat} {X Y : World} (h : ExI w pa pn lv fv b lf ks nd v ps X) (hg : X.grownBy Y lf.ownBlock) (hb : Below (w.heap.size + 2) X Y) (ho : ∃ f, layLeaseS.own Y (w.heap.size + 2) f [lf'] ks') : ExI w pa pn lv fv b lf' ks' nd v ps Y := by
  obtain ⟨f, hf⟩ := h.own
  exact ⟨h.box.next' hb (by omega), h.res.next' hb (by omega), h.below.trans (hb.mono (by omega)), ho, ⟨h.heap.hw.grownL hf hg, h.heap.heap, h.heap.one⟩⟩
/-- One more that is over. -/
theorem ExI.over {w : World} {pa pn : Int} {lv fv : Value} {b : Nat} {lf : Value} {ks : List Ls} {nd nd' : Nat → Hd} {v v' : Value} {ps qs : List Nat} {X Y : World} (h : ExI w pa pn lv fv b lf ks nd v ps X) (hc : HChg (w.heap.size + 2) b X Y) (hp : HeapP Y (w.heap.size + 2) b nd' v' qs) (hs : w.heap.size + 2 ≤ X.heap.size) : ExI w pa pn lv fv b lf ks nd' v' qs Y := by
  have hb := hc.below h.heap.hw.vb hs
  exact ⟨h.box.next' hb (by omega), h.res.next' hb (by omega), h.below.trans (hb.mono (by omega)), h.own.imp fun _ hf => row_hchg flatLease hf h.heap.hw.var hc (by decide) (by decide), hp⟩

/-- While those that are over are told. -/
structure ExJ (w : World) (pa pn : Int) (lv fv lf tv : Value) (ks T : List Ls) (gv : Value) (gs : List Int) (X : World) : Prop where
  box : VarA w.heap.size PoolT #[.int .i64 pa, .int .i64 pn, lv, fv] X
  res : VarA (w.heap.size + 1) PoolT #[.int .i64 0, .int .i64 0, .slice none 0 0, .slice none 0 0] X
  below : Below w.heap.size w X
  left : ∃ f, layLeaseS.own X (w.heap.size + 2) f [lf] ks
  told : ∃ f, layLeaseS.own X (w.heap.size + 2) f [tv] T
  own : ∃ f, layIntS.own X (w.heap.size + 2) f [gv] gs
theorem ExJ.next {w : World} {pa pn : Int} {lv fv lf tv : Value} {ks T : List Ls} {gv : Value} {gs : List Int} {X Y : World} (h : ExJ w pa pn lv fv lf tv ks T gv gs X) (hb : Below X.heap.size X Y) : ExJ w pa pn lv fv lf tv ks T gv gs Y :=
  ⟨h.box.next hb, h.res.next hb, h.below.trans (hb.mono h.below.size), h.left.imp fun _ hf => layLeaseS.next hf hb, h.told.imp fun _ hf => layLeaseS.next hf hb, h.own.imp fun _ hf => layIntS.next hf hb⟩
theorem ExJ.more {w : World} {pa pn : Int} {lv fv lf tv : Value} {ks T : List Ls} {gv gv' : Value} {gs gs' : List Int} {X Y : World} (h : ExJ w pa pn lv fv lf tv ks T gv gs X) (hg : X.grownBy Y gv.ownBlock) (hb : Below (w.heap.size + 2) X Y) (ho : ∃ f, layIntS.own Y (w.heap.size + 2) f [gv'] gs') : ExJ w pa pn lv fv lf tv ks T gv' gs' Y := by
  obtain ⟨f, hf⟩ := h.own
  exact ⟨h.box.next' hb (by omega), h.res.next' hb (by omega), h.below.trans (hb.mono (by omega)), h.left.imp fun _ h1 => row_grown flatLease flatInt h1 hf (by decide) hg, h.told.imp fun _ h1 => row_grown flatLease flatInt h1 hf (by decide) hg, ho⟩

theorem VarA.new' (w : World) (n : Nat) (hn : w.heap.size = n) (t : TypeId) (cs : Array Value) : VarA n t cs (w.alloc (.cells cs t)) := by
  subst hn
  exact VarA.new w t cs
theorem exI_new (w : World) (pa pn : Int) (lv fv : Value) : ExI w pa pn lv fv (w.heap.size + 1 + 1 + 1 + 1) (.slice (some ⟨w.heap.size + 1 + 1, 0, none⟩) 0 0) [] (fun _ => ((0, 0, 0), 0)) (.slice (some ⟨w.heap.size + 1 + 1 + 1, 0, none⟩) 0 0) [] (((((w.alloc (.cells #[.int .i64 pa, .int .i64 pn, lv, fv] PoolT)).alloc (.cells #[.int .i64 0, .int .i64 0, .slice none 0 0, .slice none 0 0] PoolT)).alloc (.cells #[] LeaseT)).alloc (.cells #[] HoT)).alloc (.cells #[.slice (some ⟨w.heap.size + 1 + 1 + 1, 0, none⟩) 0 0] HpT)) := by
  have a1 := VarA.new w PoolT #[.int .i64 pa, .int .i64 pn, lv, fv]
  have b1 : Below w.heap.size w (w.alloc (.cells #[.int .i64 pa, .int .i64 pn, lv, fv] PoolT)) := (Below.refl _ w).alloc (Nat.le_refl _) _
  have s1 : (w.alloc (.cells #[.int .i64 pa, .int .i64 pn, lv, fv] PoolT)).heap.size = w.heap.size + 1 := by simp
  generalize w.alloc (.cells #[.int .i64 pa, .int .i64 pn, lv, fv] PoolT) = W1 at *
  have a2 := a1.alloc (.cells #[.int .i64 0, .int .i64 0, .slice none 0 0, .slice none 0 0] PoolT)
  have r2 := VarA.new' W1 _ s1 PoolT #[.int .i64 0, .int .i64 0, .slice none 0 0, .slice none 0 0]
  have b2 := b1.alloc (o := .cells #[.int .i64 0, .int .i64 0, .slice none 0 0, .slice none 0 0] PoolT) b1.size
  have s2 : (W1.alloc (.cells #[.int .i64 0, .int .i64 0, .slice none 0 0, .slice none 0 0] PoolT)).heap.size = w.heap.size + 1 + 1 := by simp [s1]
  generalize W1.alloc (.cells #[.int .i64 0, .int .i64 0, .slice none 0 0, .slice none 0 0] PoolT) = W2 at *
  have o3 : layLeaseS.own (W2.alloc (.cells #[] LeaseT)) (w.heap.size + 2) [W2.heap.size] [.slice (some ⟨W2.heap.size, 0, none⟩) 0 0] [] := flat_lit W2 _ (by omega)
  rw [s2] at o3
  have a3 := a2.alloc (.cells #[] LeaseT)
  have r3 := r2.alloc (.cells #[] LeaseT)
  have b3 := b2.alloc (o := .cells #[] LeaseT) b2.size
  have s3 : (W2.alloc (.cells #[] LeaseT)).heap.size = w.heap.size + 1 + 1 + 1 := by simp [s2]
  generalize W2.alloc (.cells #[] LeaseT) = W3 at *
  have l4 : OwnR ptrRec (W3.alloc (.cells #[] HoT)) (w.heap.size + 2) HoT (.slice (some ⟨W3.heap.size, 0, none⟩) 0 0) [] := OwnR.lit W3 _ HoT (by omega)
  rw [s3] at l4
  have n4 : Below W3.heap.size W3 (W3.alloc (.cells #[] HoT)) := (Below.refl _ _).alloc (Nat.le_refl _) _
  have s4 : (W3.alloc (.cells #[] HoT)).heap.size = w.heap.size + 1 + 1 + 1 + 1 := by simp [s3]
  generalize W3.alloc (.cells #[] HoT) = W4 at *
  have n5 : Below W4.heap.size W4 (W4.alloc (.cells #[.slice (some ⟨w.heap.size + 1 + 1 + 1, 0, none⟩) 0 0] HpT)) := (Below.refl _ _).alloc (Nat.le_refl _) _
  have b4 := b3.trans (n4.mono b3.size)
  exact ⟨(a3.next n4).next n5, (r3.next n4).next n5, b4.trans (n5.mono b4.size), ⟨_, layLeaseS.next (layLeaseS.next o3 n4) n5⟩, ⟨VarA.new' W4 _ s4 HpT _, l4.below n5, fun p hp => (by cases hp), List.nodup_nil, fun p hp => (by cases hp), by omega⟩, fun c c0 cn => (by simp at cn), fun p hp => (by cases hp)⟩
theorem over_take (now : Int) (ls : List Ls) (j : Nat) (h : j < ls.length) : (ls.take (j + 1)).filter (fun l => !keepL now l) = (ls.take j).filter (fun l => !keepL now l) ++ if keepL now ls[j] then [] else [ls[j]] := by
  rw [filter_take _ ls j h]
  cases keepL now ls[j] <;> rfl

end Go.Proofs.Ytphmomlgmnllkaq
namespace Go.Proofs.Ytphmomlgmnllkaq

end Go.Proofs.Ytphmomlgmnllkaq
