/-
  The program's Expire, of leases that ascend.
-/
import Derived.Test.YtphmomlgmnllkadJ34
namespace Go.Proofs.Ytphmomlgmnllkad
open Go.RowKit

/-- What Expire leaves. -/
def ExpEnd (pa pn : Int) (ls : List Ls) (fs : List Fx) (now : Int) (w : World) (e : Ending) (w' : World) : Prop := ∃ (lu fu gv : Value), e = .returned (.tuple #[.agg #[.int .i64 pa, .int .i64 pn, lu, fu], gv]) ∧ (∃ f, layIntS.own w' w.heap.size f [gv] (goneP now ls)) ∧ PoolOut w lu fu (keptP now ls) fs w'

section
variable {α β : Type} {A : Lay α} {B : Lay β}
theorem row_typed (hf : Flat A) {e : TypeId} {X : World} {b : Nat} {f : List Nat} {v : Value} {xs : List α} (h : (Lay.rows e A).own X b f [v] xs) {g : Nat} (hg : g ∈ f) : ∃ cs, X.heap[g]? = some (.cells cs e (0, 0)) := by
  obtain ⟨us, ho, _, rfl⟩ := flat_inv hf h
  rcases ho.2 with ⟨rfl, _⟩ | ⟨g', cap, cur, rfl, _, hb, _⟩
  · simp [blk, Value.ownBlock] at hg
  · have : g = g' := by simpa [blk, Value.ownBlock] using hg
    subst this
    exact ⟨cur, hb⟩
theorem row_hchg (hf : Flat A) {e : TypeId} {X Y : World} {base b c : Nat} {f : List Nat} {v x : Value} {xs : List α} (h : (Lay.rows e A).own X c f [v] xs) (hv : VarA b HpT #[x] X) (hc : HChg base b X Y) (h1 : HpT ≠ e) (h2 : e ≠ HoT) : (Lay.rows e A).own Y c f [v] xs := by
  have h3 := row_off hf h hv h1
  refine (Lay.rows e A).keep h fun g hg => ?_
  refine hc.block g ((Lay.rows e A).blocks h g hg).2 (fun e => h3 (by rw [← e]; exact hg)) (.inr fun cs fr e' => ?_)
  obtain ⟨cs', h4⟩ := row_typed hf h hg
  rw [h4] at e'
  injection e' with e'
  injection e' with _ e'
  exact h2 e'
theorem row_grown (hf : Flat A) (hg : Flat B) {e e' : TypeId} {X Y : World} {b c : Nat} {f k : List Nat} {v u : Value} {xs : List α} {ys : List β} (h : (Lay.rows e A).own X b f [v] xs) (h' : (Lay.rows e' B).own X c k [u] ys) (he : e ≠ e') (hgr : X.grownBy Y u.ownBlock) : (Lay.rows e A).own Y b f [v] xs := by
  have h1 := rows_off hf hg h h' he
  obtain ⟨us, ho, _, rfl⟩ := flat_inv hg h'
  refine (Lay.rows e A).keep h fun g hg2 => hgr.block g ((Lay.rows e A).blocks h g hg2).2 fun e2 => h1 g hg2 ?_
  unfold blk
  rw [← e2]
  simp
end

/-- While leases are looked at: those that stay, those that are over. -/
structure ExI (w : World) (pa pn : Int) (lv fv : Value) (b : Nat) (lf : Value) (ks : List Ls) (nd : Nat → Hd) (v : Value) (ps : List Nat) (X : World) : Prop where
  box : VarA w.heap.size PoolT #[.int .i64 pa, .int .i64 pn, lv, fv] X
  res : VarA (w.heap.size + 1) PoolT #[.int .i64 0, .int .i64 0, .slice none 0 0, .slice none 0 0] X
  below : Below w.heap.size w X
  own : ∃ f, layLeaseS.own X (w.heap.size + 2) f [lf] ks
  heap : HeapP X (w.heap.size + 2) b nd v ps
theorem ExI.next {w : World} {pa pn : Int} {lv fv : Value} {b : Nat} {lf : Value} {ks : List Ls} {nd : Nat → Hd} {v : Value} {ps : List Nat} {X Y : World} (h : ExI w pa pn lv fv b lf ks nd v ps X) (hb : Below X.heap.size X Y) : ExI w pa pn lv fv b lf ks nd v ps Y :=
  ⟨h.box.next hb, h.res.next hb, h.below.trans (hb.mono h.below.size), h.own.imp fun _ hf => layLeaseS.next hf hb, h.heap.next hb⟩
/-- One more that stays. -/
theorem ExI.stay {w : World} {pa pn : Int} {lv fv : Value} {b : Nat} {lf lf' : Value} {ks ks' : List Ls} {nd : Nat → Hd} {v : Value} {ps : List Nat} {X Y : World} (h : ExI w pa pn lv fv b lf ks nd v ps X) (hg : X.grownBy Y lf.ownBlock) (hb : Below (w.heap.size + 2) X Y) (ho : ∃ f, layLeaseS.own Y (w.heap.size + 2) f [lf'] ks') : ExI w pa pn lv fv b lf' ks' nd v ps Y := by
  obtain ⟨f, hf⟩ := h.own
  exact ⟨h.box.next' hb (by omega), h.res.next' hb (by omega), h.below.trans (hb.mono (by omega)), ho, ⟨h.heap.hw.grownL hf hg, h.heap.heap, h.heap.one⟩⟩
/-- One more that is over. -/
theorem ExI.over {w : World} {pa pn : Int} {lv fv : Value} {b : Nat} {lf : Value} {ks : List Ls} {nd nd' : Nat → Hd} {v v' : Value} {ps qs : List Nat} {X Y : World} (h : ExI w pa pn lv fv b lf ks nd v ps X) (hc : HChg (w.heap.size + 2) b X Y) (hp : HeapP Y (w.heap.size + 2) b nd' v' qs) (hs : w.heap.size + 2 ≤ X.heap.size) : ExI w pa pn lv fv b lf ks nd' v' qs Y := by
  have hb := hc.below h.heap.hw.vb hs
  exact ⟨h.box.next' hb (by omega), h.res.next' hb (by omega), h.below.trans (hb.mono (by omega)), h.own.imp fun _ hf => row_hchg flatLease hf h.heap.hw.var hc (by decide) (by decide), hp⟩

/-- While those that are over are told. -/
structure ExJ (w : World) (pa pn : Int) (lv fv lf tv : Value) (ks T : List Ls) (gv : Value) (gs : List Int) (X : World) : Prop where
  box : VarA w.heap.size PoolT #[.int .i64 pa, .int .i64 pn, lv, fv] X
  res : VarA (w.heap.size + 1) PoolT #[.int .i64 0, .int .i64 0, .slice none 0 0, .slice none 0 0] X
  below : Below w.heap.size w X
  left : ∃ f, layLeaseS.own X (w.heap.size + 2) f [lf] ks
  told : ∃ f, layLeaseS.own X (w.heap.size + 2) f [tv] T
  own : ∃ f, layIntS.own X (w.heap.size + 2) f [gv] gs
theorem ExJ.next {w : World} {pa pn : Int} {lv fv lf tv : Value} {ks T : List Ls} {gv : Value} {gs : List Int} {X Y : World} (h : ExJ w pa pn lv fv lf tv ks T gv gs X) (hb : Below X.heap.size X Y) : ExJ w pa pn lv fv lf tv ks T gv gs Y :=
  ⟨h.box.next hb, h.res.next hb, h.below.trans (hb.mono h.below.size), h.left.imp fun _ hf => layLeaseS.next hf hb, h.told.imp fun _ hf => layLeaseS.next hf hb, h.own.imp fun _ hf => layIntS.next hf hb⟩
theorem ExJ.more {w : World} {pa pn : Int} {lv fv lf tv : Value} {ks T : List Ls} {gv gv' : Value} {gs gs' : List Int} {X Y : World} (h : ExJ w pa pn lv fv lf tv ks T gv gs X) (hg : X.grownBy Y gv.ownBlock) (hb : Below (w.heap.size + 2) X Y) (ho : ∃ f, layIntS.own Y (w.heap.size + 2) f [gv'] gs') : ExJ w pa pn lv fv lf tv ks T gv' gs' Y := by
  obtain ⟨f, hf⟩ := h.own
  exact ⟨h.box.next' hb (by omega), h.res.next' hb (by omega), h.below.trans (hb.mono (by omega)), h.left.imp fun _ h1 => row_grown flatLease flatInt h1 hf (by decide) hg, h.told.imp fun _ h1 => row_grown flatLease flatInt h1 hf (by decide) hg, ho⟩

theorem VarA.new' (w : World) (n : Nat) (hn : w.heap.size = n) (t : TypeId) (cs : Array Value) : VarA n t cs (w.alloc (.cells cs t)) := by
  subst hn
  exact VarA.new w t cs
theorem exI_new (w : World) (pa pn : Int) (lv fv : Value) : ExI w pa pn lv fv (w.heap.size + 1 + 1 + 1 + 1) (.slice (some ⟨w.heap.size + 1 + 1, 0, none⟩) 0 0) [] (fun _ => ((0, 0, 0), 0)) (.slice (some ⟨w.heap.size + 1 + 1 + 1, 0, none⟩) 0 0) [] (((((w.alloc (.cells #[.int .i64 pa, .int .i64 pn, lv, fv] PoolT)).alloc (.cells #[.int .i64 0, .int .i64 0, .slice none 0 0, .slice none 0 0] PoolT)).alloc (.cells #[] LeaseT)).alloc (.cells #[] HoT)).alloc (.cells #[.slice (some ⟨w.heap.size + 1 + 1 + 1, 0, none⟩) 0 0] HpT)) := by
  have a1 := VarA.new w PoolT #[.int .i64 pa, .int .i64 pn, lv, fv]
  have b1 : Below w.heap.size w (w.alloc (.cells #[.int .i64 pa, .int .i64 pn, lv, fv] PoolT)) := (Below.refl _ w).alloc (Nat.le_refl _) _
  have s1 : (w.alloc (.cells #[.int .i64 pa, .int .i64 pn, lv, fv] PoolT)).heap.size = w.heap.size + 1 := by simp
  generalize w.alloc (.cells #[.int .i64 pa, .int .i64 pn, lv, fv] PoolT) = W1 at *
  have a2 := a1.alloc (.cells #[.int .i64 0, .int .i64 0, .slice none 0 0, .slice none 0 0] PoolT)
  have r2 := VarA.new' W1 _ s1 PoolT #[.int .i64 0, .int .i64 0, .slice none 0 0, .slice none 0 0]
  have b2 := b1.alloc (o := .cells #[.int .i64 0, .int .i64 0, .slice none 0 0, .slice none 0 0] PoolT) b1.size
  have s2 : (W1.alloc (.cells #[.int .i64 0, .int .i64 0, .slice none 0 0, .slice none 0 0] PoolT)).heap.size = w.heap.size + 1 + 1 := by simp [s1]
  generalize W1.alloc (.cells #[.int .i64 0, .int .i64 0, .slice none 0 0, .slice none 0 0] PoolT) = W2 at *
  have o3 : layLeaseS.own (W2.alloc (.cells #[] LeaseT)) (w.heap.size + 2) [W2.heap.size] [.slice (some ⟨W2.heap.size, 0, none⟩) 0 0] [] := flat_lit W2 _ (by omega)
  rw [s2] at o3
  have a3 := a2.alloc (.cells #[] LeaseT)
  have r3 := r2.alloc (.cells #[] LeaseT)
  have b3 := b2.alloc (o := .cells #[] LeaseT) b2.size
  have s3 : (W2.alloc (.cells #[] LeaseT)).heap.size = w.heap.size + 1 + 1 + 1 := by simp [s2]
  generalize W2.alloc (.cells #[] LeaseT) = W3 at *
  have l4 : OwnR ptrRec (W3.alloc (.cells #[] HoT)) (w.heap.size + 2) HoT (.slice (some ⟨W3.heap.size, 0, none⟩) 0 0) [] := OwnR.lit W3 _ HoT (by omega)
  rw [s3] at l4
  have n4 : Below W3.heap.size W3 (W3.alloc (.cells #[] HoT)) := (Below.refl _ _).alloc (Nat.le_refl _) _
  have s4 : (W3.alloc (.cells #[] HoT)).heap.size = w.heap.size + 1 + 1 + 1 + 1 := by simp [s3]
  generalize W3.alloc (.cells #[] HoT) = W4 at *
  have n5 : Below W4.heap.size W4 (W4.alloc (.cells #[.slice (some ⟨w.heap.size + 1 + 1 + 1, 0, none⟩) 0 0] HpT)) := (Below.refl _ _).alloc (Nat.le_refl _) _
  have b4 := b3.trans (n4.mono b3.size)
  exact ⟨(a3.next n4).next n5, (r3.next n4).next n5, b4.trans (n5.mono b4.size), ⟨_, layLeaseS.next (layLeaseS.next o3 n4) n5⟩, ⟨VarA.new' W4 _ s4 HpT _, l4.below n5, fun p hp => (by cases hp), List.nodup_nil, fun p hp => (by cases hp), by omega⟩, fun c c0 cn => (by simp at cn), fun p hp => (by cases hp)⟩
theorem over_take (now : Int) (ls : List Ls) (j : Nat) (h : j < ls.length) : (ls.take (j + 1)).filter (fun l => !keepL now l) = (ls.take j).filter (fun l => !keepL now l) ++ if keepL now ls[j] then [] else [ls[j]] := by
  rw [filter_take _ ls j h]
  cases keepL now ls[j] <;> rfl

set_option maxRecDepth 100000 in
set_option maxHeartbeats 6400000 in
theorem implExpire_any (pa pn : Int) (lv fv : Value) (ls : List Ls) (fs : List Fx) (now : Int) (hl : ls.length ≤ 100000) (hfl : fs.length ≤ 2000000) (hA : AscL ls) (w : World) (h : PoolR w lv fv ls fs) :
    Calls Try.prog 7 #[.agg #[.int .i64 pa, .int .i64 pn, lv, fv], .int .i64 now] w (ExpEnd pa pn ls fs now w) := by
  obtain ⟨la, lc, rfl⟩ := rows_form h.leases
  obtain ⟨fa, fc, rfl⟩ := rows_form h.fixes
  obtain ⟨i0, hi, hz0, hsz0, hby0⟩ := info_of infoLease
  obtain ⟨i1, hi1, hz1, hsz1, hby1⟩ := info_of infoInt
  have HR := Lib.hid h
  have HA := Lib.hid hA
  clear h hA
  have I0 := Lib.hid (exI_new w pa pn (.slice la ls.length lc) (.slice fa fs.length fc))
  go_enter Try.func7, Try.ntmps7
  go_upto_region 2 with fail
  generalize ((((w.alloc (.cells #[.int .i64 pa, .int .i64 pn, .slice la ls.length lc, .slice fa fs.length fc] PoolT)).alloc (.cells #[.int .i64 0, .int .i64 0, .slice none 0 0, .slice none 0 0] PoolT)).alloc (.cells #[] LeaseT)).alloc (.cells #[] HoT)).alloc (.cells #[.slice (some ⟨w.heap.size + 1 + 1 + 1, 0, none⟩) 0 0] HpT) = X0 at *
  obtain ⟨b, HBB⟩ : ∃ b, Hid (b = w.heap.size + 1 + 1 + 1 + 1) := ⟨_, rfl⟩
  rw [← HBB.out] at I0 ⊢
  have c2 : X0.cell? ⟨w.heap.size, 2, none⟩ = some (.slice la ls.length lc) := I0.out.box.cell 2
  go_wp2_with fail
  go_loopw [6, 18] (fun o c wr => ∃ (k : Nat) (ka : Option Addr) (kc : Nat) (ks : List Ls) (nd : Nat → Hd) (v : Value) (ps : List Nat), k ≤ ls.length ∧ c = .int .i64 k ∧ o = .slice ka ks.length kc ∧ Hid (ks = keptP now (ls.take k)) ∧ Hid (LeasesIn nd ps ((ls.take k).filter fun l => !keepL now l)) ∧ Hid (ps.length ≤ k) ∧ ExI w pa pn (.slice la ls.length lc) (.slice fa fs.length fc) b (.slice ka ks.length kc) ks nd v ps wr) (fun _ c _ => ls.length - (intOf c).toNat)
  case atStart => exact ⟨0, _, _, [], _, _, [], Nat.zero_le _, rfl, rfl, rfl, fun l => by simp, Nat.le_refl _, I0.out⟩
  case round =>
    clear I0 c2
    obtain ⟨k, ka, kc, ks, nd, v, ps, hk, rfl, rfl, HKS, HLI, HPL, hI⟩ := hrel
    have HI := Lib.hid hI
    clear hI
    have hkl : ks.length ≤ 100000 := by have h1 := HKS.out; rw [h1]; exact Nat.le_trans (kept_len _ _) (by rw [List.length_take]; omega)
    by_cases hlt : k < ls.length
    · have hlt' : (k : Int) < (ls.length : Int) := by omega
      have hget : ls[k]? = some ls[k] := List.getElem?_eq_getElem hlt
      obtain ⟨g, off, rfl, hg, d0, d1, d2⟩ := lease_cells (layLeaseS.below HR.out.leases HI.out.below) k _ hget
      have HKT := Lib.hid (kept_take now ls k hlt)
      have HOT := Lib.hid (over_take now ls k hlt)
      generalize ls[k] = l at hget d0 d1 d2 HKT HOT
      obtain ⟨l0, l1, l2⟩ := l
      have HG := Lib.hid hget
      have I1 := Lib.hid (HI.out.next ((Below.refl _ wr).alloc (Nat.le_refl _) (.cells #[.int .i64 l0, .int .i64 l1, .int .i64 l2] LeaseT)))
      have Q1 := Lib.hid (VarA.new wr LeaseT #[.int .i64 l0, .int .i64 l1, .int .i64 l2])
      clear hget
      go_upto_region 5 with fail
      generalize wr.alloc (.cells #[.int .i64 l0, .int .i64 l1, .int .i64 l2] LeaseT) = V1 at *
      generalize wr.heap.size = gq at *
      have hs2 : w.heap.size + 2 ≤ V1.heap.size := by have := I1.out.res.lt; omega
      have q0 : V1.cell? ⟨gq, 0, none⟩ = some (.int .i64 l0) := Q1.out.cell 0
      have q1 : V1.cell? ⟨gq, 1, none⟩ = some (.int .i64 l1) := Q1.out.cell 1
      have q2 : V1.cell? ⟨gq, 2, none⟩ = some (.int .i64 l2) := Q1.out.cell 2
      by_cases hu : now < l2
      · have HK2 : Hid (keptP now (ls.take (k + 1)) = keptP now (ls.take k) ++ [(l0, l1, l2)]) := by
          show _ = _
          rw [HKT.out]
          unfold keepL
          simp [hu]
        have HO2 : Hid ((ls.take (k + 1)).filter (fun l => !keepL now l) = (ls.take k).filter (fun l => !keepL now l)) := by
          show _ = _
          rw [HOT.out]
          unfold keepL
          simp [hu]
        obtain ⟨f, hown⟩ := I1.out.own
        have HO1 := Lib.hid hown
        clear hown HKT HOT
        go_wp2_with (at_builtin; refine wpList_pushF V1 rfl _ _ 26 rfl (w.heap.size + 2) LeaseT i0 _ 24 layLease flatLease Try.underlying26 hi hz0 hsz0 hby0 rfl (by omega) (.slice ka ks.length kc) f ks (by rfl) HO1.out (l0, l1, l2) #[.int .i64 l0, .int .i64 l1, .int .i64 l2] (layLease_rd.2 rfl) (by rfl) (by omega) hs2 ?_; intro v1 w2 hown1 hnn1 hgr1 hbe1; obtain ⟨m1, mc1, rfl, hblk, _, _⟩ := flat_some flatLease hown1 hnn1)
        have I2 := Lib.hid (I1.out.stay hgr1 hbe1 ⟨_, hown1⟩)
        have hlr : (ks ++ [(l0, l1, l2)]).length = ks.length + 1 := by simp
        clear hown1 hnn1 hgr1 hbe1 hblk
        go_wp2_with fail
        go_roundw
        case rel => exact ⟨k + 1, some ⟨m1, 0, none⟩, mc1, ks ++ [(l0, l1, l2)], nd, v, ps, by omega, by go_num, by rw [hlr], by show _ = _; rw [HK2.out, HKS.out], by show LeasesIn _ _ _; rw [HO2.out]; exact HLI.out, by show _ ≤ _; have := HPL.out; omega, I2.out⟩
        case measure => simp [intOf]; omega
      · have HK2 : Hid (keptP now (ls.take (k + 1)) = keptP now (ls.take k)) := by
          show _ = _
          rw [HKT.out]
          unfold keepL
          simp [hu]
        have HO2 : Hid ((ls.take (k + 1)).filter (fun l => !keepL now l) = (ls.take k).filter (fun l => !keepL now l) ++ [(l0, l1, l2)]) := by
          show _ = _
          rw [HOT.out]
          unfold keepL
          simp [hu]
        have HPU := Lib.hid (put_any I1.out.heap l0 l1 l2 (fun p hp e => by
          have h1 := (List.mem_filter.1 ((HLI.out (nd p).1).2 ⟨p, hp, rfl⟩)).1
          have h2 := HA.out.before HG.out h1
          simp only [e] at h2
          omega) (by have := HPL.out; omega) hs2)
        clear HKT HOT
        go_wp2_with fail
        refine HPU.out.mono ?_
        rintro e W2 ⟨p, nd', v', qs, rfl, h1, h2, h3, h4, h5, h6, h7⟩
        have I2 := Lib.hid (I1.out.over h7 h1 hs2)
        have HLQ : Hid (LeasesIn nd' qs ((ls.take (k + 1)).filter fun l => !keepL now l)) := fun l => by
          rw [HO2.out, List.mem_append, List.mem_singleton, HLI.out l]
          constructor
          · rintro (⟨q, hq, e⟩ | rfl)
            · exact ⟨q, (h3 q).2 (.inl hq), by rw [h5 q hq]; exact e⟩
            · exact ⟨p, (h3 p).2 (.inr rfl), h4⟩
          · rintro ⟨q, hq, e⟩
            rcases (h3 q).1 hq with hq | rfl
            · exact .inl ⟨q, hq, by rw [← h5 q hq]; exact e⟩
            · exact .inr (e.symm.trans h4)
        have HQL : Hid (qs.length ≤ k + 1) := by show _ ≤ _; have := HPL.out; omega
        clear h1 h2 h3 h4 h5 h6 h7 HPU
        go_wp2_with fail
        go_roundw
        case rel => exact ⟨k + 1, ka, kc, ks, nd', v', qs, by omega, by go_num, rfl, by show _ = _; rw [HK2.out, HKS.out], HLQ, HQL, I2.out⟩
        case measure => simp [intOf]; omega
    · have hlt' : ¬ ((k : Int) < (ls.length : Int)) := by omega
      have hke : k = ls.length := by omega
      subst hke
      rw [List.take_length] at HKS HLI
      obtain ⟨T, HTT⟩ : ∃ T, Hid (T = ls.filter fun l => !keepL now l) := ⟨_, rfl⟩
      rw [← HTT.out] at HLI
      have HAT : Hid (AscL T) := by show AscL T; rw [HTT.out]; exact asc_filter HA.out _
      have HGN : Hid (goneP now ls = T.map fun l => l.2.1) := by show _ = _; rw [HTT.out]; rfl
      obtain ⟨ao, cap, rfl, -⟩ := HI.out.heap.hw.form
      have c0 : wr.cell? ⟨b, 0, none⟩ = some (.slice ao ps.length cap) := HI.out.heap.hw.var.cell 0
      have hpl : ps.length ≤ 100000 := by have := HPL.out; omega
      have hs1 : w.heap.size + 2 ≤ wr.heap.size := by have := HI.out.res.lt; omega
      go_wp2_with (at_make; refine wpList_make_own _ rfl _ _ 31 rfl (w.heap.size + 2) IntT i1 _ 1 Try.underlying31 hi1 hz1 hsz1 _ _ ps.length ps.length rfl rfl rfl (by rw [hby1]; omega) (by unfold maxLen; omega) hs1 ?_; intro Z1 hO1 hG1)
      have hbz : Below wr.heap.size wr Z1 := below_grown hG1 (fun k h => by cases h) (Nat.le_refl _)
      have IZ := Lib.hid (HI.out.next hbz)
      have OZ : Hid (∃ f, layIntS.own Z1 (w.heap.size + 2) f [.slice (some ⟨wr.heap.size, 0, none⟩) 0 ps.length] []) := ⟨_, flat_own flatInt hO1 rfl⟩
      have hsz : w.heap.size + 2 ≤ Z1.heap.size := by have := hbz.size; omega
      generalize wr.heap.size = gi at *
      clear hO1 hG1 hbz c0
      go_wp2_with fail
      refine (heapTold_any IZ.out.heap T HLI.out HAT.out hpl hsz).mono ?_
      rintro e Z2 ⟨tv, ft, rfl, hto, hc⟩
      obtain ⟨ta, tc, rfl⟩ := rows_form (layLeaseS.read hto)
      have hbt := hc.below IZ.out.heap.hw.vb hsz
      have J2 : Hid (ExJ w pa pn (.slice la ls.length lc) (.slice fa fs.length fc) (.slice ka ks.length kc) (.slice ta T.length tc) ks T (.slice (some ⟨gi, 0, none⟩) 0 ps.length) [] Z2) :=
        ⟨IZ.out.box.next' hbt (by omega), IZ.out.res.next' hbt (by omega), IZ.out.below.trans (hbt.mono (by omega)), IZ.out.own.imp fun _ h1 => row_hchg flatLease h1 IZ.out.heap.hw.var hc (by decide) (by decide), ⟨ft, layLeaseS.lower hto hsz⟩, OZ.out.imp fun _ h1 => row_hchg flatInt h1 IZ.out.heap.hw.var hc (by decide) (by decide)⟩
      have htl : T.length ≤ 100000 := by have h1 := HTT.out; rw [h1]; exact Nat.le_trans (List.length_filter_le _ _) hl
      clear hto hc hbt IZ OZ HI HLI hsz hs1
      go_wp2_with fail
      go_loopw [10, 38] (fun o c wv => ∃ (j : Nat) (ga : Option Addr) (gc : Nat) (gs : List Int), j ≤ T.length ∧ c = .int .i64 j ∧ o = .slice ga gs.length gc ∧ Hid (gs = (T.take j).map fun l => l.2.1) ∧ ExJ w pa pn (.slice la ls.length lc) (.slice fa fs.length fc) (.slice ka ks.length kc) (.slice ta T.length tc) ks T (.slice ga gs.length gc) gs wv) (fun _ c _ => T.length - (intOf c).toNat)
      case atStart => exact ⟨0, _, _, [], Nat.zero_le _, rfl, rfl, rfl, J2.out⟩
      case round =>
        clear J2
        obtain ⟨j, ga, gc, gs, hj, rfl, rfl, HGS, hJ⟩ := hrel
        have HJ := Lib.hid hJ
        clear hJ
        have hgl : gs.length ≤ 100000 := by have h1 := HGS.out; rw [h1, List.length_map, List.length_take]; omega
        by_cases hjt : j < T.length
        · have hjt' : (j : Int) < (T.length : Int) := by omega
          have hget : T[j]? = some T[j] := List.getElem?_eq_getElem hjt
          obtain ⟨ft, hto⟩ := HJ.out.told
          obtain ⟨g, off, rfl, hg, d0, d1, d2⟩ := lease_cells (layLeaseS.read hto) j _ hget
          have HTK : Hid ((T.take (j + 1)).map (fun l => l.2.1) = (T.take j).map (fun l => l.2.1) ++ [T[j].2.1]) := by
            show _ = _
            rw [List.take_add_one, hget, List.map_append]
            rfl
          generalize T[j] = l at hget d0 d1 d2 HTK
          obtain ⟨l0, l1, l2⟩ := l
          have J1 := Lib.hid (HJ.out.next ((Below.refl _ wr).alloc (Nat.le_refl _) (.cells #[.int .i64 l0, .int .i64 l1, .int .i64 l2] LeaseT)))
          have Q1 := Lib.hid (VarA.new wr LeaseT #[.int .i64 l0, .int .i64 l1, .int .i64 l2])
          clear hget hto
          go_upto_region 13 with fail
          generalize wr.alloc (.cells #[.int .i64 l0, .int .i64 l1, .int .i64 l2] LeaseT) = V1 at *
          generalize wr.heap.size = gq at *
          have q1 : V1.cell? ⟨gq, 1, none⟩ = some (.int .i64 l1) := Q1.out.cell 1
          obtain ⟨f, hown⟩ := J1.out.own
          have HO1 := Lib.hid hown
          have hs2 : w.heap.size + 2 ≤ V1.heap.size := by have := J1.out.res.lt; omega
          clear hown
          go_wp2_with (at_builtin; refine wpList_pushF V1 rfl _ _ 31 rfl (w.heap.size + 2) IntT i1 _ 8 Lay.int flatInt Try.underlying31 hi1 hz1 hsz1 hby1 rfl (by omega) (.slice ga gs.length gc) f gs (by rfl) HO1.out l1 #[.int .i64 l1] (int_rd.2 rfl) (by rfl) (by omega) hs2 ?_; intro v1 w2 hown1 hnn1 hgr1 hbe1; obtain ⟨m1, mc1, rfl, hblk, _, _⟩ := flat_some flatInt hown1 hnn1)
          have J2 := Lib.hid (J1.out.more hgr1 hbe1 ⟨_, hown1⟩)
          have hlr : (gs ++ [l1]).length = gs.length + 1 := by simp
          clear hown1 hnn1 hgr1 hbe1 hblk
          go_wp2_with fail
          go_roundw
          case rel => exact ⟨j + 1, some ⟨m1, 0, none⟩, mc1, gs ++ [l1], by omega, by go_num, by rw [hlr], by show _ = _; rw [HTK.out, HGS.out], J2.out⟩
          case measure => simp [intOf]; omega
        · have hjt' : ¬ ((j : Int) < (T.length : Int)) := by omega
          have hje : j = T.length := by omega
          subst hje
          rw [List.take_length, ← HGN.out] at HGS
          have s0 : wr.cell? ⟨w.heap.size, 0, none⟩ = some (.int .i64 pa) := HJ.out.box.cell 0
          have s1 : wr.cell? ⟨w.heap.size, 1, none⟩ = some (.int .i64 pn) := HJ.out.box.cell 1
          have s2 : wr.cell? ⟨w.heap.size, 2, none⟩ = some (.slice la ls.length lc) := HJ.out.box.cell 2
          have s3 : wr.cell? ⟨w.heap.size, 3, none⟩ = some (.slice fa fs.length fc) := HJ.out.box.cell 3
          go_wp2_with fail
          refine (poolWith_any pa pn la ls.length lc _ fs ka ks.length kc (by omega) wr (layFixedS.below HR.out.fixes HJ.out.below)).mono ?_
          rintro e W2 ⟨k, kc2, rfl, hfo, hb6⟩
          have J3 := HJ.out.next hb6
          have R6 := J3.res
          have m0 : W2.cell? ⟨w.heap.size + 1, 0, none⟩ = some (.int .i64 0) := R6.cell 0
          have m1 : W2.cell? ⟨w.heap.size + 1, 1, none⟩ = some (.int .i64 0) := R6.cell 1
          have m2 : W2.cell? ⟨w.heap.size + 1, 2, none⟩ = some (.slice none 0 0) := R6.cell 2
          have m3 : W2.cell? ⟨w.heap.size + 1, 3, none⟩ = some (.slice none 0 0) := R6.cell 3
          have n0 := R6.free 0
          have n1 := R6.free 1
          have n2 := R6.free 2
          have n3 := R6.free 3
          have RS := (((R6.set 0 (.int .i64 pa)).set 1 (.int .i64 pn)).set 2 (.slice ka ks.length kc)).set 3 (.slice (some ⟨k, 0, none⟩) fs.length kc2)
          have j0 := RS.cell 0
          have j1 := RS.cell 1
          have j2 := RS.cell 2
          have j3 := RS.cell 3
          have HE := Lib.hid (out_four (w := w) (pa := pa) (pn := pn) (Nat.le_succ _) R6 (J3.left.imp fun _ h1 => layLeaseS.lower h1 (by omega)) ⟨_, layFixedS.lower hfo HJ.out.below.size⟩ J3.below)
          have HI6 : Hid (∃ f, layIntS.own ((((W2.setCell ⟨w.heap.size + 1, 0, none⟩ (.int .i64 pa)).setCell ⟨w.heap.size + 1, 1, none⟩ (.int .i64 pn)).setCell ⟨w.heap.size + 1, 2, none⟩ (.slice ka ks.length kc)).setCell ⟨w.heap.size + 1, 3, none⟩ (.slice (some ⟨k, 0, none⟩) fs.length kc2)) w.heap.size f [.slice ga gs.length gc] gs) := by
            obtain ⟨f, hf⟩ := J3.own
            have h1 := row_off flatInt hf R6 (by decide)
            exact ⟨f, layIntS.lower (layIntS.chg hf (chg_four W2 (w.heap.size + 1) (.int .i64 pa) (.int .i64 pn) (.slice ka ks.length kc) (.slice (some ⟨k, 0, none⟩) fs.length kc2)) (fun j hj hj2 => by rw [List.mem_singleton] at hj2; subst hj2; exact h1 hj)) (by omega)⟩
          have HGE : Hid (gs = goneP now ls) := HGS
          have HKE : Hid (ks = keptP now ls) := HKS
          clear RS R6 J3 hfo hb6 HGS HKS
          go_wp2_with fail
          refine bodyPost_ret (v := .tuple #[.agg #[.int .i64 pa, .int .i64 pn, .slice ka ks.length kc, .slice (some ⟨k, 0, none⟩) fs.length kc2], .slice ga gs.length gc]) (by simp [results, Try.results7, go_sem, j0, j1, j2, j3]) rfl ?_
          exact ⟨_, _, _, rfl, by rw [← HGE.out]; exact HI6.out, by rw [← HKE.out]; exact HE.out⟩

end Go.Proofs.Ytphmomlgmnllkad
