/-
  The program's heap: made of a list, and told in order.
-/
import Derived.Test.YtphmomlgmnllkaqJ24
namespace Go.Proofs.Ytphmomlgmnllkaq
open Go.RowKit

/-- The leases of a heap. -/
def LeasesIn (nd : Nat → Hd) (ps : List Nat) (L : List Ls) : Prop := ∀ l, l ∈ L ↔ ∃ p ∈ ps, (nd p).1 = l
/-- Ascending by address. -/
abbrev AscL (ls : List Ls) : Prop := ls.Pairwise fun x y => x.1 < y.1
theorem AscL.one {l m : List Ls} (h : AscL l) (k : AscL m) (e : ∀ x, x ∈ l ↔ x ∈ m) : l = m := asc_one (R := fun x y : Ls => x.1 < y.1) (fun _ => Int.lt_irrefl _) (fun h1 h2 => Int.lt_trans h1 h2) h k e
theorem AscL.before {ls : List Ls} (h : AscL ls) {k : Nat} {l : Ls} (hk : ls[k]? = some l) {x : Ls} (hx : x ∈ ls.take k) : x.1 < l.1 := by
  obtain ⟨lk, e⟩ := List.getElem?_eq_some_iff.1 hk
  obtain ⟨j, hj⟩ := List.mem_iff_getElem?.1 hx
  have lj := (List.getElem?_eq_some_iff.1 hj).1
  rw [List.length_take] at lj
  rw [List.getElem?_take, if_pos (by omega)] at hj
  obtain ⟨lj2, e2⟩ := List.getElem?_eq_some_iff.1 hj
  rw [← e, ← e2]
  exact List.pairwise_iff_getElem.1 h j k lj2 lk (by omega)
theorem take_more {α : Type} {ls : List α} {k : Nat} {l : α} (hk : ls[k]? = some l) (x : α) : x ∈ ls.take (k + 1) ↔ x ∈ ls.take k ∨ x = l := by
  obtain ⟨lk, e⟩ := List.getElem?_eq_some_iff.1 hk
  rw [List.take_add_one, hk]
  simp

/-- What heapOf leaves. -/
def HeapOfGives (w : World) (ls : List Ls) (e : Ending) (w' : World) : Prop := ∃ (b : Nat) (nd : Nat → Hd) (v : Value) (ps : List Nat), e = .returned v ∧ HeapP w' w.heap.size b nd v ps ∧ LeasesIn nd ps ls ∧ ps.length = ls.length ∧ Below w.heap.size w w'

set_option maxRecDepth 100000 in
set_option maxHeartbeats 1600000 in
theorem heapOf_any (lv : Value) (ls : List Ls) (w : World) (h : layLeaseS.rd w [lv] ls) (hl : ls.length ≤ 100000) (hd : AscL ls) :
    Calls Try.prog 29 #[lv] w (HeapOfGives w ls) := by
  obtain ⟨la, lc, rfl⟩ := rows_form h
  have e1 : (w.alloc (.cells #[] HoT)).heap.size = w.heap.size + 1 := by simp
  have hB0 : Below w.heap.size w ((w.alloc (.cells #[] HoT)).alloc (.cells #[.slice (some ⟨w.heap.size, 0, none⟩) 0 0] HpT)) := ((Below.refl _ w).alloc (Nat.le_refl _) _).alloc (by simp) _
  have hv0 := VarA.new (w.alloc (.cells #[] HoT)) HpT #[.slice (some ⟨w.heap.size, 0, none⟩) 0 0]
  rw [e1] at hv0
  have P0 : Hid (HeapP ((w.alloc (.cells #[] HoT)).alloc (.cells #[.slice (some ⟨w.heap.size, 0, none⟩) 0 0] HpT)) w.heap.size (w.heap.size + 1) (fun _ => ((0, 0, 0), 0)) (.slice (some ⟨w.heap.size, 0, none⟩) 0 0) []) :=
    ⟨⟨hv0, (OwnR.lit w _ HoT (Nat.le_refl _)).alloc _, fun p hp => (by cases hp), List.nodup_nil, fun p hp => (by cases hp), by omega⟩, fun c c0 cn => (by simp at cn), fun p hp => (by cases hp)⟩
  have HB0 := Lib.hid hB0
  have HR := Lib.hid h
  have HD := Lib.hid hd
  clear h hd hB0 hv0 e1
  go_enter Try.func29, Try.ntmps29
  go_upto_region 2 with fail
  generalize (w.alloc (.cells #[] HoT)).alloc (.cells #[.slice (some ⟨w.heap.size, 0, none⟩) 0 0] HpT) = X0 at *
  obtain ⟨b, HBB⟩ : ∃ b, Hid (b = w.heap.size + 1) := ⟨_, rfl⟩
  rw [← HBB.out] at P0 ⊢
  go_wp2_with fail
  go_loopw [9] (fun c wr => ∃ (k : Nat) (nd : Nat → Hd) (v : Value) (ps : List Nat), k ≤ ls.length ∧ c = .int .i64 k ∧ HeapP wr w.heap.size b nd v ps ∧ Hid (LeasesIn nd ps (ls.take k)) ∧ Hid (ps.length = k) ∧ Below w.heap.size w wr) (fun c _ => ls.length - (intOf c).toNat)
  case atStart => exact ⟨0, _, _, [], Nat.zero_le _, rfl, P0.out, fun l => by simp, rfl, HB0.out⟩
  case round =>
    clear P0 HB0
    obtain ⟨k, nd, v, ps, hk, rfl, hP, HLI, HPL, hB⟩ := hrel
    have HP := Lib.hid hP
    have HB := Lib.hid hB
    clear hP hB
    by_cases hlt : k < ls.length
    · have hlt' : (k : Int) < (ls.length : Int) := by omega
      have hget : ls[k]? = some ls[k] := List.getElem?_eq_getElem hlt
      have hR := layLeaseS.below HR.out HB.out
      obtain ⟨g, off, rfl, hg, d0, d1, d2⟩ := lease_cells hR k _ hget
      generalize ls[k] = l at hget d0 d1 d2
      obtain ⟨l0, l1, l2⟩ := l
      have HG := Lib.hid hget
      have hsz := HB.out.size
      have HP1 := Lib.hid (HP.out.next ((Below.refl _ wr).alloc (Nat.le_refl _) (.cells #[.int .i64 l0, .int .i64 l1, .int .i64 l2] LeaseT)))
      have HB1 := Lib.hid (HB.out.alloc (o := .cells #[.int .i64 l0, .int .i64 l1, .int .i64 l2] LeaseT) hsz)
      have HPU := Lib.hid (put_any HP1.out l0 l1 l2 (fun p hp e => by
        have h1 := (HLI.out (nd p).1).2 ⟨p, hp, rfl⟩
        have h2 := HD.out.before HG.out h1
        simp only [e] at h2
        omega) (by have := HPL.out; omega) (by simp; omega))
      clear hR hget
      go_wp2_with fail
      refine HPU.out.mono ?_
      rintro e W2 ⟨p, nd', v', qs, rfl, h1, h2, h3, h4, h5, h6, h7⟩
      have HQ := Lib.hid h1
      have HLQ : Hid (LeasesIn nd' qs (ls.take (k + 1))) := fun l => by
        rw [take_more HG.out, HLI.out l]
        constructor
        · rintro (⟨q, hq, e⟩ | rfl)
          · exact ⟨q, (h3 q).2 (.inl hq), by rw [h5 q hq]; exact e⟩
          · exact ⟨p, (h3 p).2 (.inr rfl), h4⟩
        · rintro ⟨q, hq, e⟩
          rcases (h3 q).1 hq with hq | rfl
          · exact .inl ⟨q, hq, by rw [← h5 q hq]; exact e⟩
          · exact .inr (e.symm.trans h4)
      have HQL : Hid (qs.length = k + 1) := by show _ = _; rw [h2, HPL.out]
      have HB2 := Lib.hid (HB1.out.trans (h7.below (by have := HBB.out; omega) (by simp; omega)))
      clear h1 h2 h3 h4 h5 h6 h7 HPU
      go_wp2_with fail
      go_roundw
      case rel => exact ⟨k + 1, nd', v', qs, by omega, by go_num, HQ.out, HLQ, HQL, HB2.out⟩
      case measure => simp [intOf]; omega
    · have hlt' : ¬ ((k : Int) < (ls.length : Int)) := by omega
      have hke : k = ls.length := by omega
      subst hke
      rw [List.take_length] at HLI
      have c0 : wr.cell? ⟨b, 0, none⟩ = some v := HP.out.hw.var.cell 0
      go_wp2_with fail
      go_ret
      exact ⟨b, nd, v, ps, rfl, HP.out, HLI.out, HPL.out, HB.out⟩

/-- How long the slice of a variable is. -/
def lenAt (w : World) (b : Nat) : Nat := match w.cell? ⟨b, 0, none⟩ with
  | some (.slice _ n _) => n
  | _ => 0
theorem lease_hchg {w w' : World} {base b B : Nat} {f : List Nat} {v x : Value} {rs : List Ls} (h : layLeaseS.own w B f [v] rs) (hv : VarA b HpT #[x] w) (hc : HChg base b w w') : layLeaseS.own w' B f [v] rs := by
  have h1 := row_off flatLease h hv (by decide)
  obtain ⟨us, ho, _, rfl⟩ := flat_inv flatLease h
  refine layLeaseS.keep h fun g hg => ?_
  refine hc.block g (layLeaseS.blocks h g hg).2 (fun e => h1 (by rw [← e]; exact hg)) (.inr fun cs fr e => ?_)
  rcases ho.2 with ⟨rfl, _⟩ | ⟨g', cap, cur, rfl, _, hb, _⟩
  · simp [blk, Value.ownBlock] at hg
  · have : g = g' := by simpa [blk, Value.ownBlock] using hg
    subst this
    rw [hb] at e
    injection e with e
    injection e with _ e
    exact absurd e (by decide)
theorem HeapW.grownL {w w' : World} {base b : Nat} {nd : Nat → Hd} {v : Value} {ps : List Nat} {B : Nat} {f : List Nat} {x : Value} {rs : List Ls} (h : HeapW w base b nd v ps) (hl : layLeaseS.own w B f [x] rs) (hg : w.grownBy w' x.ownBlock) : HeapW w' base b nd v ps := by
  have hc := chg_grown hg
  obtain ⟨us, ho, _, rfl⟩ := flat_inv flatLease hl
  have hv : ∀ {r : Nat} {t : TypeId} {cs : Array Value}, VarA r t cs w → t ≠ LeaseT → r ∉ blk x := fun hr ht => row_off flatLease hl hr ht
  refine ⟨h.var.chg hc (hv h.var (by decide)), h.row.chgR hc (fun g hg2 hg3 => ?_), fun p hp => (h.node p hp).chg hc (hv (h.node p hp) (by decide)), h.dup, h.own, h.vb⟩
  obtain ⟨_, cs, h2⟩ := h.typed hg2
  rcases ho.2 with ⟨rfl, _⟩ | ⟨g', cap, cur, rfl, _, hb, _⟩
  · simp [blk, Value.ownBlock] at hg3
  · have : g = g' := by simpa [blk, Value.ownBlock] using hg3
    subst this
    rw [hb] at h2
    injection h2 with h2
    injection h2 with _ h2
    exact absurd h2 (by decide)
theorem grown_hchg {w w' : World} {base b B : Nat} {f : List Nat} {x : Value} {rs : List Ls} (hl : layLeaseS.own w B f [x] rs) (hg : w.grownBy w' x.ownBlock) (W : World) (hW : W.heap.size ≤ B) (hC : HChg base b W w) : HChg base b W w' := by
  obtain ⟨us, ho, _, rfl⟩ := flat_inv flatLease hl
  refine ⟨hg.os.trans hC.os, hg.tape.trans hC.tape, hg.output.trans hC.output, Nat.le_trans hC.size hg.size, fun g hg1 hg2 hg3 => ?_⟩
  rw [← hC.block g hg1 hg2 hg3]
  refine hg.block g (Nat.lt_of_lt_of_le hg1 hC.size) fun e => ?_
  have := (World.ownsRow.lt ho g e.symm).1
  omega

/-- What told leaves. -/
def ToldGives (w : World) (base b : Nat) (T : List Ls) (e : Ending) (w' : World) : Prop := ∃ lu f, e = .returned lu ∧ layLeaseS.own w' w.heap.size f [lu] T ∧ HChg base b w w'
/-- While leases are told: those told, those left. -/
structure ToldI (w : World) (base b : Nat) (nd : Nat → Hd) (T : List Ls) (va : Option Addr) (vc : Nat) (rs : List Ls) (X : World) (v : Value) (ps : List Nat) : Prop where
  heap : HeapP X base b nd v ps
  own : ∃ f, layLeaseS.own X w.heap.size f [.slice va rs.length vc] rs
  asc : AscL rs
  less : ∀ l ∈ rs, ∀ p ∈ ps, l.1 < (nd p).1.1
  all : ∀ l, l ∈ T ↔ l ∈ rs ∨ ∃ p ∈ ps, (nd p).1 = l
  few : rs.length + ps.length ≤ 100000
  chg : HChg base b w X

set_option maxRecDepth 100000 in
set_option maxHeartbeats 1600000 in
theorem heapTold_any {base b : Nat} {nd : Nat → Hd} {v : Value} {ps : List Nat} {w : World} (H : HeapP w base b nd v ps) (T : List Ls) (hT : LeasesIn nd ps T) (hA : AscL T) (hl : ps.length ≤ 100000) (_hbs : base ≤ w.heap.size) :
    Calls Try.prog 34 #[.pointer (some ⟨b, 0, none⟩)] w (ToldGives w base b T) := by
  obtain ⟨ao, cap, rfl, -⟩ := H.hw.form
  obtain ⟨i0, hi, hz0, hsz0, hby0⟩ := info_of infoLease
  have c0 : w.cell? ⟨b, 0, none⟩ = some (.slice ao ps.length cap) := H.hw.var.cell 0
  have H0 := Lib.hid H
  have HT := Lib.hid hT
  have HA := Lib.hid hA
  have hta := assert_ho
  clear H hT hA
  go_enter Try.func34, Try.ntmps34
  go_wp2_with (at_make; refine wpList_make_own _ rfl _ _ 30 rfl w.heap.size LeaseT i0 _ 3 Try.underlying30 hi hz0 hsz0 _ _ ps.length ps.length rfl rfl rfl (by rw [hby0]; omega) (by unfold maxLen; omega) (Nat.le_refl _) ?_; intro X1 hO1 hG1)
  have T1 : Hid (ToldI w base b nd T (some ⟨w.heap.size, 0, none⟩) ps.length [] X1 (.slice ao ps.length cap) ps) := by
    have hb : Below w.heap.size w X1 := below_grown hG1 (fun k h => by cases h) (Nat.le_refl _)
    exact ⟨H0.out.next hb, ⟨_, flat_own flatLease hO1 rfl⟩, List.Pairwise.nil, fun l h => (by cases h), fun l => by rw [HT.out l]; simp, by simpa using hl, Below.hchg hb base b⟩
  clear hO1 hG1 c0 H0 HT
  go_loopw [3] (fun o wr => ∃ (va : Option Addr) (vc : Nat) (rs : List Ls) (v : Value) (ps : List Nat), o = .slice va rs.length vc ∧ ToldI w base b nd T va vc rs wr v ps) (fun _ wr => lenAt wr b)
  case atStart => exact ⟨_, _, [], _, ps, rfl, T1.out⟩
  case round =>
    clear T1 hl
    obtain ⟨va, vc, rs, v, ps, rfl, hI⟩ := hrel
    have HI := Lib.hid hI
    clear hI
    obtain ⟨ao, cap, rfl, -⟩ := HI.out.heap.hw.form
    have hfew := HI.out.few
    have c0 : wr.cell? ⟨b, 0, none⟩ = some (.slice ao ps.length cap) := HI.out.heap.hw.var.cell 0
    have HLA : Hid (lenAt wr b = ps.length) := by show _ = _; unfold lenAt; rw [c0]
    by_cases hlt : 0 < ps.length
    · have hlt' : (0 : Int) < (ps.length : Int) := by omega
      obtain ⟨n, hn⟩ : ∃ n, ps.length = n + 1 := ⟨ps.length - 1, by omega⟩
      have hget : ps[0]? = some ps[0] := List.getElem?_eq_getElem hlt
      have hmem : ps[0] ∈ ps := List.getElem_mem hlt
      have HPO := Lib.hid (heapPop_any HI.out.heap.hw n _ hn hget (by omega) HI.out.heap.one (by rw [← hn]; exact HI.out.heap.heap))
      have HLE : Hid (∀ q ∈ ps, q ≠ ps[0] → (nd ps[0]).1.1 < (nd q).1.1) := fun q hq hne => by
        obtain ⟨j, hj⟩ := List.mem_iff_getElem?.1 hq
        have h1 := HI.out.heap.heap.least j (List.getElem?_eq_some_iff.1 hj).1
        rw [keyL_get _ hget, keyL_get _ hj] at h1
        have h2 : keyN nd ps[0] ≠ keyN nd q := fun e => hne (HI.out.heap.one _ hmem _ hq e).symm
        unfold keyN at h1 h2
        omega
      have HN := Lib.hid (HI.out.heap.hw.node _ hmem)
      have HMM := Lib.hid hmem
      have HNN := Lib.hid hn
      generalize ps[0] = p at *
      obtain ⟨l0, l1, l2, l3, HND⟩ : ∃ l0 l1 l2 l3, Hid (nd p = ((l0, l1, l2), l3)) := ⟨_, _, _, _, rfl⟩
      clear hget hmem hn
      go_wp2_with fail
      refine HPO.out.mono ?_
      rintro e W1 ⟨rfl, v', qs, q1, q2, q3, q4, q5⟩
      have hN1 := HN.out.hchg q5 (fun e => var_off HN.out HI.out.heap.hw.var (by decide) e) (by decide)
      rw [HND.out] at hN1
      have d0 : W1.cell? ⟨p, 0, none⟩ = some (.int .i64 l0) := hN1.cell 0
      have d1 : W1.cell? ⟨p, 1, none⟩ = some (.int .i64 l1) := hN1.cell 1
      have d2 : W1.cell? ⟨p, 2, none⟩ = some (.int .i64 l2) := hN1.cell 2
      obtain ⟨f, hown⟩ := HI.out.own
      have HO1 := Lib.hid (lease_hchg hown HI.out.heap.hw.var q5)
      have C1 := Lib.hid (HI.out.chg.trans q5)
      have hs1 : w.heap.size ≤ W1.heap.size := C1.out.size
      have Q1 := Lib.hid q1
      have Q2 := Lib.hid q2
      have Q3 := Lib.hid q3
      have Q4 := Lib.hid q4
      clear q1 q2 q3 q4 q5 hN1 hown HPO c0
      go_wp2_with (at_builtin; refine wpList_pushF W1 rfl _ _ 30 rfl w.heap.size LeaseT i0 _ 24 layLease flatLease Try.underlying30 hi hz0 hsz0 hby0 rfl (by omega) (.slice va rs.length vc) f rs (by rfl) HO1.out (l0, l1, l2) #[.int .i64 l0, .int .i64 l1, .int .i64 l2] (layLease_rd.2 rfl) (by rfl) (by omega) hs1 ?_; intro v1 w2 hown1 hnn1 hgr1 hbe1; obtain ⟨m1, mc1, rfl, hblk, _, _⟩ := flat_some flatLease hown1 hnn1)
      have hq2 := Q1.out.grownL HO1.out hgr1
      have hql : qs.length = n := Q2.out
      have hpn : ps.length = n + 1 := HNN.out
      have HLA2 : Hid (lenAt w2 b = n) := by
        obtain ⟨ao2, cap2, rfl, -⟩ := hq2.form
        have c2 := hq2.var.cell 0
        show _ = _
        unfold lenAt
        rw [c2]
        exact hql
      have NEW : Hid (ToldI w base b nd T (some ⟨m1, 0, none⟩) mc1 (rs ++ [(l0, l1, l2)]) w2 v' qs) := by
        refine ⟨⟨hq2, by rw [hql]; exact Q4.out, HI.out.heap.one.sub (fun x hx => ((Q3.out x).1 hx).1)⟩, ⟨_, hown1⟩, ?_, ?_, fun l => ?_, ?_, grown_hchg HO1.out hgr1 w (Nat.le_refl _) C1.out⟩
        · refine List.pairwise_append.2 ⟨HI.out.asc, List.pairwise_singleton _ _, fun x hx y hy => ?_⟩
          rw [List.mem_singleton] at hy
          subst hy
          have := HI.out.less x hx p HMM.out
          rw [HND.out] at this
          exact this
        · intro l hl q hq
          have h1 := (Q3.out q).1 hq
          rcases List.mem_append.1 hl with hl | hl
          · exact HI.out.less l hl q h1.1
          · rw [List.mem_singleton] at hl
            subst hl
            have := HLE.out q h1.1 h1.2
            rw [HND.out] at this
            exact this
        · rw [HI.out.all l]
          constructor
          · rintro (h | ⟨q, hq, e⟩)
            · exact .inl (by simp [h])
            · by_cases hqp : q = p
              · subst hqp
                rw [HND.out] at e
                exact .inl (by simp [← e])
              · exact .inr ⟨q, (Q3.out q).2 ⟨hq, hqp⟩, e⟩
          · rintro (h | ⟨q, hq, e⟩)
            · rcases List.mem_append.1 h with h | h
              · exact .inl h
              · rw [List.mem_singleton] at h
                exact .inr ⟨p, HMM.out, by rw [HND.out, h]⟩
            · exact .inr ⟨q, ((Q3.out q).1 hq).1, e⟩
        · rw [List.length_append]
          simp
          omega
      have hlr : (rs ++ [(l0, l1, l2)]).length = rs.length + 1 := by simp
      clear hq2 hown1 hnn1 hgr1 hbe1 hblk
      go_wp2_with fail
      go_roundw
      case rel => exact ⟨_, _, rs ++ [(l0, l1, l2)], v', qs, by rw [hlr], NEW.out⟩
      case measure => have h1 := HLA.out; have h2 := HLA2.out; rw [h1, h2]; omega
    · have hlt' : ¬ ((0 : Int) < (ps.length : Int)) := by omega
      have hps : ps = [] := List.length_eq_zero_iff.1 (by omega)
      have HRT : Hid (rs = T) := HI.out.asc.one HA.out (fun x => by rw [HI.out.all x, hps]; simp)
      go_wp2_with fail
      go_ret
      obtain ⟨f, hown⟩ := HI.out.own
      exact ⟨_, f, rfl, by rw [← HRT.out]; exact hown, HI.out.chg⟩

end Go.Proofs.Ytphmomlgmnllkaq
