/-
  The heap's Push and Pop; container/heap's Push, Pop and Remove over it.
-/
import Derived.Test.YtphmomlgmnllkaqJ09
import Derived.Deep.RegionLaw
namespace Go.Proofs.Ytphmomlgmnllkaq
open Go.RowKit

/-- The variable b and rows of pointers of the call's own alone are changed. -/
structure HChg (base b : Nat) (w w' : World) : Prop where
  os : w'.os = w.os
  tape : w'.tape = w.tape
  output : w'.output = w.output
  size : w.heap.size ≤ w'.heap.size
  block : ∀ g, g < w.heap.size → g ≠ b → (g < base ∨ ∀ cs fr, w.heap[g]? ≠ some (.cells cs HoT fr)) → w'.heap[g]? = w.heap[g]?
section
variable {base b : Nat} {w w1 w2 : World} {nd : Nat → Hd} {v : Value} {ps : List Nat}
theorem HChg.refl (base b : Nat) (w : World) : HChg base b w w := ⟨rfl, rfl, rfl, Nat.le_refl _, fun _ _ _ _ => rfl⟩
theorem HChg.trans (h : HChg base b w w1) (k : HChg base b w1 w2) : HChg base b w w2 :=
  ⟨k.os.trans h.os, k.tape.trans h.tape, k.output.trans h.output, Nat.le_trans h.size k.size, fun g hg hb ho => by
    have e := h.block g hg hb ho
    rw [← e]
    refine k.block g (Nat.lt_of_lt_of_le hg h.size) hb ?_
    rw [e]
    exact ho⟩
theorem HChg.below (h : HChg base b w w1) (hb : base ≤ b) (hs : base ≤ w.heap.size) : Below base w w1 := ⟨h.os, h.tape, h.output, h.size, fun g hg => h.block g (by omega) (by omega) (.inl hg)⟩
theorem Below.hchg (h : Below w.heap.size w w1) (base b : Nat) : HChg base b w w1 := ⟨h.os, h.tape, h.output, h.size, fun g hg _ _ => h.block g hg⟩
theorem HeapW.typed (h : HeapW w base b nd v ps) {g : Nat} (hg : g ∈ blk v) : base ≤ g ∧ ∃ cs, w.heap[g]? = some (.cells cs HoT (0, 0)) := by
  unfold blk at hg
  rcases h.row.2 with ⟨rfl, _⟩ | ⟨g', cap, cur, rfl, hb, hc, _⟩
  · simp [Value.ownBlock] at hg
  · simp [Value.ownBlock] at hg
    subst hg
    exact ⟨hb, cur, hc⟩
theorem HeapW.hchg (h : HeapW w base b nd v ps) (hc : Chg (b :: blk v) w w1) : HChg base b w w1 :=
  ⟨hc.os, hc.tape, hc.output, hc.size, fun g hg hb ho => hc.block g hg fun e => by
    rcases List.mem_cons.1 e with e | e
    · exact hb e
    · obtain ⟨h1, cs, h2⟩ := h.typed e
      rcases ho with ho | ho
      · omega
      · exact ho cs (0, 0) h2⟩
theorem VarA.hchg {r : Nat} {t : TypeId} {cs : Array Value} (h : VarA r t cs w) (hc : HChg base b w w1) (hr : r ≠ b) (ht : t ≠ HoT) : VarA r t cs w1 :=
  ⟨(hc.block r h.lt hr (.inr fun cs' fr e => by rw [h.row] at e; injection e with e; injection e with _ e; exact ht e)).trans h.row⟩
end

theorem chg_grown {w w' : World} {v : Value} (h : w.grownBy w' v.ownBlock) : Chg (blk v) w w' := Chg.grown h (blk v) (fun k hk => by unfold blk; rw [hk]; simp)

/-- A row that is cut at its end. -/
theorem OwnR.cut {α : Type} {R : Rec α} {w : World} {base : Nat} {e : TypeId} {g n cap : Nat} {l : List α} (h : OwnR R w base e (.slice (some ⟨g, 0, none⟩) n cap) l) (m : Nat) (hm : m ≤ l.length) : OwnR R w base e (.slice (some ⟨g, 0, none⟩) m cap) (l.take m) := by
  have e1 : (l.take m).length = m := by rw [List.length_take]; omega
  unfold OwnR
  rw [e1]
  refine ⟨by rw [R.flat_length, e1], .inr ?_⟩
  rcases h.2 with ⟨h0, _⟩ | ⟨g', cap', cur, h0, h1, h2, h3, h4, h5, h6⟩
  · cases h0
  · simp only [Value.slice.injEq, Option.some.injEq, Addr.mk.injEq, and_true] at h0
    obtain ⟨rfl, rfl, rfl⟩ := h0
    refine ⟨g, cap, cur, rfl, h1, h2, by omega, h4, h5, ?_⟩
    have e2 : l.flatMap R.enc = (l.take m).flatMap R.enc ++ (l.drop m).flatMap R.enc := by rw [← List.flatMap_append, List.take_append_drop]
    have e3 : ((l.take m).flatMap R.enc).length = m * R.k := by rw [R.flat_length, e1]
    have e4 : (cur.toList.take (l.length * R.k)).take (m * R.k) = cur.toList.take (m * R.k) := by rw [List.take_take, Nat.min_eq_left (Nat.mul_le_mul_right _ hm)]
    rw [← e4, h6, e2, List.take_left' e3]

theorem OwnR.chgR {α : Type} {R : Rec α} {w w' : World} {base : Nat} {e : TypeId} {v : Value} {l : List α} {fp : List Nat} (h : OwnR R w base e v l) (hc : Chg fp w w') (hn : ∀ g ∈ blk v, g ∉ fp) : OwnR R w' base e v l := by
  refine ⟨h.1, ?_⟩
  rcases h.2 with h | ⟨g, cap, cur, rfl, h2, h3, h4⟩
  · exact .inl h
  · exact .inr ⟨g, cap, cur, rfl, h2, by rw [hc.block g (lt_of_block h3) (hn g (by simp [blk, Value.ownBlock]))]; exact h3, h4⟩

/-- 'h = append(h, p)' as a step of a region that draws its order. -/
theorem step_pushP {P : Program} {ops : Array Oper} {o : Oper} {a : Act} {W : World} {K : Act → World → Prop} {Q : Exit → Act → World → Prop} {E : Prop}
    (hg : o.guard = none) (s x : Operand) (t : TypeId) (hop : o.op = Op.call { callee := Callee.builtin Builtin.append, args := #[s, x], argTypes := #[t, t] })
    (base : Nat) (e : TypeId) (i : TypeInfo) (z : Value) (ht : P.underlying t = some (.slice e)) (hi : P.info? e = some i) (hz : i.zero = some z)
    (hsize : i.size = 1) (hby : i.bytes = 8) (hzs : z.cells.size = 1) (v : Value) (xs : List Nat) (hs : a.eval s = v) (hown : OwnR ptrRec W base e v xs)
    (y : Nat) (ad : Addr) (hx : a.eval x = .slice (some ad) 1 1) (hc : ∀ (j : Nat) (u : Value), [Value.pointer (some ⟨y, 0, none⟩)][j]? = some u → W.cell? (ad.add j) = some u)
    (hlen : xs.length + 1 ≤ 1000000000) (hbase : base ≤ W.heap.size)
    (hK : ∀ v' w', OwnR ptrRec w' base e v' (xs ++ [y]) → v' ≠ .slice none 0 0 → W.grownBy w' v.ownBlock → K (a.put o.dst v') w') :
    if Region.wanted o (yielded ops a.tmps) = true then Oper.wp P o a W K Q else E := by
  have hw : Region.wanted o (yielded ops a.tmps) = true := by simp [Region.wanted, hg]
  rw [if_pos hw]
  obtain ⟨v', w', hrun, r1, r2, r3⟩ := run_append_own (P := P) W base t o.type e i z 1 8 ht hi hz hsize hby hzs (by decide) v xs.length (xs.flatMap ptrRec.enc) hown ad 1 1 [.pointer (some ⟨y, 0, none⟩)] rfl hc (by intro u hu; simp at hu; subst hu; rfl) (by unfold maxLen; omega) (by omega) hbase
  unfold Oper.wp
  simp [execOp, hop, resolve, invoke, builtin, hs, hx, hrun, Result.andThen]
  refine hK v' w' ?_ (fun e => by have := (r3.1 e).2; omega) r2
  unfold OwnR
  rw [List.length_append, List.flatMap_append]
  exact r1

theorem assert_ho (a : Option Addr) (X : World) : (Instr.typeAssert (.iface HoT (.pointer a)) 20 HoT false).run Try.prog X = .ok (.pointer a) X := by kernel_rfl
theorem infoHo : (Try.prog.info? HoT).map (fun i => (i.zero, i.size, i.bytes)) = some (some (.pointer none), 1, 8) := by kernel_rfl
theorem ptr_lit (X : World) (p : Nat) (j : Nat) (u : Value) (h : [Value.pointer (some ⟨p, 0, none⟩)][j]? = some u) : (X.alloc (.cells #[.pointer (some ⟨p, 0, none⟩)] HoT)).drew.cell? ((⟨X.heap.size, 0, none⟩ : Addr).add j) = some u := by
  show (X.alloc (.cells #[.pointer (some ⟨p, 0, none⟩)] HoT)).cell? ((⟨X.heap.size, 0, none⟩ : Addr).add j) = some u
  have e1 : (⟨X.heap.size, 0, none⟩ : Addr).add j = ⟨X.heap.size, j, none⟩ := by unfold Addr.add; split <;> simp_all
  rw [e1, cell_of_row (X.alloc (.cells #[.pointer (some ⟨p, 0, none⟩)] HoT)) X.heap.size j _ HoT (0, 0) (heap_alloc_new X _)]
  simpa using h

set_option maxRecDepth 100000 in
set_option maxHeartbeats 1600000 in
theorem push_any {base b : Nat} {nd : Nat → Hd} {v : Value} {ps : List Nat} {w : World} (H : HeapW w base b nd v ps) (p : Nat) (hp : VarA p HnT (holdA (nd p)) w) (hpb : base ≤ p) (hpn : p ∉ ps) (hl : ps.length ≤ 2000000) (hbs : base ≤ w.heap.size) :
    Calls Try.prog 94 #[.pointer (some ⟨b, 0, none⟩), .iface HoT (.pointer (some ⟨p, 0, none⟩))] w fun e w' => e = .returned (.tuple #[]) ∧ ∃ v', HeapW w' base b nd v' (ps ++ [p]) ∧ HChg base b w w' := by
  obtain ⟨ao, cap, rfl, hf⟩ := H.form
  obtain ⟨i0, hi, hz0, hsz0, hby0⟩ := info_of infoHo
  have H0 := Lib.hid H
  have HP := Lib.hid hp
  have c0 : w.cell? ⟨b, 0, none⟩ = some (.slice ao ps.length cap) := H.var.cell 0
  have HA := Lib.hid ((H.alloc (.cells #[.pointer (some ⟨p, 0, none⟩)] HoT)).drew)
  have hws : base ≤ (w.alloc (.cells #[.pointer (some ⟨p, 0, none⟩)] HoT)).drew.heap.size := by show base ≤ (w.alloc _).heap.size; simp; omega
  have hta := assert_ho
  have c1 : (w.alloc (.cells #[.pointer (some ⟨p, 0, none⟩)] 57)).cell? ⟨b, 0, none⟩ = some (.slice ao ps.length cap) := (H.alloc _).var.cell 0
  clear H hp hf
  go_enter Try.func94, Try.ntmps94
  go_wp2_with fail
  go_region_law (refine step_pushP rfl (.tmp 7) (.tmp 10) HpT rfl base HoT i0 (.pointer none) Try.underlying55 hi hz0 hsz0 hby0 rfl (.slice ao ps.length cap) ps (by first | rfl | simp [Act.eval, Act.put]) HA.out.row p ⟨w.heap.size, 0, none⟩ (by first | rfl | simp [Act.eval, Act.put]) (ptr_lit w p) (by omega) hws ?_; intro v' w' hw1 hw2 hw3; obtain ⟨ao', cap', rfl, hf'⟩ := hw1.form; have hc3 := chg_grown hw3; have hv3 := HA.out.var.chg hc3 (HA.out.row.off_var HA.out.var (by decide)); have d0 : w'.cell? ⟨b, 0, none⟩ = some (.slice ao ps.length cap) := hv3.cell 0; have d1 : w'.frozen? ⟨b, 0, none⟩ = false := hv3.free 0)
  all_goals
    have hcb := Chg.cell w' b 0 (.slice ao' (ps ++ [p]).length cap')
    have hnb : ∀ {r : Nat} {t : TypeId} {cs : Array Value}, VarA r t cs w' → t ≠ HpT → r ∉ [b] := fun hr ht e => by
      rw [List.mem_singleton] at e
      exact var_off hr hv3 ht e
    have hpw := ((HP.out.alloc (.cells #[.pointer (some ⟨p, 0, none⟩)] HoT)).drew.chg hc3 (HA.out.row.off_var ((HP.out.alloc _).drew) (by decide)))
    have FIN : Hid (HeapW (w'.setCell ⟨b, 0, none⟩ (.slice ao' (ps ++ [p]).length cap')) base b nd (.slice ao' (ps ++ [p]).length cap') (ps ++ [p]) ∧ HChg base b w (w'.setCell ⟨b, 0, none⟩ (.slice ao' (ps ++ [p]).length cap'))) := by
      refine ⟨⟨hv3.set 0 _, hw1.chgR hcb (fun g hg e => ?_), fun q hq => ?_, ?_, fun q hq => ?_, H0.out.vb⟩, ?_⟩
      · rw [List.mem_singleton] at e
        subst e
        exact hw1.off_var hv3 (by decide) hg
      · rcases List.mem_append.1 hq with hq | hq
        · have hqw := ((HA.out.node q hq).chg hc3 (HA.out.row.off_var (HA.out.node q hq) (by decide)))
          exact hqw.chg hcb (hnb hqw (by decide))
        · rw [List.mem_singleton] at hq
          subst hq
          exact hpw.chg hcb (hnb hpw (by decide))
      · rw [List.nodup_append]
        refine ⟨H0.out.dup, by simp, fun x hx y hy e => ?_⟩
        rw [List.mem_singleton] at hy
        subst hy
        subst e
        exact hpn hx
      · rcases List.mem_append.1 hq with hq | hq
        · exact H0.out.own q hq
        · rw [List.mem_singleton] at hq
          subst hq
          exact hpb
      · refine (Below.hchg (((Below.refl _ w).alloc (Nat.le_refl _) (.cells #[.pointer (some ⟨p, 0, none⟩)] HoT)).drew) base b).trans (HA.out.hchg ?_)
        exact (hc3.sub (fun g hg => by simp [hg])).trans (hcb.sub (fun g hg => by simp at hg; simp [hg]))
    have hlen : (ps ++ [p]).length = ps.length + 1 := by simp
    rw [hlen] at FIN
    clear hw1 hw2 hw3 hf' hc3 hcb hpw
    go_wp2_with fail
    refine bodyPost_end (results_none rfl _ _ _) rfl ?_
    exact ⟨rfl, _, FIN.out.1, FIN.out.2⟩

theorem meth_push (F : Nat) (a : Addr) (w : World) : (method (F + 1) HqT (.pointer (some a)) "Push").run Try.prog w = .ok (94, .pointer (some a)) w := by kernel_rfl
theorem meth_pop (F : Nat) (a : Addr) (w : World) : (method (F + 1) HqT (.pointer (some a)) "Pop").run Try.prog w = .ok (93, .pointer (some a)) w := by kernel_rfl

/-- Who lies in a heap has a key of its own. -/
def KeyOne (nd : Nat → Hd) (ps : List Nat) : Prop := ∀ p ∈ ps, ∀ q ∈ ps, keyN nd p = keyN nd q → p = q
theorem KeyOne.sub {nd : Nat → Hd} {ps qs : List Nat} (h : KeyOne nd ps) (hs : ∀ x ∈ qs, x ∈ ps) : KeyOne nd qs := fun p hp q hq e => h p (hs p hp) q (hs q hq) e

set_option maxRecDepth 100000 in
set_option maxHeartbeats 1600000 in
theorem heapPush_any {base b : Nat} {nd : Nat → Hd} {v : Value} {ps : List Nat} {w : World} (H : HeapW w base b nd v ps) (p : Nat) (hp : VarA p HnT (holdA (nd p)) w) (hpb : base ≤ p) (hpn : p ∉ ps) (hl : ps.length ≤ 1000000) (hbs : base ≤ w.heap.size) (hk : KeyOne nd (ps ++ [p])) (hH : HeapK (keyL (keyN nd) ps) ps.length) :
    Calls Try.prog 54 #[.iface HqT (.pointer (some ⟨b, 0, none⟩)), .iface HoT (.pointer (some ⟨p, 0, none⟩))] w fun e w' => e = .returned (.tuple #[]) ∧ ∃ v' qs, HeapW w' base b nd v' qs ∧ qs.length = ps.length + 1 ∧ (∀ x, x ∈ qs ↔ x ∈ ps ∨ x = p) ∧ HeapK (keyL (keyN nd) qs) qs.length ∧ HChg base b w w' := by
  have HPU := Lib.hid (push_any H p hp hpb hpn (by omega) hbs)
  have HK := Lib.hid hk
  have HH := Lib.hid hH
  have mP := fun F => meth_push F ⟨b, 0, none⟩ w
  clear H hp hk hH
  go_enter Try.func54, Try.ntmps54
  go_wp2_with fail
  refine HPU.out.mono ?_
  rintro e w1 ⟨rfl, v', h1, hc1⟩
  have H1 := Lib.hid h1
  have C1 := Lib.hid hc1
  obtain ⟨ao, cap, rfl, _⟩ := h1.form
  have hlen : (ps ++ [p]).length = ps.length + 1 := by simp
  have c0 : w1.cell? ⟨b, 0, none⟩ = some (.slice ao (ps ++ [p]).length cap) := H1.out.var.cell 0
  have mN := fun F => meth_len F ⟨b, 0, none⟩ w1 _ c0
  have HUP : Hid (UpK (keyL (keyN nd) (ps ++ [p])) (ps.length + 1) ps.length) := (HH.out.congr (fun c hc => (keyL_append (keyN nd) ps [p] hc).symm)).up
  have HCU := Lib.hid (up_any H1.out (ps.length + 1) ps.length (by omega) (by omega) (by omega) HK.out HUP.out)
  rw [hlen] at c0 mN
  rw [hlen] at HCU
  clear h1 hc1 mP HPU
  go_wp2_with (first | (go_at_call 87; refine (len_any _ _ _ _).mono ?_; rintro e w' ⟨rfl, hw⟩; rw [hw]))
  refine HCU.out.mono ?_
  rintro e w2 ⟨rfl, qs, h2, hM, hHK, hC⟩
  have hql : qs.length = ps.length + 1 := by rw [hM.len, hlen]
  have FIN : Hid (∃ v' qs, HeapW w2 base b nd v' qs ∧ qs.length = ps.length + 1 ∧ (∀ x, x ∈ qs ↔ x ∈ ps ∨ x = p) ∧ HeapK (keyL (keyN nd) qs) qs.length ∧ HChg base b w w2) := by
    refine ⟨_, qs, h2, hql, fun x => ?_, by rw [hql]; exact hHK, C1.out.trans (H1.out.hchg ?_)⟩
    · rw [hM.mem x]
      simp
    · rw [hlen]
      exact hC.sub (fun g hg => by simp [hg])
  clear h2 hM hHK hC hql
  go_wp2_with fail
  refine bodyPost_end (results_none rfl _ _ _) rfl ?_
  exact ⟨rfl, FIN.out⟩

set_option maxRecDepth 100000 in
set_option maxHeartbeats 1600000 in
theorem pop_any {base b : Nat} {nd : Nat → Hd} {v : Value} {ps : List Nat} {w : World} (H : HeapW w base b nd v ps) (n p : Nat) (hl : ps.length = n + 1) (hp : ps[n]? = some p) (hn : n ≤ 2000000) :
    Calls Try.prog 93 #[.pointer (some ⟨b, 0, none⟩)] w fun e w' => e = .returned (.iface HoT (.pointer (some ⟨p, 0, none⟩))) ∧ ∃ v', HeapW w' base b nd v' (ps.take n) ∧ HChg base b w w' := by
  obtain ⟨ao, cap, rfl, hf⟩ := H.form
  obtain ⟨g, rfl, hg1, hg2, hc⟩ := hf (by omega)
  have H0 := Lib.hid H
  have c0 : w.cell? ⟨b, 0, none⟩ = some (.slice (some ⟨g, 0, none⟩) (n + 1) cap) := by rw [← hl]; exact H.var.cell 0
  have f0 : w.frozen? ⟨b, 0, none⟩ = false := H.var.free 0
  have c1 : w.cell? ⟨g, n, none⟩ = some (.pointer (some ⟨p, 0, none⟩)) := (hc n p hp).1
  have hcap : n + 1 ≤ cap := by
    rcases H.row.2 with ⟨h0, _⟩ | ⟨g', cap', cur, h0, _, _, h3, _⟩
    · cases h0
    · simp only [Value.slice.injEq] at h0
      obtain ⟨_, _, rfl⟩ := h0
      omega
  have hcap1 : (n : Int) ≤ (cap : Int) := by omega
  have FIN : Hid (HeapW (w.setCell ⟨b, 0, none⟩ (.slice (some ⟨g, 0, none⟩) n cap)) base b nd (.slice (some ⟨g, 0, none⟩) n cap) (ps.take n) ∧ HChg base b w (w.setCell ⟨b, 0, none⟩ (.slice (some ⟨g, 0, none⟩) n cap))) := by
    have hcb := Chg.cell w b 0 (.slice (some ⟨g, 0, none⟩) n cap)
    have hr := H.row.cut n (by omega)
    have hsub : ∀ q ∈ ps.take n, q ∈ ps := fun q hq => List.mem_of_mem_take hq
    refine ⟨⟨H.var.set 0 _, hr.chgR hcb (fun x hx e => ?_), fun q hq => ?_, take_nodup n H.dup, fun q hq => H.own q (hsub q hq), H.vb⟩, H.hchg (hcb.sub (fun x hx => by simp at hx; simp [hx]))⟩
    · rw [List.mem_singleton] at e
      subst e
      exact hr.off_var H.var (by decide) hx
    · have hv := H.node q (hsub q hq)
      exact hv.chg hcb (fun e => by rw [List.mem_singleton] at e; exact var_off hv H.var (by decide) e)
  clear H hf hc hp
  go_enter Try.func93, Try.ntmps93
  go_wp2_with fail
  go_ret
  exact ⟨rfl, _, FIN.out.1, FIN.out.2⟩

end Go.Proofs.Ytphmomlgmnllkaq
