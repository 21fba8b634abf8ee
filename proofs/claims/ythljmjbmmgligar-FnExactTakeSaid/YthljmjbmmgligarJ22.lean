/-
  Channels in plain words: a right one, what is pushed, sent and taken; no program is spoken of here.
  'out = append(out, x)' as a step of a region that draws its order; no program is spoken of here.
-/
import Derived.WalkKit
import Derived.Test.YthljmjbmmgligarJ05
namespace Go.Proofs.Ythljmjbmmgligar

/-- One that is sent: Num, Body, Due, Tries. -/
abbrev Pnd := Int × ByteArray × Int × Int
/-- One that came early: Num, Body. -/
abbrev Erl := Int × ByteArray
/-- A packet: Op, Key, From, To, Num, Acks, Body. -/
abbrev Pkt := Int × Int × Int × Int × Int × List Int × ByteArray

/-- Each one behind another: all ascend. -/
theorem pairwise_of_next {α : Type} {R : α → α → Prop} (ht : ∀ a b c, R a b → R b c → R a c) : ∀ {l : List α}, (∀ i x y, l[i]? = some x → l[i + 1]? = some y → R x y) → l.Pairwise R
  | [], _ => List.Pairwise.nil
  | [_], _ => by simp
  | a :: b :: l, h => by
    have h1 := pairwise_of_next ht (l := b :: l) (fun i x y hx hy => h (i + 1) x y (by simpa using hx) (by simpa using hy))
    refine List.pairwise_cons.2 ⟨fun x hx => ?_, h1⟩
    have hab := h 0 a b rfl rfl
    rcases List.mem_cons.1 hx with rfl | hx
    · exact hab
    · exact ht _ _ _ hab ((List.pairwise_cons.1 h1).1 x hx)
theorem next_of_pairwise {α : Type} {R : α → α → Prop} {l : List α} (h : l.Pairwise R) (i : Nat) (x y : α) (hx : l[i]? = some x) (hy : l[i + 1]? = some y) : R x y := by
  obtain ⟨h1, rfl⟩ := List.getElem?_eq_some_iff.1 hx
  obtain ⟨h2, rfl⟩ := List.getElem?_eq_some_iff.1 hy
  exact List.pairwise_iff_getElem.1 h i (i + 1) h1 h2 (by omega)

/-- As long as there is room: the first texts of a queue are sent. -/
def fillP (now : Int) : List ByteArray → List Pnd → Int → List ByteArray × List Pnd × Int
  | [], ss, next => ([], ss, next)
  | q :: qs, ss, next => if ss.length < 4 ∧ (∀ s, ss[0]? = some s → next + 1 - 4 < s.1) then fillP now qs (ss ++ [(next + 1, q, now, 0)]) (next + 1) else (q :: qs, ss, next)
/-- Whether one that is sent goes out. -/
def dueP (now : Int) (s : Pnd) : Bool := decide (s.2.2.1 ≤ now) && decide (s.2.2.2 < 8)
/-- One that is sent, when it has gone out. -/
def goneP (now : Int) (s : Pnd) : Pnd := if dueP now s = true then (s.1, s.2.1, now + ((2 ^ (s.2.2.2 + 1).toNat : Nat) : Int), s.2.2.2 + 1) else s
/-- What goes out: the first one has the acks. -/
def packsP (me peer : Int) (owed : List Int) : List Pnd → List Pkt
  | [] => []
  | s :: r => (1, 0, me, peer, s.1, owed, s.2.1) :: r.map (fun s => (1, 0, me, peer, s.1, [], s.2.1))
def listP (me peer : Int) (owed : List Int) (out : List Pnd) : List Pkt := if out = [] then (if owed = [] then [] else [(2, 0, me, peer, 0, owed, ⟨#[]⟩)]) else packsP me peer owed out
/-- What came early, with one more in its place. -/
def putE (num : Int) (body : ByteArray) (es : List Erl) : List Erl := es.filter (fun e => decide (e.1 < num)) ++ (num, body) :: es.filter (fun e => decide (num < e.1))
/-- How many come out at once. -/
def drainN (got : Int) : List Erl → Nat
  | [] => 0
  | e :: es => if e.1 = got + 1 then drainN (got + 1) es + 1 else 0

section
variable {now next got : Int}
/-- What is sent, at one moment: some may not have gone out yet. -/
structure Sending (now next : Int) (ss : List Pnd) : Prop where
  few : ss.length ≤ 4
  num : ∀ s ∈ ss, 1 ≤ s.1 ∧ s.1 ≤ next
  due : ∀ s ∈ ss, 0 ≤ s.2.2.1 ∧ s.2.2.1 ≤ 1000000000
  tries : ∀ s ∈ ss, 0 ≤ s.2.2.2 ∧ s.2.2.2 ≤ 8 ∧ (s.2.2.2 = 0 → s.2.2.1 = now)
  body : ∀ s ∈ ss, s.2.1.size ≤ 120
  asc : ss.Pairwise (fun a b => a.1 < b.1)
theorem fillP_sum : ∀ (qs : List ByteArray) (ss : List Pnd) (next : Int), (fillP now qs ss next).2.2 + ((fillP now qs ss next).1.length : Int) = next + (qs.length : Int)
  | [], ss, next => rfl
  | q :: qs, ss, next => by
    unfold fillP
    split
    · rw [fillP_sum qs _ (next + 1)]
      simp only [List.length_cons]
      omega
    · rfl
theorem fillP_next : ∀ (qs : List ByteArray) (ss : List Pnd) (next : Int), next ≤ (fillP now qs ss next).2.2
  | [], ss, next => Int.le_refl _
  | q :: qs, ss, next => by
    unfold fillP
    split
    · have := fillP_next qs (ss ++ [(next + 1, q, now, 0)]) (next + 1)
      omega
    · exact Int.le_refl _
theorem fillP_queue : ∀ (qs : List ByteArray) (ss : List Pnd) (next : Int), ∀ x ∈ (fillP now qs ss next).1, x ∈ qs
  | [], ss, next => fun x hx => hx
  | q :: qs, ss, next => fun x hx => by
    unfold fillP at hx
    split at hx
    · exact List.mem_cons_of_mem _ (fillP_queue qs _ _ x hx)
    · exact hx
theorem fillP_sending (h0 : 0 ≤ now) (h1 : now ≤ 1000000000) : ∀ (qs : List ByteArray) (ss : List Pnd) (next : Int), 0 ≤ next → (∀ q ∈ qs, q.size ≤ 120) → Sending now next ss → Sending now (fillP now qs ss next).2.2 (fillP now qs ss next).2.1
  | [], ss, next, _, _, h => h
  | q :: qs, ss, next, hn, hq, h => by
    unfold fillP
    split
    · next hc =>
      refine fillP_sending h0 h1 qs _ (next + 1) (by omega) (fun x hx => hq x (List.mem_cons_of_mem _ hx)) ⟨?_, ?_, ?_, ?_, ?_, ?_⟩
      · rw [List.length_append]
        have := hc.1
        simp only [List.length_cons, List.length_nil]
        omega
      · intro s hs
        rcases List.mem_append.1 hs with hs | hs
        · have := h.num s hs
          omega
        · obtain rfl := List.mem_singleton.1 hs
          exact ⟨by show 1 ≤ next + 1; omega, Int.le_refl _⟩
      · intro s hs
        rcases List.mem_append.1 hs with hs | hs
        · exact h.due s hs
        · obtain rfl := List.mem_singleton.1 hs
          exact ⟨h0, h1⟩
      · intro s hs
        rcases List.mem_append.1 hs with hs | hs
        · exact h.tries s hs
        · obtain rfl := List.mem_singleton.1 hs
          exact ⟨Int.le_refl _, (by show (0 : Int) ≤ 8; decide), fun _ => rfl⟩
      · intro s hs
        rcases List.mem_append.1 hs with hs | hs
        · exact h.body s hs
        · obtain rfl := List.mem_singleton.1 hs
          exact hq q (by simp)
      · rw [List.pairwise_append]
        refine ⟨h.asc, by simp, fun a ha b hb => ?_⟩
        obtain rfl := List.mem_singleton.1 hb
        have := h.num a ha
        show a.1 < next + 1
        omega
    · exact h
/-- Where nothing more can be sent, nothing more is. -/
theorem fillP_again (qs : List ByteArray) (ss ts : List Pnd) (next : Int) (hl : ts.length = (fillP now qs ss next).2.1.length) (hh : ∀ t, ts[0]? = some t → ∃ s, (fillP now qs ss next).2.1[0]? = some s ∧ s.1 = t.1) (now2 : Int) :
    fillP now2 (fillP now qs ss next).1 ts (fillP now qs ss next).2.2 = ((fillP now qs ss next).1, ts, (fillP now qs ss next).2.2) := by
  induction qs generalizing ss next with
  | nil => rfl
  | cons q qs ih =>
    by_cases hc : ss.length < 4 ∧ (∀ s, ss[0]? = some s → next + 1 - 4 < s.1)
    · have e : fillP now (q :: qs) ss next = fillP now qs (ss ++ [(next + 1, q, now, 0)]) (next + 1) := by rw [fillP, if_pos hc]
      rw [e] at hl hh ⊢
      exact ih _ _ hl hh
    · have e : fillP now (q :: qs) ss next = (q :: qs, ss, next) := by rw [fillP, if_neg hc]
      rw [e] at hl hh ⊢
      simp only at hl hh ⊢
      rw [fillP, if_neg]
      intro hc2
      refine hc ⟨by omega, fun s hs => ?_⟩
      cases hts : ts[0]? with
      | none =>
        have h1 := List.getElem?_eq_none_iff.1 hts
        have h2 := (List.getElem?_eq_some_iff.1 hs).1
        omega
      | some t =>
        obtain ⟨s', hs', he⟩ := hh t hts
        rw [hs] at hs'
        cases hs'
        rw [he]
        exact hc2.2 t hts
theorem pow_few (n : Nat) (h : n ≤ 8) : 2 ^ n ≤ 256 := Nat.le_trans (Nat.pow_le_pow_right (by omega) h) (by decide)
theorem goneP_num (s : Pnd) : (goneP now s).1 = s.1 := by unfold goneP; split <;> rfl
theorem goneP_body (s : Pnd) : (goneP now s).2.1 = s.2.1 := by unfold goneP; split <;> rfl
/-- What has gone out is right. -/
theorem gone_tries {ss : List Pnd} (h0 : 0 ≤ now) (h1 : now ≤ 999999000) (h : Sending now next ss) (s : Pnd) (hs : s ∈ ss) : (0 ≤ (goneP now s).2.2.1 ∧ (goneP now s).2.2.1 ≤ 1000000000) ∧ (1 ≤ (goneP now s).2.2.2 ∧ (goneP now s).2.2.2 ≤ 8) := by
  have ht := h.tries s hs
  have hd := h.due s hs
  unfold goneP
  by_cases hdu : dueP now s = true
  · rw [if_pos hdu]
    simp only [dueP, Bool.and_eq_true, decide_eq_true_eq] at hdu
    have hp := pow_few (s.2.2.2 + 1).toNat (by omega)
    refine ⟨⟨?_, ?_⟩, ?_, ?_⟩
    · show 0 ≤ now + ((2 ^ (s.2.2.2 + 1).toNat : Nat) : Int)
      generalize 2 ^ (s.2.2.2 + 1).toNat = z
      omega
    · show now + ((2 ^ (s.2.2.2 + 1).toNat : Nat) : Int) ≤ 1000000000
      generalize 2 ^ (s.2.2.2 + 1).toNat = z at *
      omega
    · show 1 ≤ s.2.2.2 + 1
      omega
    · show s.2.2.2 + 1 ≤ 8
      omega
  · rw [if_neg hdu]
    refine ⟨hd, ?_, ht.2.1⟩
    by_cases h9 : s.2.2.2 = 0
    · refine absurd ?_ hdu
      have := ht.2.2 h9
      simp only [dueP, Bool.and_eq_true, decide_eq_true_eq]
      omega
    · omega
/-- What has gone out does not go out again at once. -/
theorem gone_not (s : Pnd) : dueP now (goneP now s) = false := by
  unfold goneP
  by_cases hdu : dueP now s = true
  · rw [if_pos hdu]
    have hp : 0 < 2 ^ (s.2.2.2 + 1).toNat := Nat.pow_pos (by omega)
    simp only [dueP, Bool.and_eq_false_iff, decide_eq_false_iff_not]
    refine .inl ?_
    generalize 2 ^ (s.2.2.2 + 1).toNat = z at *
    show ¬ (now + (z : Int) ≤ now)
    omega
  · rw [if_neg hdu]
    simpa using hdu
theorem putE_length (num : Int) (body : ByteArray) (es : List Erl) (h : ∀ e ∈ es, e.1 ≠ num) : (putE num body es).length = es.length + 1 := by
  induction es with
  | nil => rfl
  | cons e es ih =>
    have h1 := ih (fun x hx => h x (List.mem_cons_of_mem _ hx))
    have h2 := h e (by simp)
    unfold putE at h1 ⊢
    simp only [List.filter_cons, List.length_append, List.length_cons] at h1 ⊢
    by_cases h3 : e.1 < num
    · rw [if_pos (decide_eq_true h3), if_neg (by simp; omega)]
      simp only [List.length_cons]
      omega
    · rw [if_neg (by simp; omega), if_pos (decide_eq_true (by omega))]
      simp only [List.length_cons]
      omega
theorem putE_mem {num : Int} {body : ByteArray} {es : List Erl} {e : Erl} (h : e ∈ putE num body es) : e = (num, body) ∨ e ∈ es := by
  unfold putE at h
  rcases List.mem_append.1 h with h | h
  · exact .inr (List.mem_filter.1 h).1
  · rcases List.mem_cons.1 h with h | h
    · exact .inl h
    · exact .inr (List.mem_filter.1 h).1
theorem putE_asc {num : Int} {body : ByteArray} {es : List Erl} (h : es.Pairwise (fun a b => a.1 < b.1)) : (putE num body es).Pairwise (fun a b => a.1 < b.1) := by
  unfold putE
  rw [List.pairwise_append]
  refine ⟨h.filter _, List.pairwise_cons.2 ⟨fun x hx => by simpa using (List.mem_filter.1 hx).2, h.filter _⟩, fun a ha b hb => ?_⟩
  have h1 : a.1 < num := by simpa using (List.mem_filter.1 ha).2
  rcases List.mem_cons.1 hb with rfl | hb
  · exact h1
  · have h2 : num < b.1 := by simpa using (List.mem_filter.1 hb).2
    omega
theorem drainN_le : ∀ (es : List Erl) (got : Int), drainN got es ≤ es.length
  | [], _ => Nat.le_refl _
  | e :: es, got => by
    unfold drainN
    split
    · have := drainN_le es (got + 1)
      simp only [List.length_cons]
      omega
    · omega
/-- What is left is above what came out. -/
theorem drainN_left : ∀ (es : List Erl) (got : Int), es.Pairwise (fun a b => a.1 < b.1) → (∀ e ∈ es, got < e.1) → ∀ e ∈ es.drop (drainN got es), got + (drainN got es : Int) + 2 ≤ e.1
  | [], _, _, _ => fun e he => by simp at he
  | x :: es, got, ha, hg => fun e he => by
    unfold drainN at he ⊢
    by_cases hx : x.1 = got + 1
    · rw [if_pos hx] at he ⊢
      rw [List.drop_succ_cons] at he
      have h1 := List.pairwise_cons.1 ha
      have := drainN_left es (got + 1) h1.2 (fun y hy => by have := h1.1 y hy; omega) e he
      simp only [Int.natCast_add, Int.natCast_one]
      omega
    · rw [if_neg hx] at he ⊢
      rw [List.drop_zero] at he
      have h1 := List.pairwise_cons.1 ha
      have h2 := hg x (by simp)
      rcases List.mem_cons.1 he with rfl | he
      · simp only [Int.natCast_zero]
        omega
      · have := h1.1 e he
        simp only [Int.natCast_zero]
        omega
end

end Go.Proofs.Ythljmjbmmgligar
namespace Go.Proofs.Ythljmjbmmgligar
open Go.RowKit

/-- 'out = append(out, x)' as a step of a region that draws its order, over flat rows. -/
theorem step_pushOne {α : Type} {P : Program} {ops : Array Oper} {o : Oper} {a : Act} {W : World} {K : Act → World → Prop} {Q : Exit → Act → World → Prop} {E : Prop}
    (hg : o.guard = none) (s x : Operand) (t : TypeId) (hop : o.op = Op.call { callee := Callee.builtin Builtin.append, args := #[s, x], argTypes := #[t, t] })
    (base : Nat) (e : TypeId) (i : TypeInfo) (z : Value) (bytes : Nat) (A : Lay α) (hf : Flat A) (ht : P.underlying t = some (.slice e)) (hi : P.info? e = some i) (hz : i.zero = some z)
    (hsize : i.size = A.k) (hby : i.bytes = bytes) (hzs : z.cells.size = A.k) (hb1 : bytes ≤ 1000) (v : Value) (f : List Nat) (xs : List α) (hs : a.eval s = v) (hown : (Lay.rows e A).own W base f [v] xs)
    (y : α) (cs : List Value) (hcs : A.rd W cs y) (ad : Addr) (hx : a.eval x = .slice (some ad) 1 1) (hc : ∀ j u, cs[j]? = some u → W.cell? (ad.add j) = some u)
    (hlen : xs.length + 1 ≤ 1000000000) (hbase : base ≤ W.heap.size)
    (hK : ∀ v' w', (Lay.rows e A).own w' base (blk v') [v'] (xs ++ [y]) → v' ≠ .slice none 0 0 → Below base W w' → W.grownBy w' v.ownBlock → K (a.put o.dst v') w') :
    if Region.wanted o (yielded ops a.tmps) = true then Oper.wp P o a W K Q else E := by
  have hw : Region.wanted o (yielded ops a.tmps) = true := by simp [Region.wanted, hg]
  rw [if_pos hw]
  obtain ⟨us, h1, h2, rfl⟩ := flat_inv hf hown
  have hlt : ∀ k, v.ownBlock = some k → base ≤ k := fun k hk => (World.ownsRow.lt h1 k hk).1
  obtain ⟨v', w', hrun, r1, r2, r3⟩ := run_append_own (P := P) W base t o.type e i z A.k bytes ht hi hz hsize hby hzs A.pos v xs.length us h1 ad 1 1 cs (by rw [A.len hcs, Nat.one_mul]) hc (A.one hcs) (by unfold maxLen; omega)
    (by have h1 : (xs.length + 1) * bytes ≤ 1000000000 * 1000 := Nat.mul_le_mul hlen hb1
        omega) hbase
  unfold Oper.wp
  simp [execOp, hop, resolve, invoke, builtin, hs, hx, hrun, Result.andThen]
  refine hK v' w' ?_ (fun e => by have := (r3.1 e).2; omega) (below_grown r2 hlt hbase) r2
  have h6 : w'.ownsRow base e A.k v' (xs ++ [y]).length (us ++ cs) := by rw [List.length_append]; exact r1
  exact flat_own hf h6 (rdAll_join A (hf.all h2) ⟨cs, [], by simp, hf.any _ _ _ _ hcs, rfl⟩)
theorem lit_cells_one (X : World) (cs : Array Value) (e : TypeId) (j : Nat) (u : Value) (h : cs.toList[j]? = some u) : (X.alloc (.cells cs e)).drew.cell? ((⟨X.heap.size, 0, none⟩ : Addr).add j) = some u := by
  have e1 : (⟨X.heap.size, 0, none⟩ : Addr).add j = ⟨X.heap.size, j, none⟩ := by unfold Addr.add; split <;> simp_all
  show (X.alloc (.cells cs e)).cell? _ = _
  rw [e1, cell_of_row (X.alloc (.cells cs e)) X.heap.size j cs e (0, 0) (heap_alloc_new X _)]
  simpa using h
theorem lit_cells_at (X : World) (cs : Array Value) (e : TypeId) (j : Nat) (u : Value) (h : cs.toList[j]? = some u) : (X.alloc (.cells cs e)).cell? ((⟨X.heap.size, 0, none⟩ : Addr).add j) = some u := lit_cells_one X cs e j u h

end Go.Proofs.Ythljmjbmmgligar
