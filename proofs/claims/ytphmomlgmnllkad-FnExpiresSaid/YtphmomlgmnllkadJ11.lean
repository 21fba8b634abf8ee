/-
  container/heap's Pop and Remove over the program's heap.
  Routes as records of three numbers.
  The given DropTo.
  Small laws of no program: rows of texts that the call itself made.
  Plain mathematics of figures that are read: each is worth what it stands for; no program is spoken of here.
  Plain mathematics of decimal figures that are read: the number, and when the figures are its shortest; no program is spoken of here.
-/
import Derived.Test.YtphmomlgmnllkadJ10
import Derived.Test.YtphmomlgmnllkadJ04
import Derived.Test.YtphmomlgmnllkadRows
import Derived.Deep.RegionHeld3
import Derived.BigQuiet
import Derived.Deep.QuietTactic
import Derived.Test.YtphmomlgmnllkadJ03
import Derived.Test.YtphmomlgmnllkadJ05
namespace Go.Proofs.Ytphmomlgmnllkad
open Go.RowKit

/-- What is left behind one that is taken away. -/
def Taken (w : World) (base b : Nat) (nd : Nat → Hd) (ps : List Nat) (n p : Nat) (w' : World) : Prop := ∃ v' qs, HeapW w' base b nd v' qs ∧ qs.length = n ∧ (∀ x, x ∈ qs ↔ x ∈ ps ∧ x ≠ p) ∧ HeapK (keyL (keyN nd) qs) n ∧ HChg base b w w'
theorem taken_of {w w1 w2 : World} {base b n p : Nat} {nd : Nat → Hd} {ps qs : List Nat} {v : Value} (hl : qs.length = n + 1) (hp : qs[n]? = some p) (hd : qs.Nodup) (hm : ∀ x, x ∈ qs ↔ x ∈ ps) (hk : HeapK (keyL (keyN nd) qs) n) (h : HeapW w2 base b nd v (qs.take n)) (c1 : HChg base b w w1) (c2 : HChg base b w1 w2) : Taken w base b nd ps n p w2 :=
  ⟨v, qs.take n, h, by rw [List.length_take]; omega, fun x => by rw [take_last_mem hl hp hd x, hm x], hk.congr (fun c hc => (keyL_take (keyN nd) qs hc).symm), c1.trans c2⟩

set_option maxRecDepth 100000 in
set_option maxHeartbeats 1600000 in
theorem heapPop_any {base b : Nat} {nd : Nat → Hd} {v : Value} {ps : List Nat} {w : World} (H : HeapW w base b nd v ps) (n p : Nat) (hl : ps.length = n + 1) (hp : ps[0]? = some p) (hn : n ≤ 1000000) (hk : KeyOne nd ps) (hH : HeapK (keyL (keyN nd) ps) (n + 1)) :
    Calls Try.prog 30 #[.iface HqT (.pointer (some ⟨b, 0, none⟩))] w fun e w' => e = .returned (.iface HoT (.pointer (some ⟨p, 0, none⟩))) ∧ Taken w base b nd ps n p w' := by
  obtain ⟨ao, cap, rfl, -⟩ := H.form
  have HLN : Hid (ps.length = n + 1) := hl
  have c0 : w.cell? ⟨b, 0, none⟩ = some (.slice ao ps.length cap) := H.var.cell 0
  have mN := fun F => meth_len F ⟨b, 0, none⟩ w _ c0
  have mS := fun F => meth_swap F ⟨b, 0, none⟩ w _ c0
  have HSW := Lib.hid (swap_any H 0 n (by omega) (by omega))
  have hb0 : ButK (keyL (keyN nd) (swapL ps 0 n)) n 0 := by
    rw [keyL_swap _ _ (by omega) (by omega)]
    exact hH.but (by omega)
  have HB := Lib.hid hb0
  have H0 := Lib.hid H
  have HK := Lib.hid hk
  have HP := Lib.hid hp
  have e0 : (ps.length : Int) = (n : Int) + 1 := by omega
  have hnn : (n : Int) ≤ 1000000 := by omega
  clear H hk hH hb0 hp
  go_enter Try.func30, Try.ntmps30
  rw [hl] at c0 mN mS HSW
  go_wp2_with (first | (go_at_call 69; refine (len_any _ _ _ _).mono ?_; rintro e w' ⟨rfl, hw⟩; rw [hw]))
  refine HSW.out.mono ?_
  rintro e w1 ⟨rfl, h1, hc1⟩
  have H1 := Lib.hid h1
  have hbk : blk (.slice ao (n + 1) cap) = blk (.slice ao ps.length cap) := by rw [hl]
  have C1 : Hid (HChg base b w w1) := H0.out.hchg (hc1.sub (fun g hg => by rw [hbk] at hg; simp [hg]))
  have l1 : (swapL ps 0 n).length = n + 1 := by rw [swapL_length]; exact hl
  have HM1 := Lib.hid (Moved.swap (ps := ps) (i := 0) (j := n) (n := n + 1) (by omega) (by omega) (by omega) (by omega))
  have HDN := Lib.hid (down_any H1.out n 0 (by omega) (by omega) (by omega) (HK.out.sub (fun x hx => (HM1.out.mem x).1 hx)) HB.out)
  have HL1 := Lib.hid l1
  clear h1 hc1 mN mS HSW hbk l1
  go_wp2_with fail
  refine HDN.out.mono ?_
  rintro e w2 ⟨mv, qs, rfl, h2, hM, hE, hc2⟩
  have H2 := Lib.hid h2
  have HKQ : Hid (HeapK (keyL (keyN nd) qs) n) := by
    rcases hE with ⟨_, h⟩ | ⟨_, _, h⟩
    · exact h
    · exact h.done (.inl rfl)
  have C2 : Hid (HChg base b w w2) := C1.out.trans (H1.out.hchg (hc2.sub (fun g hg => by simp [hg])))
  have HQL : Hid (qs.length = n + 1) := hM.len.trans HL1.out
  have HQP : Hid (qs[n]? = some p) := by
    show qs[n]? = some p
    rw [hM.rest n (Nat.le_refl _), swapL_get ps (by omega) (by omega), ← HP.out]
    unfold swapI
    by_cases h : n = 0
    · rw [if_pos h, h]
    · rw [if_neg h, if_pos rfl]
  have HQM : Hid (∀ x, x ∈ qs ↔ x ∈ ps) := fun x => (hM.mem x).trans (HM1.out.mem x)
  have HPO := Lib.hid (pop_any H2.out n p HQL.out HQP.out (by omega))
  have mP := fun F => meth_pop F ⟨b, 0, none⟩ w2
  clear h2 hM hE hc2 HDN
  go_wp2_with fail
  refine HPO.out.mono ?_
  rintro e w3 ⟨rfl, v', h3, hc3⟩
  have FIN : Hid (Taken w base b nd ps n p w3) := taken_of HQL.out HQP.out H2.out.dup HQM.out HKQ.out h3 C2.out hc3
  clear h3 hc3 HPO mP
  go_wp2_with fail
  go_ret
  exact ⟨rfl, FIN.out⟩

end Go.Proofs.Ytphmomlgmnllkad
namespace Go.Proofs.Ytphmomlgmnllkad
open Go.RowKit

/-- A route: address, length, whom it leads to. -/
abbrev Rt := Int × Int × Int
def rtRec : Rec Rt where
  k := 3
  enc := fun r => [.int .i64 r.1, .int .i64 r.2.1, .int .i64 r.2.2]
  len := fun _ => rfl
  one := fun r u hu => by
    simp only [List.mem_cons, List.not_mem_nil, or_false] at hu
    rcases hu with rfl | rfl | rfl <;> rfl
  pos := by decide
end Go.Proofs.Ytphmomlgmnllkad
namespace Go.Proofs.Ytphmomlgmnllkad
open Go.RowKit

theorem row_three {w : World} {g : Nat} {xs : List Rt} (h : ∀ j t x, xs[j]? = some x → t < rtRec.k → w.cell? ⟨g, rtRec.k * j + t, none⟩ = (rtRec.enc x)[t]?) (j : Nat) (x : Rt) (hx : xs[j]? = some x) :
    w.cell? ⟨g, j * 3, none⟩ = some (.int .i64 x.1) ∧ w.cell? ⟨g, j * 3 + 1, none⟩ = some (.int .i64 x.2.1) ∧ w.cell? ⟨g, j * 3 + 2, none⟩ = some (.int .i64 x.2.2) := by
  have h0 := h j 0 x hx (by decide)
  have h1 := h j 1 x hx (by decide)
  have h2 := h j 2 x hx (by decide)
  have e : rtRec.k * j = j * 3 := Nat.mul_comm _ _
  rw [e] at h0 h1 h2
  exact ⟨h0, h1, h2⟩

end Go.Proofs.Ytphmomlgmnllkad
namespace Go.Proofs.Ytphmomlgmnllkad
open Go.RowKit

def strs (ls : List (List UInt8)) : List Value := ls.map fun l => Value.string ⟨l.toArray⟩

/-- The slice value v is nil or the call's own (from block 'base' on), and holds these texts. -/
def OwnS (w : World) (base : Nat) (e : TypeId) (v : Value) (ls : List (List UInt8)) : Prop := w.ownsRow base e 1 v ls.length (strs ls)

theorem OwnS.nil (w : World) (base : Nat) (e : TypeId) : OwnS w base e (.slice none 0 0) [] := World.ownsRow_nil _ _ _ _
theorem OwnS.lit (w : World) (base : Nat) (e : TypeId) (hb : base ≤ w.heap.size) : OwnS (w.alloc (.cells #[] e)) base e (.slice (some ⟨w.heap.size, 0, none⟩) 0 0) [] :=
  World.ownsRow_lit w #[] 0 hb (by decide) rfl
theorem OwnS.alloc {w : World} {base : Nat} {e : TypeId} {v : Value} {ls : List (List UInt8)} (h : OwnS w base e v ls) (o : Obj) : OwnS (w.alloc o) base e v ls := World.ownsRow.alloc h o
theorem OwnS.drewN {w : World} {base : Nat} {e : TypeId} {v : Value} {ls : List (List UInt8)} (h : OwnS w base e v ls) (n : Nat) : OwnS (w.drewN n) base e v ls := h
theorem OwnS.lower {w : World} {base base' : Nat} {e : TypeId} {v : Value} {ls : List (List UInt8)} (h : OwnS w base e v ls) (hb : base' ≤ base) : OwnS w base' e v ls := by
  refine ⟨h.1, ?_⟩
  rcases h.2 with h | ⟨g, cap, cur, h1, h2, h3⟩
  · exact .inl h
  · exact .inr ⟨g, cap, cur, h1, by omega, h3⟩

theorem OwnS.below {w w' : World} {base : Nat} {e : TypeId} {v : Value} {ls : List (List UInt8)} (h : OwnS w base e v ls) (hb : Below w.heap.size w w') : OwnS w' base e v ls := by
  refine ⟨h.1, ?_⟩
  rcases h.2 with h | ⟨g, cap, cur, h1, h2, h3, h4⟩
  · exact .inl h
  · exact .inr ⟨g, cap, cur, h1, h2, by rw [hb.block g (lt_of_block h3)]; exact h3, h4⟩

/-- The shape of an owned row of texts, and its cells. -/
theorem OwnS.form {w : World} {base : Nat} {e : TypeId} {v : Value} {ls : List (List UInt8)} (h : OwnS w base e v ls) : ∃ ao cap, v = .slice ao ls.length cap ∧
    (0 < ls.length → ∃ g, ao = some ⟨g, 0, none⟩ ∧ base ≤ g ∧ g < w.heap.size ∧ ∀ j, j < ls.length → w.cell? ⟨g, j, none⟩ = some (.string ⟨(ls.getD j []).toArray⟩) ∧ w.frozen? ⟨g, j, none⟩ = false) := by
  have h' : w.ownsRow base e 1 v ls.length (strs ls) := h
  rcases h'.2 with ⟨rfl, h0⟩ | ⟨g, cap, cur, rfl, hb, hh, _, _, _, _⟩
  · exact ⟨none, 0, by rw [h0], fun hp => by omega⟩
  · refine ⟨_, cap, rfl, fun _ => ⟨g, rfl, hb, lt_of_block hh, fun j hj => ⟨?_, h'.frozenAt j⟩⟩⟩
    rw [h'.cellAt j (by omega)]
    simp [strs, hj]

/-- One text of the row is written over. -/
theorem OwnS.stored {w : World} {base : Nat} {e : TypeId} {g n cap : Nat} {ls : List (List UInt8)} (hn : n = ls.length) (h : OwnS w base e (.slice (some ⟨g, 0, none⟩) n cap) ls) (j : Nat) (t : List UInt8) :
    OwnS (w.setCell ⟨g, j, none⟩ (.string ⟨t.toArray⟩)) base e (.slice (some ⟨g, 0, none⟩) n cap) (ls.set j t) := by
  subst hn
  have h' : w.ownsRow base e 1 (.slice (some ⟨g, 0, none⟩) ls.length cap) ls.length (strs ls) := h
  have h2 := (h'.stored j (.string ⟨t.toArray⟩)).1
  unfold OwnS
  have e1 : strs (ls.set j t) = (strs ls).set j (.string ⟨t.toArray⟩) := by simp [strs]
  rw [e1, List.length_set]
  exact h2

/-- 'out = append(out, t)': out a row of texts of the call's own. -/
theorem wpList_pushS {P : Program} (w : World) {ops : Array Oper} {rest : List Oper} {o : Oper} {a : Act} {Q : Exit → Act → World → Prop} (hgd : o.guard = none) (s x : Operand) (t : TypeId)
    (ho : o.op = .call { callee := .builtin .append, args := #[s, x], argTypes := #[t, t] })
    (base : Nat) (e : TypeId) (i : TypeInfo) (ht : P.underlying t = some (.slice e)) (hi : P.info? e = some i) (hz : i.zero = some (.string ByteArray.empty))
    (hsize : i.size = 1) (hby : i.bytes = 16) (v : Value) (ls : List (List UInt8)) (hs : a.eval s = v) (hown : OwnS w base e v ls)
    (l : List UInt8) (z : ByteArray) (hx : a.eval x = .slice (some ⟨w.heap.size, 0, none⟩) 1 1) (hzl : z = ⟨l.toArray⟩)
    (hlen : ls.length ≤ 1000000000) (hbase : base ≤ w.heap.size)
    (h : ∀ v' w', OwnS w' base e v' (ls ++ [l]) → Below base w w' → wpList P ops Q rest (a.put o.dst v') w') :
    wpList P ops Q (o :: rest) a (w.alloc (.cells #[.string z] e)) := by
  subst hzl
  refine wpList_append_own (w.alloc (.cells #[.string ⟨l.toArray⟩] e)) hgd s x t ho base e i (.string ByteArray.empty) 1 16 ht hi hz hsize hby rfl (by decide) v ls.length (strs ls) hs (World.ownsRow.alloc hown _) ⟨w.heap.size, 0, none⟩ 1 1 [.string ⟨l.toArray⟩] hx rfl
    (by intro j u hj; match j, hj with | 0, hj => simp at hj; subst hj; simp [Addr.add]) (by intro u hu; simp at hu; subst hu; rfl) (by unfold maxLen; omega) (by omega) (by simp; omega) ?_
  intro v' w' h1 h2 _
  refine h v' w' ?_ ?_
  · have e1 : (ls ++ [l]).length = ls.length + 1 := by simp
    have e2 : strs (ls ++ [l]) = strs ls ++ [.string ⟨l.toArray⟩] := by simp [strs]
    unfold OwnS
    rw [e1, e2]
    exact h1
  · exact ((Below.refl base w).alloc hbase _).grown h2 (by simp; omega) (fun k hk => (World.ownsRow.lt hown k hk).1)

end Go.Proofs.Ytphmomlgmnllkad
namespace Go.Proofs.Ytphmomlgmnllkad

theorem fig_inj : ∀ q r : Nat, q < 16 → r < 16 → fig q = fig r → q = r := by
  have h : ∀ q r : Fin 16, fig q.1 = fig r.1 → q.1 = r.1 := by decide
  intro q r hq hr e
  exact h ⟨q, hq⟩ ⟨r, hr⟩ e

/-- A text is figures of that base, and behind them nothing, or a byte that is none of them. -/
theorem figured (base : Nat) : ∀ l : List UInt8, ∃ (qs : List Nat) (tail : List UInt8), (∀ q ∈ qs, q < base) ∧ l = qs.map fig ++ tail ∧ (∀ x r, tail = x :: r → ∀ q, q < base → fig q ≠ x)
  | [] => ⟨[], [], by simp, rfl, by simp⟩
  | x :: l => by
    by_cases h : ∃ q, q < base ∧ fig q = x
    · obtain ⟨q, hq, rfl⟩ := h
      obtain ⟨qs, tail, h1, h2, h3⟩ := figured base l
      refine ⟨q :: qs, tail, ?_, by rw [h2]; rfl, h3⟩
      intro q' hq'
      rcases List.mem_cons.1 hq' with rfl | h'
      · exact hq
      · exact h1 q' h'
    · refine ⟨[], x :: l, by simp, rfl, ?_⟩
      intro x' r e q hq e2
      simp only [List.cons.injEq] at e
      exact h ⟨q, hq, e2.trans e.1.symm⟩

theorem at_fig (qs : List Nat) (tail : List UInt8) (k : Nat) (h : k < qs.length) : (qs.map fig ++ tail)[k]? = some (fig (qs.getD k 0)) := by
  rw [List.getElem?_append_left (by simpa using h)]
  simp [h]

theorem at_tail (qs : List Nat) (x : UInt8) (r : List UInt8) : (qs.map fig ++ x :: r)[qs.length]? = some x := by
  rw [List.getElem?_append_right (by simp)]
  simp

theorem byte_at (s : ByteArray) (k : Nat) (h : k < s.size) (x : UInt8) (e : s.data.toList[k]? = some x) : s[k] = x := by
  have h2 : k < s.data.toList.length := by simpa using h
  rw [List.getElem?_eq_getElem h2] at e
  simp only [Option.some.injEq] at e
  exact e

/-- What the figures are worth, as bytes. -/
def bytesOf (qs : List Nat) : List UInt8 := qs.map UInt8.ofNat

theorem bytesOf_snoc (qs : List Nat) (k : Nat) (h : k < qs.length) : bytesOf (qs.take (k + 1)) = bytesOf (qs.take k) ++ [UInt8.ofNat (qs.getD k 0)] := by
  unfold bytesOf
  rw [List.take_succ_eq_append_getElem h, List.map_append]
  simp [h]

theorem bytesOf_length (qs : List Nat) : (bytesOf qs).length = qs.length := by simp [bytesOf]

theorem eq_dec (a b : UInt8) : ((a.toNat : Int) == (b.toNat : Int)) = decide (a = b) := by
  by_cases h : a = b
  · subst h; simp
  · rw [decide_eq_false h, beq_eq_false_iff_ne]
    intro e
    exact h (UInt8.toNat_inj.1 (by omega))

theorem ofNat_int (m : Nat) (h : m ≤ 255) : (m : Int) = ((UInt8.ofNat m).toNat : Int) := by
  have : (UInt8.ofNat m).toNat = m := by simp; omega
  omega

theorem ne_toNat {a b : UInt8} (h : a ≠ b) : ((a.toNat : Int) == (b.toNat : Int)) = false := by
  rw [beq_eq_false_iff_ne]
  intro e
  exact h (UInt8.toNat_inj.1 (by omega))

end Go.Proofs.Ytphmomlgmnllkad
namespace Go.Proofs.Ytphmomlgmnllkad

/-- Figures from the last on. -/
def valR : List Nat → Nat
  | [] => 0
  | q :: r => q + 10 * valR r

def valD (l : List Nat) : Nat := valR l.reverse

theorem valD_snoc (l : List Nat) (q : Nat) : valD (l ++ [q]) = 10 * valD l + q := by
  unfold valD
  rw [List.reverse_append]
  show q + 10 * valR l.reverse = _
  omega

theorem valR_lt : ∀ (l : List Nat), (∀ q ∈ l, q < 10) → valR l < 10 ^ l.length
  | [], _ => by simp [valR]
  | q :: r, h => by
    have h1 := valR_lt r (fun x hx => h x (by simp [hx]))
    have h2 := h q (by simp)
    simp only [valR, List.length_cons, Nat.pow_succ]
    omega

theorem valR_append_zero : ∀ (l : List Nat), valR (l ++ [0]) = valR l
  | [] => rfl
  | q :: r => by
    show q + 10 * valR (r ++ [0]) = q + 10 * valR r
    rw [valR_append_zero r]

theorem valR_pos : ∀ (l : List Nat), l ≠ [] → l.getLast? ≠ some 0 → 1 ≤ valR l
  | [], h, _ => absurd rfl h
  | [q], _, h => by
    have : q ≠ 0 := fun e => h (by rw [e]; rfl)
    simp [valR]
    omega
  | q :: q2 :: r, _, h => by
    have h1 := valR_pos (q2 :: r) (by simp) (by simpa using h)
    show 1 ≤ q + 10 * valR (q2 :: r)
    omega

theorem dec_val : ∀ (l : List Nat), (∀ q ∈ l, q < 10) → l ≠ [] → (l.length = 1 ∨ l.getLast? ≠ some 0) → Lib.decDigits (valR l) = l.reverse.map fig
  | [], _, h, _ => absurd rfl h
  | [q], h, _, _ => by
    have h1 := h q (by simp)
    have e : valR [q] = q := by simp [valR]
    rw [e, Lib.decDigits_one h1]
    simp [fig, h1]
  | q :: q2 :: r, h, _, hl => by
    have h1 := h q (by simp)
    have hl2 : (q :: q2 :: r).getLast? ≠ some 0 := by
      rcases hl with hl | hl
      · simp at hl
      · exact hl
    have hl3 : (q2 :: r).getLast? ≠ some 0 := by simpa using hl2
    have ih := dec_val (q2 :: r) (fun x hx => h x (by simp at hx ⊢; right; exact hx)) (by simp) (.inr hl3)
    have hp := valR_pos (q2 :: r) (by simp) hl3
    have e : valR (q :: q2 :: r) = q + 10 * valR (q2 :: r) := rfl
    have e1 : valR (q :: q2 :: r) / 10 = valR (q2 :: r) := by rw [e]; omega
    have e2 : valR (q :: q2 :: r) % 10 = q := by rw [e]; omega
    rw [Lib.decDigits, dif_neg (by rw [e]; omega), e1, e2, ih, List.reverse_cons (a := q), List.map_append]
    simp [fig, h1]

theorem dec_length : ∀ (k u : Nat), 1 ≤ k → u < 10 ^ k → (Lib.decDigits u).length ≤ k
  | 0, _, h, _ => by omega
  | 1, u, _, h => by rw [Lib.decDigits_one (by simpa using h)]; simp
  | k + 2, u, _, h => by
    by_cases hs : u < 10
    · rw [Lib.decDigits_one hs]; simp
    · have hk : u / 10 < 10 ^ (k + 1) := by
        rw [Nat.pow_succ] at h
        omega
      have ih := dec_length (k + 1) (u / 10) (by omega) hk
      rw [Lib.decDigits, dif_neg hs, List.length_append]
      simp only [List.length_cons, List.length_nil]
      omega

theorem dec_val_not (l : List Nat) (h : ∀ q ∈ l, q < 10) (h1 : 1 < l.length) (h2 : l.getLast? = some 0) : Lib.decDigits (valR l) ≠ l.reverse.map fig := by
  intro e
  have e2 := congrArg List.length e
  rw [List.length_map, List.length_reverse] at e2
  obtain ⟨r, rfl⟩ : ∃ r, l = r ++ [0] := by
    rw [List.getLast?_eq_some_iff] at h2
    exact h2
  rw [valR_append_zero] at e2
  have h3 := valR_lt r (fun q hq => h q (by simp [hq]))
  have h4 := dec_length r.length (valR r) (by simp at h1; omega) h3
  simp at e2
  omega

/-- The figures are those of their number, just when there is one, or the first is not nought. -/
theorem dec_iff (qs : List Nat) (h : ∀ q ∈ qs, q < 10) (h0 : qs ≠ []) : Lib.decDigits (valD qs) = qs.map fig ↔ (qs.length = 1 ∨ qs.getD 0 0 ≠ 0) := by
  have hl : qs.reverse.getLast? = qs.head? := by simp
  have hd : qs.getD 0 0 = (qs.head?).getD 0 := by cases qs <;> rfl
  have hn : qs.reverse ≠ [] := by simpa using h0
  constructor
  · intro e
    by_cases h1 : qs.length = 1
    · exact .inl h1
    · right
      intro hz
      have hlen : 1 < qs.reverse.length := by
        have : qs.length ≠ 0 := fun e => h0 (List.length_eq_zero_iff.1 e)
        simp; omega
      refine dec_val_not qs.reverse (fun q hq => h q (by simpa using hq)) hlen ?_ (by rw [List.reverse_reverse]; exact e)
      rw [hl]
      cases qs with
      | nil => exact absurd rfl h0
      | cons a r => simp at hz; rw [hz]; rfl
  · intro hv
    have := dec_val qs.reverse (fun q hq => h q (by simpa using hq)) hn (by
      rcases hv with h1 | h1
      · left; simpa using h1
      · right
        rw [hl]
        intro e
        rw [hd, e] at h1
        exact h1 rfl)
    rw [List.reverse_reverse] at this
    exact this

theorem valD_lt (qs : List Nat) (h : ∀ q ∈ qs, q < 10) (hl : qs.length ≤ 10) : valD qs < 10000000000 := by
  have h1 := valR_lt qs.reverse (fun q hq => h q (by simpa using hq))
  have h2 : 10 ^ qs.reverse.length ≤ 10 ^ 10 := Nat.pow_le_pow_right (by omega) (by simpa using hl)
  unfold valD
  have e : (10 : Nat) ^ 10 = 10000000000 := by decide
  omega

theorem valD_take (qs : List Nat) (i : Nat) (h : i < qs.length) : valD (qs.take (i + 1)) = 10 * valD (qs.take i) + qs.getD i 0 := by
  rw [List.take_succ_eq_append_getElem h, valD_snoc]
  simp [h]

theorem digit_toNat (q : Nat) (h : q < 10) : (fig q).toNat = 48 + q := by rw [fig_toNat q (by omega), if_pos h]

theorem no_digit (x : UInt8) (h : ∀ q, q < 10 → fig q ≠ x) : x.toNat < 48 ∨ 57 < x.toNat := by
  by_cases h1 : 48 ≤ x.toNat ∧ x.toNat ≤ 57
  · exfalso
    refine h (x.toNat - 48) (by omega) ?_
    apply UInt8.toNat_inj.1
    rw [digit_toNat _ (by omega)]
    omega
  · omega

end Go.Proofs.Ytphmomlgmnllkad
