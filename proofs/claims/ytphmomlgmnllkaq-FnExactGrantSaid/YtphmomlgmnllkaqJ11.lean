/-
  container/heap's Pop and Remove over the program's heap.
  Routes as records of three numbers.
  The given DropTo.
  Small laws of no program: rows of texts that the call itself made.
  Plain mathematics of figures that are read: each is worth what it stands for; no program is spoken of here.
-/
import Derived.Test.YtphmomlgmnllkaqJ10
import Derived.Test.YtphmomlgmnllkaqJ04
import Derived.Test.YtphmomlgmnllkaqRows
import Derived.Deep.RegionHeld3
import Derived.BigQuiet
import Derived.Deep.QuietTactic
import Derived.Test.YtphmomlgmnllkaqJ03
import Derived.Test.YtphmomlgmnllkaqJ05
namespace Go.Proofs.Ytphmomlgmnllkaq
open Go.RowKit

/-- What is left behind one that is taken away. -/
def Taken (w : World) (base b : Nat) (nd : Nat → Hd) (ps : List Nat) (n p : Nat) (w' : World) : Prop := ∃ v' qs, HeapW w' base b nd v' qs ∧ qs.length = n ∧ (∀ x, x ∈ qs ↔ x ∈ ps ∧ x ≠ p) ∧ HeapK (keyL (keyN nd) qs) n ∧ HChg base b w w'
theorem taken_of {w w1 w2 : World} {base b n p : Nat} {nd : Nat → Hd} {ps qs : List Nat} {v : Value} (hl : qs.length = n + 1) (hp : qs[n]? = some p) (hd : qs.Nodup) (hm : ∀ x, x ∈ qs ↔ x ∈ ps) (hk : HeapK (keyL (keyN nd) qs) n) (h : HeapW w2 base b nd v (qs.take n)) (c1 : HChg base b w w1) (c2 : HChg base b w1 w2) : Taken w base b nd ps n p w2 :=
  ⟨v, qs.take n, h, by rw [List.length_take]; omega, fun x => by rw [take_last_mem hl hp hd x, hm x], hk.congr (fun c hc => (keyL_take (keyN nd) qs hc).symm), c1.trans c2⟩

set_option maxRecDepth 100000 in
set_option maxHeartbeats 1600000 in
theorem heapPop_any {base b : Nat} {nd : Nat → Hd} {v : Value} {ps : List Nat} {w : World} (H : HeapW w base b nd v ps) (n p : Nat) (hl : ps.length = n + 1) (hp : ps[0]? = some p) (hn : n ≤ 1000000) (hk : KeyOne nd ps) (hH : HeapK (keyL (keyN nd) ps) (n + 1)) :
    Calls Try.prog 55 #[.iface HqT (.pointer (some ⟨b, 0, none⟩))] w fun e w' => e = .returned (.iface HoT (.pointer (some ⟨p, 0, none⟩))) ∧ Taken w base b nd ps n p w' := by
  obtain ⟨ao, cap, rfl, -⟩ := H.form
  have HLN : Hid (ps.length = n + 1) := hl
  have c0 : w.cell? ⟨b, 0, none⟩ = some (.slice ao ps.length cap) := H.var.cell 0
  have mN := fun F => meth_len F ⟨b, 0, none⟩ w _ c0
  have mS := fun F => meth_swap F ⟨b, 0, none⟩ w _ c0
  have HSW := Lib.hid (swap_any H 0 n (by omega) (by omega))
  have hb0 : ButK (keyL (keyN nd) (swapL ps 0 n)) n 0 := by
    rw [keyL_swap _ _ (by omega) (by omega)]
    exact hH.but (by omega)
  have HB := Lib.hid hb0
  have H0 := Lib.hid H
  have HK := Lib.hid hk
  have HP := Lib.hid hp
  have e0 : (ps.length : Int) = (n : Int) + 1 := by omega
  have hnn : (n : Int) ≤ 1000000 := by omega
  clear H hk hH hb0 hp
  go_enter Try.func55, Try.ntmps55
  rw [hl] at c0 mN mS HSW
  go_wp2_with (first | (go_at_call 87; refine (len_any _ _ _ _).mono ?_; rintro e w' ⟨rfl, hw⟩; rw [hw]))
  refine HSW.out.mono ?_
  rintro e w1 ⟨rfl, h1, hc1⟩
  have H1 := Lib.hid h1
  have hbk : blk (.slice ao (n + 1) cap) = blk (.slice ao ps.length cap) := by rw [hl]
  have C1 : Hid (HChg base b w w1) := H0.out.hchg (hc1.sub (fun g hg => by rw [hbk] at hg; simp [hg]))
  have l1 : (swapL ps 0 n).length = n + 1 := by rw [swapL_length]; exact hl
  have HM1 := Lib.hid (Moved.swap (ps := ps) (i := 0) (j := n) (n := n + 1) (by omega) (by omega) (by omega) (by omega))
  have HDN := Lib.hid (down_any H1.out n 0 (by omega) (by omega) (by omega) (HK.out.sub (fun x hx => (HM1.out.mem x).1 hx)) HB.out)
  have HL1 := Lib.hid l1
  clear h1 hc1 mN mS HSW hbk l1
  go_wp2_with fail
  refine HDN.out.mono ?_
  rintro e w2 ⟨mv, qs, rfl, h2, hM, hE, hc2⟩
  have H2 := Lib.hid h2
  have HKQ : Hid (HeapK (keyL (keyN nd) qs) n) := by
    rcases hE with ⟨_, h⟩ | ⟨_, _, h⟩
    · exact h
    · exact h.done (.inl rfl)
  have C2 : Hid (HChg base b w w2) := C1.out.trans (H1.out.hchg (hc2.sub (fun g hg => by simp [hg])))
  have HQL : Hid (qs.length = n + 1) := hM.len.trans HL1.out
  have HQP : Hid (qs[n]? = some p) := by
    show qs[n]? = some p
    rw [hM.rest n (Nat.le_refl _), swapL_get ps (by omega) (by omega), ← HP.out]
    unfold swapI
    by_cases h : n = 0
    · rw [if_pos h, h]
    · rw [if_neg h, if_pos rfl]
  have HQM : Hid (∀ x, x ∈ qs ↔ x ∈ ps) := fun x => (hM.mem x).trans (HM1.out.mem x)
  have HPO := Lib.hid (pop_any H2.out n p HQL.out HQP.out (by omega))
  have mP := fun F => meth_pop F ⟨b, 0, none⟩ w2
  clear h2 hM hE hc2 HDN
  go_wp2_with fail
  refine HPO.out.mono ?_
  rintro e w3 ⟨rfl, v', h3, hc3⟩
  have FIN : Hid (Taken w base b nd ps n p w3) := taken_of HQL.out HQP.out H2.out.dup HQM.out HKQ.out h3 C2.out hc3
  clear h3 hc3 HPO mP
  go_wp2_with fail
  go_ret
  exact ⟨rfl, FIN.out⟩

set_option maxRecDepth 100000 in
set_option maxHeartbeats 1600000 in
theorem heapRemove_any {base b : Nat} {nd : Nat → Hd} {v : Value} {ps : List Nat} {w : World} (H : HeapW w base b nd v ps) (n i p : Nat) (hl : ps.length = n + 1) (hp : ps[i]? = some p) (hn : n ≤ 1000000) (hk : KeyOne nd ps) (hH : HeapK (keyL (keyN nd) ps) (n + 1)) :
    Calls Try.prog 58 #[.iface HqT (.pointer (some ⟨b, 0, none⟩)), .int .i64 i] w fun e w' => e = .returned (.iface HoT (.pointer (some ⟨p, 0, none⟩))) ∧ Taken w base b nd ps n p w' := by
  obtain ⟨ao, cap, rfl, -⟩ := H.form
  have hi : i < n + 1 := by rw [← hl]; exact (List.getElem?_eq_some_iff.1 hp).1
  have c0 : w.cell? ⟨b, 0, none⟩ = some (.slice ao ps.length cap) := H.var.cell 0
  have mN := fun F => meth_len F ⟨b, 0, none⟩ w _ c0
  have mS := fun F => meth_swap F ⟨b, 0, none⟩ w _ c0
  have H0 := Lib.hid H
  have HK := Lib.hid hk
  have HP := Lib.hid hp
  have hnn : (n : Int) ≤ 1000000 := by omega
  by_cases hin : i = n
  · subst hin
    have HPO := Lib.hid (pop_any H i p hl hp (by omega))
    have mP := fun F => meth_pop F ⟨b, 0, none⟩ w
    have HKQ : Hid (HeapK (keyL (keyN nd) ps) i) := fun c c0 cn => hH c c0 (by omega)
    have hbq : ((i : Int) != (i : Int)) = false := by rw [bne_eq_false_iff_eq]
    rw [hl] at c0 mN
    clear H hk hH hp mS
    go_enter Try.func58, Try.ntmps58
    go_wp2_with (first | (go_at_call 87; refine (len_any _ _ _ _).mono ?_; rintro e w' ⟨rfl, hw⟩; rw [hw]))
    refine HPO.out.mono ?_
    rintro e w3 ⟨rfl, v', h3, hc3⟩
    have FIN : Hid (Taken w base b nd ps i p w3) := taken_of hl HP.out H0.out.dup (fun _ => Iff.rfl) HKQ.out h3 (HChg.refl base b w) hc3
    clear h3 hc3 HPO mP
    go_wp2_with fail
    go_ret
    exact ⟨rfl, FIN.out⟩
  · have hbq : ((n : Int) != (i : Int)) = true := by rw [bne_iff_ne]; omega
    have HSW := Lib.hid (swap_any H i n (by omega) (by omega))
    have hb0 : ButK (keyL (keyN nd) (swapL ps i n)) n i := by
      rw [keyL_swap _ _ (by omega) (by omega)]
      exact hH.but (by omega)
    have HB := Lib.hid hb0
    clear H hk hH hb0 hp
    rw [hl] at c0 mN mS HSW
    go_enter Try.func58, Try.ntmps58
    go_wp2_with (first | (go_at_call 87; refine (len_any _ _ _ _).mono ?_; rintro e w' ⟨rfl, hw⟩; rw [hw]))
    refine HSW.out.mono ?_
    rintro e w1 ⟨rfl, h1, hc1⟩
    have H1 := Lib.hid h1
    have hbk : blk (.slice ao (n + 1) cap) = blk (.slice ao ps.length cap) := by rw [hl]
    have C1 : Hid (HChg base b w w1) := H0.out.hchg (hc1.sub (fun g hg => by rw [hbk] at hg; simp [hg]))
    have l1 : (swapL ps i n).length = n + 1 := by rw [swapL_length]; exact hl
    have HM1 := Lib.hid (Moved.swap (ps := ps) (i := i) (j := n) (n := n + 1) (by omega) (by omega) (by omega) (by omega))
    have HDN := Lib.hid (down_any H1.out n i (by omega) (by omega) (by omega) (HK.out.sub (fun x hx => (HM1.out.mem x).1 hx)) HB.out)
    have HL1 := Lib.hid l1
    have HS1 : Hid ((swapL ps i n)[n]? = some p) := by
      show _ = _
      rw [swapL_get ps (by omega) (by omega), ← HP.out]
      unfold swapI
      rw [if_neg (by omega), if_pos rfl]
    clear h1 hc1 mN mS HSW hbk l1
    go_wp2_with fail
    refine HDN.out.mono ?_
    rintro e w2 ⟨mv, qs, rfl, h2, hM, hE, hc2⟩
    have H2 := Lib.hid h2
    have HE := Lib.hid hE
    have C2 : Hid (HChg base b w w2) := C1.out.trans (H1.out.hchg (hc2.sub (fun g hg => by simp [hg])))
    have HQL : Hid (qs.length = n + 1) := hM.len.trans HL1.out
    have HQP : Hid (qs[n]? = some p) := (hM.rest n (Nat.le_refl _)).trans HS1.out
    have HQM : Hid (∀ x, x ∈ qs ↔ x ∈ ps) := fun x => (hM.mem x).trans (HM1.out.mem x)
    clear h2 hM hE hc2 HDN
    cases mv with
    | true =>
      have HKQ : Hid (HeapK (keyL (keyN nd) qs) n) := by
        rcases HE.out with ⟨_, h⟩ | ⟨h, _, _⟩
        · exact h
        · cases h
      have HPO := Lib.hid (pop_any H2.out n p HQL.out HQP.out (by omega))
      have mP := fun F => meth_pop F ⟨b, 0, none⟩ w2
      go_wp2_with fail
      refine HPO.out.mono ?_
      rintro e w3 ⟨rfl, v', h3, hc3⟩
      have FIN : Hid (Taken w base b nd ps n p w3) := taken_of HQL.out HQP.out H2.out.dup HQM.out HKQ.out h3 C2.out hc3
      clear h3 hc3 HPO mP
      go_wp2_with fail
      go_ret
      exact ⟨rfl, FIN.out⟩
    | false =>
      have HUQ : Hid (UpK (keyL (keyN nd) qs) n i) := by
        rcases HE.out with ⟨h, _⟩ | ⟨_, _, h⟩
        · cases h
        · exact h
      have HUP := Lib.hid (up_any H2.out n i (by have := HQL.out; omega) (by omega) (by have := HQL.out; omega) (HK.out.sub (fun x hx => (HQM.out x).1 hx)) HUQ.out)
      go_wp2_with fail
      refine HUP.out.mono ?_
      rintro e w3 ⟨rfl, rs, h3, hM3, hK3, hc3⟩
      have H3 := Lib.hid h3
      have C3 : Hid (HChg base b w w3) := C2.out.trans (H2.out.hchg (hc3.sub (fun g hg => by simp [hg])))
      have HRL : Hid (rs.length = n + 1) := hM3.len.trans HQL.out
      have HRP : Hid (rs[n]? = some p) := (hM3.rest n (Nat.le_refl _)).trans HQP.out
      have HRM : Hid (∀ x, x ∈ rs ↔ x ∈ ps) := fun x => (hM3.mem x).trans (HQM.out x)
      have HKR := Lib.hid hK3
      have HPO := Lib.hid (pop_any H3.out n p HRL.out HRP.out (by omega))
      have mP := fun F => meth_pop F ⟨b, 0, none⟩ w3
      clear h3 hM3 hK3 hc3 HUP
      go_wp2_with fail
      refine HPO.out.mono ?_
      rintro e w4 ⟨rfl, v', h4, hc4⟩
      have FIN : Hid (Taken w base b nd ps n p w4) := taken_of HRL.out HRP.out H3.out.dup HRM.out HKR.out h4 C3.out hc4
      clear h4 hc4 HPO mP
      go_wp2_with fail
      go_ret
      exact ⟨rfl, FIN.out⟩

end Go.Proofs.Ytphmomlgmnllkaq
namespace Go.Proofs.Ytphmomlgmnllkaq
open Go.RowKit

/-- A route: address, length, whom it leads to. -/
abbrev Rt := Int × Int × Int
def rtRec : Rec Rt where
  k := 3
  enc := fun r => [.int .i64 r.1, .int .i64 r.2.1, .int .i64 r.2.2]
  len := fun _ => rfl
  one := fun r u hu => by
    simp only [List.mem_cons, List.not_mem_nil, or_false] at hu
    rcases hu with rfl | rfl | rfl <;> rfl
  pos := by decide
end Go.Proofs.Ytphmomlgmnllkaq
namespace Go.Proofs.Ytphmomlgmnllkaq
open Go.RowKit

theorem row_three {w : World} {g : Nat} {xs : List Rt} (h : ∀ j t x, xs[j]? = some x → t < rtRec.k → w.cell? ⟨g, rtRec.k * j + t, none⟩ = (rtRec.enc x)[t]?) (j : Nat) (x : Rt) (hx : xs[j]? = some x) :
    w.cell? ⟨g, j * 3, none⟩ = some (.int .i64 x.1) ∧ w.cell? ⟨g, j * 3 + 1, none⟩ = some (.int .i64 x.2.1) ∧ w.cell? ⟨g, j * 3 + 2, none⟩ = some (.int .i64 x.2.2) := by
  have h0 := h j 0 x hx (by decide)
  have h1 := h j 1 x hx (by decide)
  have h2 := h j 2 x hx (by decide)
  have e : rtRec.k * j = j * 3 := Nat.mul_comm _ _
  rw [e] at h0 h1 h2
  exact ⟨h0, h1, h2⟩

end Go.Proofs.Ytphmomlgmnllkaq
namespace Go.Proofs.Ytphmomlgmnllkaq
open Go.RowKit

def strs (ls : List (List UInt8)) : List Value := ls.map fun l => Value.string ⟨l.toArray⟩

/-- The slice value v is nil or the call's own (from block 'base' on), and holds these texts. -/
def OwnS (w : World) (base : Nat) (e : TypeId) (v : Value) (ls : List (List UInt8)) : Prop := w.ownsRow base e 1 v ls.length (strs ls)

theorem OwnS.nil (w : World) (base : Nat) (e : TypeId) : OwnS w base e (.slice none 0 0) [] := World.ownsRow_nil _ _ _ _
theorem OwnS.lit (w : World) (base : Nat) (e : TypeId) (hb : base ≤ w.heap.size) : OwnS (w.alloc (.cells #[] e)) base e (.slice (some ⟨w.heap.size, 0, none⟩) 0 0) [] :=
  World.ownsRow_lit w #[] 0 hb (by decide) rfl
theorem OwnS.alloc {w : World} {base : Nat} {e : TypeId} {v : Value} {ls : List (List UInt8)} (h : OwnS w base e v ls) (o : Obj) : OwnS (w.alloc o) base e v ls := World.ownsRow.alloc h o
theorem OwnS.drewN {w : World} {base : Nat} {e : TypeId} {v : Value} {ls : List (List UInt8)} (h : OwnS w base e v ls) (n : Nat) : OwnS (w.drewN n) base e v ls := h
theorem OwnS.lower {w : World} {base base' : Nat} {e : TypeId} {v : Value} {ls : List (List UInt8)} (h : OwnS w base e v ls) (hb : base' ≤ base) : OwnS w base' e v ls := by
  refine ⟨h.1, ?_⟩
  rcases h.2 with h | ⟨g, cap, cur, h1, h2, h3⟩
  · exact .inl h
  · exact .inr ⟨g, cap, cur, h1, by omega, h3⟩

theorem OwnS.below {w w' : World} {base : Nat} {e : TypeId} {v : Value} {ls : List (List UInt8)} (h : OwnS w base e v ls) (hb : Below w.heap.size w w') : OwnS w' base e v ls := by
  refine ⟨h.1, ?_⟩
  rcases h.2 with h | ⟨g, cap, cur, h1, h2, h3, h4⟩
  · exact .inl h
  · exact .inr ⟨g, cap, cur, h1, h2, by rw [hb.block g (lt_of_block h3)]; exact h3, h4⟩

/-- The shape of an owned row of texts, and its cells. -/
theorem OwnS.form {w : World} {base : Nat} {e : TypeId} {v : Value} {ls : List (List UInt8)} (h : OwnS w base e v ls) : ∃ ao cap, v = .slice ao ls.length cap ∧
    (0 < ls.length → ∃ g, ao = some ⟨g, 0, none⟩ ∧ base ≤ g ∧ g < w.heap.size ∧ ∀ j, j < ls.length → w.cell? ⟨g, j, none⟩ = some (.string ⟨(ls.getD j []).toArray⟩) ∧ w.frozen? ⟨g, j, none⟩ = false) := by
  have h' : w.ownsRow base e 1 v ls.length (strs ls) := h
  rcases h'.2 with ⟨rfl, h0⟩ | ⟨g, cap, cur, rfl, hb, hh, _, _, _, _⟩
  · exact ⟨none, 0, by rw [h0], fun hp => by omega⟩
  · refine ⟨_, cap, rfl, fun _ => ⟨g, rfl, hb, lt_of_block hh, fun j hj => ⟨?_, h'.frozenAt j⟩⟩⟩
    rw [h'.cellAt j (by omega)]
    simp [strs, hj]

/-- One text of the row is written over. -/
theorem OwnS.stored {w : World} {base : Nat} {e : TypeId} {g n cap : Nat} {ls : List (List UInt8)} (hn : n = ls.length) (h : OwnS w base e (.slice (some ⟨g, 0, none⟩) n cap) ls) (j : Nat) (t : List UInt8) :
    OwnS (w.setCell ⟨g, j, none⟩ (.string ⟨t.toArray⟩)) base e (.slice (some ⟨g, 0, none⟩) n cap) (ls.set j t) := by
  subst hn
  have h' : w.ownsRow base e 1 (.slice (some ⟨g, 0, none⟩) ls.length cap) ls.length (strs ls) := h
  have h2 := (h'.stored j (.string ⟨t.toArray⟩)).1
  unfold OwnS
  have e1 : strs (ls.set j t) = (strs ls).set j (.string ⟨t.toArray⟩) := by simp [strs]
  rw [e1, List.length_set]
  exact h2

/-- 'out = append(out, t)': out a row of texts of the call's own. -/
theorem wpList_pushS {P : Program} (w : World) {ops : Array Oper} {rest : List Oper} {o : Oper} {a : Act} {Q : Exit → Act → World → Prop} (hgd : o.guard = none) (s x : Operand) (t : TypeId)
    (ho : o.op = .call { callee := .builtin .append, args := #[s, x], argTypes := #[t, t] })
    (base : Nat) (e : TypeId) (i : TypeInfo) (ht : P.underlying t = some (.slice e)) (hi : P.info? e = some i) (hz : i.zero = some (.string ByteArray.empty))
    (hsize : i.size = 1) (hby : i.bytes = 16) (v : Value) (ls : List (List UInt8)) (hs : a.eval s = v) (hown : OwnS w base e v ls)
    (l : List UInt8) (z : ByteArray) (hx : a.eval x = .slice (some ⟨w.heap.size, 0, none⟩) 1 1) (hzl : z = ⟨l.toArray⟩)
    (hlen : ls.length ≤ 1000000000) (hbase : base ≤ w.heap.size)
    (h : ∀ v' w', OwnS w' base e v' (ls ++ [l]) → Below base w w' → wpList P ops Q rest (a.put o.dst v') w') :
    wpList P ops Q (o :: rest) a (w.alloc (.cells #[.string z] e)) := by
  subst hzl
  refine wpList_append_own (w.alloc (.cells #[.string ⟨l.toArray⟩] e)) hgd s x t ho base e i (.string ByteArray.empty) 1 16 ht hi hz hsize hby rfl (by decide) v ls.length (strs ls) hs (World.ownsRow.alloc hown _) ⟨w.heap.size, 0, none⟩ 1 1 [.string ⟨l.toArray⟩] hx rfl
    (by intro j u hj; match j, hj with | 0, hj => simp at hj; subst hj; simp [Addr.add]) (by intro u hu; simp at hu; subst hu; rfl) (by unfold maxLen; omega) (by omega) (by simp; omega) ?_
  intro v' w' h1 h2 _
  refine h v' w' ?_ ?_
  · have e1 : (ls ++ [l]).length = ls.length + 1 := by simp
    have e2 : strs (ls ++ [l]) = strs ls ++ [.string ⟨l.toArray⟩] := by simp [strs]
    unfold OwnS
    rw [e1, e2]
    exact h1
  · exact ((Below.refl base w).alloc hbase _).grown h2 (by simp; omega) (fun k hk => (World.ownsRow.lt hown k hk).1)

end Go.Proofs.Ytphmomlgmnllkaq
namespace Go.Proofs.Ytphmomlgmnllkaq

theorem fig_inj : ∀ q r : Nat, q < 16 → r < 16 → fig q = fig r → q = r := by
  have h : ∀ q r : Fin 16, fig q.1 = fig r.1 → q.1 = r.1 := by decide
  intro q r hq hr e
  exact h ⟨q, hq⟩ ⟨r, hr⟩ e

/-- A text is figures of that base, and behind them nothing, or a byte that is none of them. -/
theorem figured (base : Nat) : ∀ l : List UInt8, ∃ (qs : List Nat) (tail : List UInt8), (∀ q ∈ qs, q < base) ∧ l = qs.map fig ++ tail ∧ (∀ x r, tail = x :: r → ∀ q, q < base → fig q ≠ x)
  | [] => ⟨[], [], by simp, rfl, by simp⟩
  | x :: l => by
    by_cases h : ∃ q, q < base ∧ fig q = x
    · obtain ⟨q, hq, rfl⟩ := h
      obtain ⟨qs, tail, h1, h2, h3⟩ := figured base l
      refine ⟨q :: qs, tail, ?_, by rw [h2]; rfl, h3⟩
      intro q' hq'
      rcases List.mem_cons.1 hq' with rfl | h'
      · exact hq
      · exact h1 q' h'
    · refine ⟨[], x :: l, by simp, rfl, ?_⟩
      intro x' r e q hq e2
      simp only [List.cons.injEq] at e
      exact h ⟨q, hq, e2.trans e.1.symm⟩

theorem at_fig (qs : List Nat) (tail : List UInt8) (k : Nat) (h : k < qs.length) : (qs.map fig ++ tail)[k]? = some (fig (qs.getD k 0)) := by
  rw [List.getElem?_append_left (by simpa using h)]
  simp [h]

theorem at_tail (qs : List Nat) (x : UInt8) (r : List UInt8) : (qs.map fig ++ x :: r)[qs.length]? = some x := by
  rw [List.getElem?_append_right (by simp)]
  simp

theorem byte_at (s : ByteArray) (k : Nat) (h : k < s.size) (x : UInt8) (e : s.data.toList[k]? = some x) : s[k] = x := by
  have h2 : k < s.data.toList.length := by simpa using h
  rw [List.getElem?_eq_getElem h2] at e
  simp only [Option.some.injEq] at e
  exact e

/-- What the figures are worth, as bytes. -/
def bytesOf (qs : List Nat) : List UInt8 := qs.map UInt8.ofNat

theorem bytesOf_snoc (qs : List Nat) (k : Nat) (h : k < qs.length) : bytesOf (qs.take (k + 1)) = bytesOf (qs.take k) ++ [UInt8.ofNat (qs.getD k 0)] := by
  unfold bytesOf
  rw [List.take_succ_eq_append_getElem h, List.map_append]
  simp [h]

theorem bytesOf_length (qs : List Nat) : (bytesOf qs).length = qs.length := by simp [bytesOf]

theorem eq_dec (a b : UInt8) : ((a.toNat : Int) == (b.toNat : Int)) = decide (a = b) := by
  by_cases h : a = b
  · subst h; simp
  · rw [decide_eq_false h, beq_eq_false_iff_ne]
    intro e
    exact h (UInt8.toNat_inj.1 (by omega))

theorem ofNat_int (m : Nat) (h : m ≤ 255) : (m : Int) = ((UInt8.ofNat m).toNat : Int) := by
  have : (UInt8.ofNat m).toNat = m := by simp; omega
  omega

theorem ne_toNat {a b : UInt8} (h : a ≠ b) : ((a.toNat : Int) == (b.toNat : Int)) = false := by
  rw [beq_eq_false_iff_ne]
  intro e
  exact h (UInt8.toNat_inj.1 (by omega))

end Go.Proofs.Ytphmomlgmnllkaq
