/-
  The program's heap: what is put, who is found, who is dropped.
-/
import Derived.Test.YtphmomlgmnllkaqJ11
import Derived.Test.YtphmomlgmnllkaqJ23
namespace Go.Proofs.Ytphmomlgmnllkaq
open Go.RowKit

/-- A heap in order, its keys unlike. -/
structure HeapP (w : World) (base b : Nat) (nd : Nat → Hd) (v : Value) (ps : List Nat) : Prop where
  hw : HeapW w base b nd v ps
  heap : HeapK (keyL (keyN nd) ps) ps.length
  one : KeyOne nd ps
theorem HeapP.next {w w' : World} {base b : Nat} {nd : Nat → Hd} {v : Value} {ps : List Nat} (h : HeapP w base b nd v ps) (hb : Below w.heap.size w w') : HeapP w' base b nd v ps := ⟨h.hw.next hb, h.heap, h.one⟩
theorem HeapP.congr {w : World} {base b : Nat} {nd nd' : Nat → Hd} {v : Value} {ps : List Nat} (h : HeapP w base b nd v ps) (e : ∀ x ∈ ps, nd' x = nd x) : HeapP w base b nd' v ps := by
  refine ⟨⟨h.hw.var, h.hw.row, fun p hp => by rw [e p hp]; exact h.hw.node p hp, h.hw.dup, h.hw.own, h.hw.vb⟩, h.heap.congr (fun c hc => ?_), fun p hp q hq he => h.one p hp q hq ?_⟩
  · rw [keyL_get _ (List.getElem?_eq_getElem hc), keyL_get _ (List.getElem?_eq_getElem hc)]
    unfold keyN
    rw [e _ (List.getElem_mem hc)]
  · unfold keyN at he ⊢
    rw [← e p hp, ← e q hq]
    exact he
theorem HeapP.lt {w : World} {base b : Nat} {nd : Nat → Hd} {v : Value} {ps : List Nat} (h : HeapP w base b nd v ps) {p : Nat} (hp : p ∈ ps) : p < w.heap.size := (h.hw.node p hp).lt

/-- What put leaves. -/
def PutGives (w : World) (base b : Nat) (nd : Nat → Hd) (ps : List Nat) (l : Ls) (e : Ending) (w' : World) : Prop :=
  ∃ (p : Nat) (nd' : Nat → Hd) (v' : Value) (qs : List Nat), e = .returned (.pointer (some ⟨p, 0, none⟩)) ∧ HeapP w' base b nd' v' qs ∧ qs.length = ps.length + 1 ∧ (∀ x, x ∈ qs ↔ x ∈ ps ∨ x = p) ∧ (nd' p).1 = l ∧ (∀ x ∈ ps, nd' x = nd x) ∧ p ∉ ps ∧ HChg base b w w'

set_option maxRecDepth 100000 in
set_option maxHeartbeats 1600000 in
theorem put_any {base b : Nat} {nd : Nat → Hd} {v : Value} {ps : List Nat} {w : World} (H : HeapP w base b nd v ps) (l0 l1 l2 : Int) (hk : ∀ p ∈ ps, (nd p).1.1 ≠ l0) (hl : ps.length ≤ 100000) (hbs : base ≤ w.heap.size) :
    Calls Try.prog 32 #[.pointer (some ⟨b, 0, none⟩), .agg #[.int .i64 l0, .int .i64 l1, .int .i64 l2]] w (PutGives w base b nd ps (l0, l1, l2)) := by
  obtain ⟨ao, cap, rfl, -⟩ := H.hw.form
  have HX := Lib.hid H
  have HKN := Lib.hid hk
  have B0 := Lib.hid ((Below.refl w.heap.size w).alloc (Nat.le_refl _) (.cells #[.int .i64 l0, .int .i64 l1, .int .i64 l2] LeaseT))
  have A0 := Lib.hid (VarA.new w LeaseT #[.int .i64 l0, .int .i64 l1, .int .i64 l2])
  clear H hk
  go_enter Try.func32, Try.ntmps32
  go_upto_region 1 with fail
  have hs0 : (w.alloc (.cells #[.int .i64 l0, .int .i64 l1, .int .i64 l2] LeaseT)).heap.size = w.heap.size + 1 := by simp
  generalize w.alloc (.cells #[.int .i64 l0, .int .i64 l1, .int .i64 l2] LeaseT) = X0 at *
  have H0 := Lib.hid (HX.out.next B0.out)
  have c0 : X0.cell? ⟨b, 0, none⟩ = some (.slice ao ps.length cap) := H0.out.hw.var.cell 0
  have a0 : X0.cell? ⟨w.heap.size, 0, none⟩ = some (.int .i64 l0) := A0.out.cell 0
  have a1 : X0.cell? ⟨w.heap.size, 1, none⟩ = some (.int .i64 l1) := A0.out.cell 1
  have a2 : X0.cell? ⟨w.heap.size, 2, none⟩ = some (.int .i64 l2) := A0.out.cell 2
  go_wp2_with fail
  go_region
  all_goals
    have B1 : Below X0.heap.size X0 ((X0.alloc (.cells #[.int .i64 l0, .int .i64 l1, .int .i64 l2, .int .i64 (ps.length : Int)] HnT)).drew) := ((Below.refl _ X0).alloc (Nat.le_refl _) _).drew
    have V1 : VarA (w.heap.size + 1) HnT #[.int .i64 l0, .int .i64 l1, .int .i64 l2, .int .i64 (ps.length : Int)] ((X0.alloc (.cells #[.int .i64 l0, .int .i64 l1, .int .i64 l2, .int .i64 (ps.length : Int)] HnT)).drew) := by
      rw [← hs0]
      exact (VarA.new X0 HnT _).drew
    generalize (X0.alloc (.cells #[.int .i64 l0, .int .i64 l1, .int .i64 l2, .int .i64 (ps.length : Int)] HnT)).drew = X1 at *
    obtain ⟨p, hp⟩ : ∃ p, p = w.heap.size + 1 := ⟨_, rfl⟩
    rw [← hp] at V1
    have hpn : p ∉ ps := fun h => by have := HX.out.lt h; omega
    obtain ⟨nd', hnd⟩ : ∃ nd' : Nat → Hd, nd' = fun x => if x = p then ((l0, l1, l2), (ps.length : Int)) else nd x := ⟨_, rfl⟩
    have hnp : nd' p = ((l0, l1, l2), (ps.length : Int)) := by rw [hnd]; exact if_pos rfl
    have hno : ∀ x ∈ ps, nd' x = nd x := fun x hx => by rw [hnd]; exact if_neg (fun e => hpn (by rw [← e]; exact hx))
    have h1 := (H0.out.next B1).congr hno
    have hone : KeyOne nd' (ps ++ [p]) := by
      have hxp : ∀ x ∈ ps, keyN nd' x ≠ keyN nd' p := fun x hx => by
        unfold keyN
        rw [hno x hx, hnp]
        exact HKN.out x hx
      intro x hx y hy e
      rcases List.mem_append.1 hx with hx | hx <;> rcases List.mem_append.1 hy with hy | hy
      · exact h1.one x hx y hy e
      · rw [List.mem_singleton.1 hy] at e
        exact absurd e (hxp x hx)
      · rw [List.mem_singleton.1 hx] at e
        exact absurd e.symm (hxp y hy)
      · rw [List.mem_singleton.1 hx, List.mem_singleton.1 hy]
    have hB : Below w.heap.size w X1 := B0.out.trans (B1.mono (by omega))
    have HC := Lib.hid (heapPush_any h1.hw p (by rw [hnp]; exact V1) (by omega) hpn (by omega) (Nat.le_trans hbs hB.size) hone h1.heap)
    have HBw := Lib.hid hB
    have HFC : Hid ((nd' p).1 = (l0, l1, l2) ∧ ∀ x ∈ ps, nd' x = nd x) := ⟨by rw [hnp], hno⟩
    have HON := Lib.hid hone
    rw [← hp]
    clear hB hone h1 hno hnp hnd V1 B1 H0 A0 B0 a0 a1 a2 c0 hp hs0 HX HKN
    go_wp2_with fail
    refine HC.out.mono ?_
    rintro e X2 ⟨rfl, v', qs, hq, hql, hqm, hqk, hqc⟩
    have FIN : Hid (PutGives w base b nd ps (l0, l1, l2) (.returned (.pointer (some ⟨p, 0, none⟩))) X2) :=
      ⟨p, nd', v', qs, rfl, ⟨hq, hqk, HON.out.sub (fun x hx => by rcases (hqm x).1 hx with h | h <;> simp [h])⟩, hql, hqm, HFC.out.1, HFC.out.2, hpn, (Below.hchg HBw.out base b).trans hqc⟩
    clear hq hql hqm hqk hqc HC
    go_wp2_with fail
    go_ret
    exact FIN.out

set_option maxRecDepth 100000 in
set_option maxHeartbeats 800000 in
theorem of_any {base b : Nat} {nd : Nat → Hd} {v : Value} {ps : List Nat} {w : World} (H : HeapW w base b nd v ps) (who : Int) (hl : ps.length ≤ 1000000) :
    Calls Try.prog 30 #[v, .int .i64 who] w fun e w' => ((∃ p ∈ ps, (nd p).1.2.1 = who ∧ e = .returned (.pointer (some ⟨p, 0, none⟩))) ∨ ((∀ p ∈ ps, (nd p).1.2.1 ≠ who) ∧ e = .returned (.pointer none))) ∧ w' = w := by
  obtain ⟨ao, cap, rfl, hf⟩ := H.form
  have HF := Lib.hid hf
  have H0 := Lib.hid H
  clear H hf
  go_enter Try.func30, Try.ntmps30
  go_wp2_with fail
  go_loopw [9] (fun c wr => ∃ k : Nat, k ≤ ps.length ∧ c = .int .i64 k ∧ Hid (∀ j, j < k → ∀ p, ps[j]? = some p → (nd p).1.2.1 ≠ who) ∧ wr = w) (fun c _ => ps.length - (intOf c).toNat)
  case atStart => exact ⟨0, Nat.zero_le _, rfl, fun j hj => absurd hj (by omega), by first | trivial | rfl⟩
  case round =>
    obtain ⟨k, hk, rfl, HN, rfl⟩ := hrel
    by_cases hlt : k < ps.length
    · have hlt' : (k : Int) < (ps.length : Int) := by omega
      obtain ⟨g, rfl, _, _, hc⟩ := HF.out (by omega)
      have hget : ps[k]? = some ps[k] := List.getElem?_eq_getElem hlt
      have hmem : ps[k] ∈ ps := List.getElem_mem hlt
      have d0 := (hc k _ hget).1
      have d1 := (H0.out.cells hmem).2.1
      generalize ps[k] = p at hget hmem d0 d1
      clear hc
      by_cases hla : (nd p).1.2.1 = who
      · have hbq : ((nd p).1.2.1 == who) = true := by rw [beq_iff_eq]; exact hla
        have HE := Lib.hid (And.intro hmem hla)
        clear hla hget hmem
        go_wp2_with fail
        go_ret
        exact ⟨.inl ⟨p, HE.out.1, HE.out.2, rfl⟩, by first | trivial | rfl⟩
      · have hbq : ((nd p).1.2.1 == who) = false := by rw [beq_eq_false_iff_ne]; exact hla
        have HN2 : Hid (∀ j, j < k + 1 → ∀ p, ps[j]? = some p → (nd p).1.2.1 ≠ who) := fun j hj x hx => by
          rcases Nat.lt_or_ge j k with h1 | h1
          · exact HN.out j h1 x hx
          · have : j = k := by omega
            subst this
            rw [hget] at hx
            cases hx
            exact hla
        clear hla hget hmem
        go_wp2_with fail
        go_roundw
        case rel => exact ⟨k + 1, by omega, by go_num, HN2, by first | trivial | rfl⟩
        case measure => simp [intOf]; omega
    · have hlt' : ¬ ((k : Int) < (ps.length : Int)) := by omega
      have HE : Hid (∀ p ∈ ps, (nd p).1.2.1 ≠ who) := fun p hp => by
        obtain ⟨j, hj⟩ := List.mem_iff_getElem?.1 hp
        exact HN.out j (by have := (List.getElem?_eq_some_iff.1 hj).1; omega) p hj
      go_wp2_with fail
      go_ret
      exact ⟨.inr ⟨HE.out, rfl⟩, by first | trivial | rfl⟩

set_option maxRecDepth 100000 in
set_option maxHeartbeats 800000 in
theorem drop_any {base b : Nat} {nd : Nat → Hd} {v : Value} {ps : List Nat} {w : World} (H : HeapP w base b nd v ps) (who : Int) (hl : ps.length ≤ 1000000) :
    Calls Try.prog 42 #[.pointer (some ⟨b, 0, none⟩), .int .i64 who] w fun e w' => (∃ n p, ps.length = n + 1 ∧ p ∈ ps ∧ (nd p).1.2.1 = who ∧ e = .returned (.bool true) ∧ Taken w base b nd ps n p w') ∨ ((∀ p ∈ ps, (nd p).1.2.1 ≠ who) ∧ e = .returned (.bool false) ∧ w' = w) := by
  obtain ⟨ao, cap, rfl, hf⟩ := H.hw.form
  have HF := Lib.hid hf
  have H0 := Lib.hid H
  have c0 : w.cell? ⟨b, 0, none⟩ = some (.slice ao ps.length cap) := H.hw.var.cell 0
  clear H hf
  go_enter Try.func42, Try.ntmps42
  go_wp2_with fail
  go_loopw [11] (fun c wr => ∃ k : Nat, k ≤ ps.length ∧ c = .int .i64 k ∧ Hid (∀ j, j < k → ∀ p, ps[j]? = some p → (nd p).1.2.1 ≠ who) ∧ wr = w) (fun c _ => ps.length - (intOf c).toNat)
  case atStart => exact ⟨0, Nat.zero_le _, rfl, fun j hj => absurd hj (by omega), by first | trivial | rfl⟩
  case round =>
    obtain ⟨k, hk, rfl, HN, rfl⟩ := hrel
    by_cases hlt : k < ps.length
    · have hlt' : (k : Int) < (ps.length : Int) := by omega
      obtain ⟨g, rfl, _, _, hc⟩ := HF.out (by omega)
      have hget : ps[k]? = some ps[k] := List.getElem?_eq_getElem hlt
      have hmem : ps[k] ∈ ps := List.getElem_mem hlt
      have d0 := (hc k _ hget).1
      have d1 := (H0.out.hw.cells hmem).2.1
      generalize ps[k] = p at hget hmem d0 d1
      clear hc
      by_cases hla : (nd p).1.2.1 = who
      · have hbq : ((nd p).1.2.1 == who) = true := by rw [beq_iff_eq]; exact hla
        have HE := Lib.hid (And.intro hmem hla)
        obtain ⟨n, hn⟩ : ∃ n, ps.length = n + 1 := ⟨ps.length - 1, by omega⟩
        have HR := Lib.hid (heapRemove_any H0.out.hw n k p hn hget (by omega) H0.out.one (by rw [← hn]; exact H0.out.heap))
        have HNN := Lib.hid hn
        clear hla hget hmem hn
        go_wp2_with fail
        refine HR.out.mono ?_
        rintro e w1 ⟨rfl, ht⟩
        have HT := Lib.hid ht
        clear ht HR
        go_wp2_with fail
        go_ret
        exact .inl ⟨n, p, HNN.out, HE.out.1, HE.out.2, rfl, HT.out⟩
      · have hbq : ((nd p).1.2.1 == who) = false := by rw [beq_eq_false_iff_ne]; exact hla
        have HN2 : Hid (∀ j, j < k + 1 → ∀ p, ps[j]? = some p → (nd p).1.2.1 ≠ who) := fun j hj x hx => by
          rcases Nat.lt_or_ge j k with h1 | h1
          · exact HN.out j h1 x hx
          · have : j = k := by omega
            subst this
            rw [hget] at hx
            cases hx
            exact hla
        clear hla hget hmem
        go_wp2_with fail
        go_roundw
        case rel => exact ⟨k + 1, by omega, by go_num, HN2, by first | trivial | rfl⟩
        case measure => simp [intOf]; omega
    · have hlt' : ¬ ((k : Int) < (ps.length : Int)) := by omega
      have HE : Hid (∀ p ∈ ps, (nd p).1.2.1 ≠ who) := fun p hp => by
        obtain ⟨j, hj⟩ := List.mem_iff_getElem?.1 hp
        exact HN.out j (by have := (List.getElem?_eq_some_iff.1 hj).1; omega) p hj
      go_wp2_with fail
      go_ret
      exact .inr ⟨HE.out, rfl, by first | trivial | rfl⟩

end Go.Proofs.Ytphmomlgmnllkaq
