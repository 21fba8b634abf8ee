/-
  What is acknowledged is dropped: slices.DeleteFunc with the program's closure, and dropSent.
-/
import Derived.Test.YthljmjbmmgligarJ32
import Derived.Test.YthljmjbmmgligarJ20
import Derived.Test.YthljmjbmmgligarJ24
namespace Go.Proofs.Ythljmjbmmgligar
open Go.RowKit

/-- The acks, in the closure's variable. -/
structure AcksAt (w0 : World) (q : Nat) (aa : Option Addr) (an ac : Nat) (acks : List Int) (X : World) : Prop where
  rd : layIntS.rd w0 [.slice aa an ac] acks
  below : Below w0.heap.size w0 X
  var : VarA q 25 #[.slice aa an ac] X
theorem AcksAt.next {w0 X Y : World} {q : Nat} {aa : Option Addr} {an ac : Nat} {acks : List Int} (h : AcksAt w0 q aa an ac acks X) (hb : Below X.heap.size X Y) : AcksAt w0 q aa an ac acks Y := ⟨h.rd, h.below.trans (hb.mono h.below.size), h.var.next hb⟩

theorem dropOne_any (x0 : Int) (x1 : ByteArray) (x2 x3 : Int) (w0 : World) (q : Nat) (aa : Option Addr) (an ac : Nat) (acks : List Int) (hl : acks.length ≤ 100000000) (b : Bool) (hb : b = true ↔ x0 ∈ acks) (w : World) (h : AcksAt w0 q aa an ac acks w) :
    Calls Try.prog 91 #[.agg #[.int .i64 x0, .string x1, .int .i64 x2, .int .i64 x3], .pointer (some ⟨q, 0, none⟩)] w fun e w' => e = .returned (.bool b) ∧ Below w.heap.size w w' := by
  have A0 := Lib.hid (VarA.new w PendingT #[.int .i64 x0, .string x1, .int .i64 x2, .int .i64 x3])
  have B0 := Lib.hid ((Below.refl w.heap.size w).alloc (Nat.le_refl _) (.cells #[.int .i64 x0, .string x1, .int .i64 x2, .int .i64 x3] PendingT))
  have H0 := Lib.hid (h.next B0.out)
  clear h
  go_enter Try.func91, Try.ntmps91
  go_upto_region 1 with fail
  generalize w.alloc (.cells #[.int .i64 x0, .string x1, .int .i64 x2, .int .i64 x3] PendingT) = X0 at *
  have c0 : X0.cell? ⟨w.heap.size, 0, none⟩ = some (.int .i64 x0) := A0.out.cell 0
  have cq : X0.cell? ⟨q, 0, none⟩ = some (.slice aa an ac) := H0.out.var.cell 0
  have K := Lib.hid (containsInt_any acks x0 _ b hb hl X0 (layIntS.below H0.out.rd H0.out.below))
  go_wp2_with fail
  refine (K.out).mono ?_
  rintro e X1 ⟨rfl, hw⟩
  have hw' := hw.symm
  subst hw'
  clear hw
  go_wp2_with fail
  go_ret
  exact ⟨rfl, B0.out⟩

def DropFound (acks : List Int) (ss : List PendingD) (e : Ending) : Prop := (∃ j : Nat, j < ss.length ∧ e = .returned (.int .i64 j) ∧ ss.take j = takeAcks acks (ss.take j) ∧ ∀ x, ss[j]? = some x → x.1 ∈ acks) ∨ (e = .returned (.int .i64 (-1)) ∧ ss = takeAcks acks ss)
theorem takeAcks_next (acks : List Int) (ss : List PendingD) (j : Nat) (x : PendingD) (hx : ss[j]? = some x) : takeAcks acks (ss.take (j + 1)) = takeAcks acks (ss.take j) ++ (if x.1 ∈ acks then [] else [x]) := by
  unfold takeAcks
  rw [List.take_add_one, hx, List.filter_append]
  simp only [Option.toList_some, List.filter_cons, List.filter_nil]
  by_cases h : x.1 ∈ acks
  · rw [if_neg (by simpa using h), if_pos h]
  · rw [if_pos (by simpa using h), if_neg h]

set_option maxRecDepth 100000 in
set_option maxHeartbeats 1600000 in
theorem indexDrop_any (ss : List PendingD) (v : Value) (hl : ss.length ≤ 100000000) (w0 : World) (q : Nat) (aa : Option Addr) (an ac : Nat) (acks : List Int) (ha : acks.length ≤ 100000000) (w : World) (h : layPendingS.rd w [v] ss) (hq : AcksAt w0 q aa an ac acks w) :
    Calls Try.prog 98 #[v, .func (.func 91) #[] #[.pointer (some ⟨q, 0, none⟩)]] w fun e w' => DropFound acks ss e ∧ Below w.heap.size w w' := by
  obtain ⟨sa, sc, rfl⟩ := rows_form h
  have HR := Lib.hid h
  have HQ := Lib.hid hq
  have HD := Lib.hid dropOne_any
  clear h hq
  go_enter Try.func98, Try.ntmps98
  go_wp2_with fail
  go_loopw [8] (fun c wr => ∃ m : Nat, m ≤ ss.length ∧ c = .int .i64 m ∧ Hid (ss.take m = takeAcks acks (ss.take m)) ∧ Below w.heap.size w wr) (fun c _ => ss.length - (intOf c).toNat)
  case atStart => exact ⟨0, Nat.zero_le _, rfl, Lib.hid rfl, Below.refl _ _⟩
  case round =>
    obtain ⟨m, hm, rfl, HN, hB⟩ := hrel
    have HB := Lib.hid hB
    clear hB
    by_cases hlt : m < ss.length
    · have hlt' : (m : Int) < (ss.length : Int) := by omega
      have hget := List.getElem?_eq_getElem hlt
      have HG : Hid (ss[m]? = some ss[m]) := Lib.hid hget
      have HT : Hid (takeAcks acks (ss.take (m + 1)) = takeAcks acks (ss.take m) ++ (if (ss[m]).1 ∈ acks then [] else [ss[m]])) := Lib.hid (takeAcks_next acks ss m _ hget)
      have HT2 : Hid (ss.take (m + 1) = ss.take m ++ [ss[m]]) := Lib.hid (by rw [List.take_add_one, hget]; rfl)
      obtain ⟨g, off, cs, rfl, hg, hr, hc⟩ := rows_elem (layPendingS.below HR.out HB.out) m _ hget
      clear hget
      generalize ss[m] = x at hr HG HT HT2
      rw [layPending_rd] at hr
      subst hr
      obtain ⟨x0, x1, x2, x3⟩ := x
      have d0 : wr.cell? ⟨g, off + m * 4, none⟩ = some (.int .i64 x0) := hc 0 _ rfl
      have d1 : wr.cell? ⟨g, off + m * 4 + 1, none⟩ = some (.string x1) := hc 1 _ rfl
      have d2 : wr.cell? ⟨g, off + m * 4 + 2, none⟩ = some (.int .i64 x2) := hc 2 _ rfl
      have d3 : wr.cell? ⟨g, off + m * 4 + 3, none⟩ = some (.int .i64 x3) := hc 3 _ rfl
      clear hc
      obtain ⟨bb, HBB⟩ : ∃ c : Bool, Hid (c = true ↔ x0 ∈ acks) := ⟨decide _, Lib.hid decide_eq_true_iff⟩
      have HC := Lib.hid (HD.out x0 x1 x2 x3 w0 q aa an ac acks ha bb HBB.out wr (HQ.out.next HB.out))
      cases bb with
      | true =>
        have hin := HBB.out.1 rfl
        have HE : Hid (DropFound acks ss (.returned (.int .i64 m))) := Lib.hid (.inl ⟨m, hlt, rfl, HN.out, fun x hx => by rw [HG.out] at hx; cases hx; exact hin⟩)
        clear hin
        go_wp2_with fail
        refine HC.out.mono ?_
        rintro e w1 ⟨rfl, hb1⟩
        have HB1 := Lib.hid (HB.out.trans (hb1.mono HB.out.size))
        clear hb1 HC
        go_wp2_with fail
        go_ret
        exact ⟨HE.out, HB1.out⟩
      | false =>
        have hin : ¬ (x0 ∈ acks) := fun h => by cases HBB.out.2 h
        have HN2 : Hid (ss.take (m + 1) = takeAcks acks (ss.take (m + 1))) := Lib.hid (by rw [HT.out, if_neg hin, ← HN.out]; exact HT2.out)
        clear hin
        go_wp2_with fail
        refine HC.out.mono ?_
        rintro e w1 ⟨rfl, hb1⟩
        have HB1 := Lib.hid (HB.out.trans (hb1.mono HB.out.size))
        clear hb1 HC
        go_wp2_with fail
        go_roundw
        case rel => exact ⟨m + 1, by omega, by go_num, HN2, HB1.out⟩
        case measure => simp [intOf]; omega
    · have hlt' : ¬ ((m : Int) < (ss.length : Int)) := by omega
      have hme : m = ss.length := by omega
      subst hme
      have HE : Hid (DropFound acks ss (.returned (.int .i64 (-1)))) := Lib.hid (.inr ⟨rfl, by have := HN.out; rwa [List.take_length] at this⟩)
      go_wp2_with fail
      go_ret
      exact ⟨HE.out, HB.out⟩

/-- What the loop holds: the first i are those that stay of the first j; from j on all is as it was. -/
def Dropped (acks : List Int) (ss : List PendingD) (i j : Nat) (cur : List PendingD) : Prop := cur.length = ss.length ∧ cur.take i = takeAcks acks (ss.take j) ∧ cur.drop j = ss.drop j ∧ i = (takeAcks acks (ss.take j)).length
theorem Dropped.get {acks : List Int} {ss cur : List PendingD} {i j : Nat} (h : Dropped acks ss i j cur) : cur[j]? = ss[j]? := by
  have e := congrArg (fun l => l[0]?) h.2.2.1
  simpa using e
theorem Dropped.skip {acks : List Int} {ss cur : List PendingD} {i j : Nat} {x : PendingD} (h : Dropped acks ss i j cur) (hx : ss[j]? = some x) (hin : x.1 ∈ acks) : Dropped acks ss i (j + 1) cur := by
  have e := takeAcks_next acks ss j x hx
  rw [if_pos hin, List.append_nil] at e
  refine ⟨h.1, by rw [e]; exact h.2.1, ?_, by rw [e]; exact h.2.2.2⟩
  have e2 := congrArg (fun l => l.drop 1) h.2.2.1
  simpa using e2
theorem Dropped.keep {acks : List Int} {ss cur : List PendingD} {i j : Nat} {x : PendingD} (h : Dropped acks ss i j cur) (hij : i < j) (hx : ss[j]? = some x) (hin : x.1 ∉ acks) : Dropped acks ss (i + 1) (j + 1) (cur.set i x) := by
  have e := takeAcks_next acks ss j x hx
  rw [if_neg hin] at e
  have hj := (List.getElem?_eq_some_iff.1 hx).1
  have hl := h.1
  refine ⟨by rw [List.length_set]; exact h.1, ?_, ?_, by rw [e, List.length_append, ← h.2.2.2]; rfl⟩
  · rw [e, ← h.2.1, List.take_add_one, List.getElem?_set_self (by omega), List.take_set_of_le (Nat.le_refl _)]
    rfl
  · rw [List.drop_set_of_lt (by omega)]
    have e2 := congrArg (fun l => l.drop 1) h.2.2.1
    simpa using e2
theorem takeAcks_le (acks : List Int) (ss : List PendingD) (j : Nat) : (takeAcks acks (ss.take j)).length ≤ j := Nat.le_trans (List.length_filter_le _ _) (by rw [List.length_take]; omega)

def DeleteEnd (lo g cap : Nat) (acks : List Int) (ss : List PendingD) (w : World) (e : Ending) (w' : World) : Prop := e = .returned (.slice (some ⟨g, 0, none⟩) (takeAcks acks ss).length cap) ∧ layPendingS.own w' lo [g] [.slice (some ⟨g, 0, none⟩) (takeAcks acks ss).length cap] (takeAcks acks ss) ∧ Chg [g] w w'
theorem zeroPend : ∀ w, (zeroValue PendingT).run Try.prog w = .ok (.agg #[.int .i64 0, .string ⟨#[]⟩, .int .i64 0, .int .i64 0]) w := fun w => by
  obtain ⟨i, hi, hz, hs, hb⟩ := info_of infoPending
  simp [zeroValue, typeInfo, hi, hz]

set_option maxRecDepth 100000 in
set_option maxHeartbeats 3200000 in
theorem deleteFunc_any (lo g cap : Nat) (ss : List PendingD) (hl : ss.length ≤ 100000000) (w0 : World) (q : Nat) (aa : Option Addr) (an ac : Nat) (acks : List Int) (ha : acks.length ≤ 100000000) (w : World) (hlo : w0.heap.size ≤ lo) (h : layPendingS.own w lo [g] [.slice (some ⟨g, 0, none⟩) ss.length cap] ss) (hq : AcksAt w0 q aa an ac acks w) :
    Calls Try.prog 90 #[.slice (some ⟨g, 0, none⟩) ss.length cap, .func (.func 91) #[] #[.pointer (some ⟨q, 0, none⟩)]] w (DeleteEnd lo g cap acks ss w) := by
  have hroom := rows_room (layPendingS.read h)
  have hgl := (layPendingS.blocks h g (by simp)).1
  have hqg : q ≠ g := fun e => row_off flatPending h hq.var (by decide) (by simp [e])
  have K1 := Lib.hid (indexDrop_any ss _ hl w0 q aa an ac acks ha w (layPendingS.read h) hq)
  have HO0 := Lib.hid h
  have HQ0 := Lib.hid hq
  have HD := Lib.hid dropOne_any
  clear h hq
  go_enter Try.func90, Try.ntmps90
  go_wp2_with fail
  refine (K1.out).mono ?_
  rintro e w1 ⟨hE, hb1⟩
  have HO1 := Lib.hid (layPendingS.next HO0.out hb1)
  have HQ1 := Lib.hid (HQ0.out.next hb1)
  have HC1 := Lib.hid (Below.chg hb1 [g])
  clear hb1 K1 HO0 HQ0
  rcases hE with ⟨i0, hi0, rfl, hT, hin⟩ | ⟨rfl, hT⟩
  rotate_left
  · have HE : Hid (DeleteEnd lo g cap acks ss w (.returned (.slice (some ⟨g, 0, none⟩) ss.length cap)) w1) := Lib.hid (by
      unfold DeleteEnd
      rw [← hT]
      exact ⟨rfl, HO1.out, HC1.out⟩)
    clear hT
    go_wp2_with fail
    go_ret
    exact HE.out
  have hne : ((i0 : Int) == -1) = false := by rw [beq_eq_false_iff_ne]; omega
  have hi0' : (i0 : Int) < (ss.length : Int) := by omega
  have D0 : Hid (Dropped acks ss i0 (i0 + 1) ss) := Lib.hid (by
    have hx := List.getElem?_eq_getElem hi0
    refine Dropped.skip ⟨rfl, hT, rfl, ?_⟩ hx (hin _ hx)
    rw [← hT, List.length_take]
    omega)
  clear hT hin
  go_wp2_with fail
  go_loopw [5, 6] (fun c5 c6 wr => ∃ (i j : Nat) (cur : List PendingD), i < j ∧ j ≤ ss.length ∧ c5 = .int .i64 i ∧ c6 = .int .i64 j ∧ cur.length ≤ 100000000 ∧ Hid (Dropped acks ss i j cur) ∧ Hid (layPendingS.own wr lo [g] [.slice (some ⟨g, 0, none⟩) ss.length cap] cur) ∧ Hid (AcksAt w0 q aa an ac acks wr) ∧ Hid (Chg [g] w wr)) (fun _ c _ => ss.length - (intOf c).toNat)
  case atStart => exact ⟨i0, i0 + 1, ss, by omega, by omega, rfl, by go_num, hl, D0, HO1, HQ1, HC1⟩
  case round =>
    obtain ⟨i, j, cur, hij, hj, rfl, rfl, hcl, HDR, HO, HQ, HCH⟩ := hrel
    clear D0 HO1 HQ1 HC1
    have hcl2 : Hid (cur.length = ss.length) := Lib.hid HDR.out.1
    by_cases hlt : j < ss.length
    · have hlt' : (j : Int) < (ss.length : Int) := by omega
      have hil' : (i : Int) < (ss.length : Int) := by omega
      have hget : ss[j]? = some ss[j] := List.getElem?_eq_getElem hlt
      have HG : Hid (ss[j]? = some ss[j]) := Lib.hid hget
      have hcj : cur[j]? = some ss[j] := by rw [HDR.out.get]; exact hget
      clear hget
      generalize ss[j] = x at HG hcj
      obtain ⟨x0, x1, x2, x3⟩ := x
      obtain ⟨g2, k2, cs, hv, hf, hgb, hgl2, hr, hc, -⟩ := flat_at flatPending HO.out j _ hcj
      simp only [Value.slice.injEq, Option.some.injEq, Addr.mk.injEq, and_true] at hv
      obtain ⟨rfl, -, rfl⟩ := hv
      rw [layPending_rd] at hr
      subst hr
      have d0 : wr.cell? ⟨g, j * 4, none⟩ = some (.int .i64 x0) := (hc 0 _ rfl).1
      have d1 : wr.cell? ⟨g, j * 4 + 1, none⟩ = some (.string x1) := (hc 1 _ rfl).1
      have d2 : wr.cell? ⟨g, j * 4 + 2, none⟩ = some (.int .i64 x2) := (hc 2 _ rfl).1
      have d3 : wr.cell? ⟨g, j * 4 + 3, none⟩ = some (.int .i64 x3) := (hc 3 _ rfl).1
      have SV := Lib.hid (VarA.new wr PendingT #[.int .i64 x0, .string x1, .int .i64 x2, .int .i64 x3])
      have SB : Hid (Below wr.heap.size wr (wr.alloc (.cells #[.int .i64 x0, .string x1, .int .i64 x2, .int .i64 x3] PendingT))) := Lib.hid ((Below.refl _ _).alloc (Nat.le_refl _) _)
      clear hc hf hcj
      go_upto_region 8 with fail
      generalize wr.alloc (.cells #[.int .i64 x0, .string x1, .int .i64 x2, .int .i64 x3] PendingT) = W at *
      have HOW := Lib.hid (layPendingS.next HO.out SB.out)
      have HQW := Lib.hid (HQ.out.next SB.out)
      have HCW := Lib.hid (HCH.out.trans (Below.chg SB.out [g]))
      clear HO HQ HCH SB d0 d1 d2 d3
      have hgq : g ≠ wr.heap.size := by omega
      generalize wr.heap.size = q2 at *
      have s0 : W.cell? ⟨q2, 0, none⟩ = some (.int .i64 x0) := SV.out.cell 0
      have s1 : W.cell? ⟨q2, 1, none⟩ = some (.string x1) := SV.out.cell 1
      have s2 : W.cell? ⟨q2, 2, none⟩ = some (.int .i64 x2) := SV.out.cell 2
      have s3 : W.cell? ⟨q2, 3, none⟩ = some (.int .i64 x3) := SV.out.cell 3
      obtain ⟨bb, HBB⟩ : ∃ c : Bool, Hid (c = true ↔ x0 ∈ acks) := ⟨decide _, Lib.hid decide_eq_true_iff⟩
      have HC := Lib.hid (HD.out x0 x1 x2 x3 w0 q aa an ac acks ha bb HBB.out W HQW.out)
      cases bb with
      | true =>
        have HDN := Lib.hid (HDR.out.skip HG.out (HBB.out.1 rfl))
        go_wp2_with fail
        refine HC.out.mono ?_
        rintro e w2 ⟨rfl, hb2⟩
        have HO2 := Lib.hid (layPendingS.next HOW.out hb2)
        have HQ2 := Lib.hid (HQW.out.next hb2)
        have HC2 := Lib.hid (HCW.out.trans (Below.chg hb2 [g]))
        clear hb2 HC s0 s1 s2 s3
        go_wp2_with fail
        go_roundw
        case rel => exact ⟨i, j + 1, cur, by omega, by omega, rfl, by go_num, hcl, HDN, HO2, HQ2, HC2⟩
        case measure => simp [intOf]; omega
      | false =>
        have HDN := Lib.hid (HDR.out.keep hij HG.out (fun h => by cases HBB.out.2 h))
        go_wp2_with fail
        refine HC.out.mono ?_
        rintro e w2 ⟨rfl, hb2⟩
        have HO2 := Lib.hid (layPendingS.next HOW.out hb2)
        have HQ2 := Lib.hid (HQW.out.next hb2)
        have HC2 := Lib.hid (HCW.out.trans (Below.chg hb2 [g]))
        have SV2 := Lib.hid (SV.out.next hb2)
        clear hb2 HC s0 s1 s2 s3 HOW HQW HCW SV
        have s0 : w2.cell? ⟨q2, 0, none⟩ = some (.int .i64 x0) := SV2.out.cell 0
        have s1 : w2.cell? ⟨q2, 1, none⟩ = some (.string x1) := SV2.out.cell 1
        have s2 : w2.cell? ⟨q2, 2, none⟩ = some (.int .i64 x2) := SV2.out.cell 2
        have s3 : w2.cell? ⟨q2, 3, none⟩ = some (.int .i64 x3) := SV2.out.cell 3
        have hic : i < cur.length := by rw [hcl2.out]; omega
        obtain ⟨g2, k2, cs, hv, hf, hgb, hgl2, hr, hc, hst⟩ := flat_at flatPending HO2.out i _ (List.getElem?_eq_getElem hic)
        simp only [Value.slice.injEq, Option.some.injEq, Addr.mk.injEq, and_true] at hv
        obtain ⟨rfl, -, rfl⟩ := hv
        have hcsl := layPending.len hr
        generalize cur[i] = y at hr
        obtain ⟨z0, z1, z2, z3⟩ := y
        rw [layPending_rd] at hr
        subst hr
        have t0 : w2.cell? ⟨g, i * 4, none⟩ = some (.int .i64 z0) := (hc 0 _ rfl).1
        have t1 : w2.cell? ⟨g, i * 4 + 1, none⟩ = some (.string z1) := (hc 1 _ rfl).1
        have t2 : w2.cell? ⟨g, i * 4 + 2, none⟩ = some (.int .i64 z2) := (hc 2 _ rfl).1
        have t3 : w2.cell? ⟨g, i * 4 + 3, none⟩ = some (.int .i64 z3) := (hc 3 _ rfl).1
        have f0 : w2.frozen? ⟨g, i * 4, none⟩ = false := (hc 0 _ rfl).2
        have f1 : w2.frozen? ⟨g, i * 4 + 1, none⟩ = false := (hc 1 _ rfl).2
        have f2 : w2.frozen? ⟨g, i * 4 + 2, none⟩ = false := (hc 2 _ rfl).2
        have f3 : w2.frozen? ⟨g, i * 4 + 3, none⟩ = false := (hc 3 _ rfl).2
        have hst2 := hst [.int .i64 x0, .string x1, .int .i64 x2, .int .i64 x3] 0 (x0, x1, x2, x3) (by show 0 + 4 ≤ 4; omega) (layPending_rd.2 rfl)
        have HO3 : Hid (layPendingS.own ((((w2.setCell ⟨g, i * 4, none⟩ (.int .i64 x0)).setCell ⟨g, i * 4 + 1, none⟩ (.string x1)).setCell ⟨g, i * 4 + 2, none⟩ (.int .i64 x2)).setCell ⟨g, i * 4 + 3, none⟩ (.int .i64 x3)) lo [g] [.slice (some ⟨g, 0, none⟩) ss.length cap] (cur.set i (x0, x1, x2, x3))) := Lib.hid hst2.1
        have hcg : Chg [g] w2 ((((w2.setCell ⟨g, i * 4, none⟩ (.int .i64 x0)).setCell ⟨g, i * 4 + 1, none⟩ (.string x1)).setCell ⟨g, i * 4 + 2, none⟩ (.int .i64 x2)).setCell ⟨g, i * 4 + 3, none⟩ (.int .i64 x3)) := hst2.2
        have HC3 := Lib.hid (HC2.out.trans hcg)
        have HQ3 : Hid (AcksAt w0 q aa an ac acks ((((w2.setCell ⟨g, i * 4, none⟩ (.int .i64 x0)).setCell ⟨g, i * 4 + 1, none⟩ (.string x1)).setCell ⟨g, i * 4 + 2, none⟩ (.int .i64 x2)).setCell ⟨g, i * 4 + 3, none⟩ (.int .i64 x3))) := Lib.hid ⟨HQ2.out.rd, HQ2.out.below.trans (hcg.below (fun k hk => by rw [List.mem_singleton] at hk; omega) HQ2.out.below.size), ⟨(hcg.block q HQ2.out.var.lt (by simpa using hqg)).trans HQ2.out.var.row⟩⟩
        have hcl3 : (cur.set i (x0, x1, x2, x3)).length ≤ 100000000 := by rw [List.length_set]; exact hcl
        clear hst hst2 hc hf hgb hgl2 hcg hcsl HO2 HC2 HQ2 SV2 hic
        go_wp2_with fail
        go_roundw
        case rel => exact ⟨i + 1, j + 1, cur.set i (x0, x1, x2, x3), by omega, by omega, by go_num, by go_num, hcl3, HDN, HO3, HQ3, HC3⟩
        case measure => simp [intOf]; omega
    · have hlt' : ¬ ((j : Int) < (ss.length : Int)) := by omega
      have hje : j = ss.length := by omega
      subst hje
      have hil : i ≤ ss.length := by omega
      have hii : (i : Int) ≤ (ss.length : Int) := by omega
      have hiz : (0 : Int) ≤ (i : Int) := by omega
      have hic : Hid (cur.take i = takeAcks acks ss ∧ i = (takeAcks acks ss).length) := Lib.hid (by
        have h1 := HDR.out.2.1
        have h2 := HDR.out.2.2.2
        rw [List.take_length] at h1 h2
        exact ⟨h1, h2⟩)
      have HO' : Hid (layPendingS.own wr lo [g] [.slice (some ⟨g, 0, none⟩) cur.length cap] cur) := Lib.hid (by rw [hcl2.out]; exact HO.out)
      have hic2 : ¬ (cap = i) := by omega
      have hroomi : (i : Int) ≤ (cap : Int) := by omega
      obtain ⟨w5, hr5, hown5, hcg5⟩ := run_clearF (P := Try.prog) wr 23 0 PendingT _ layPending flatPending Try.underlying23 zeroPend (by decide) rfl lo g cap cur HO'.out i (by rw [hcl2.out]; omega) (some ⟨g, i * 4, none⟩) (cap - i) (fun _ => rfl)
      rw [hcl2.out] at hr5
      have HF : Hid (DeleteEnd lo g cap acks ss w (.returned (.slice (some ⟨g, 0, none⟩) i cap)) w5) := Lib.hid (by
        unfold DeleteEnd
        obtain ⟨h1, h2⟩ := hic.out
        rw [h1] at hown5
        rw [← h2]
        exact ⟨rfl, hown5, HCH.out.trans hcg5⟩)
      clear hown5 hcg5
      go_wp2_with fail
      go_ret
      exact HF.out

end Go.Proofs.Ythljmjbmmgligar
