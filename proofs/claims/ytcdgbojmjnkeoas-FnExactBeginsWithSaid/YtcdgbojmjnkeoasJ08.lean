/-
  The given TurnOk and BeginsWith.
  The beginning of a row that can be read.
  The program's TurnOk and BeginsWith.
-/
import Derived.Test.YtcdgbojmjnkeoasJ05
import Derived.Test.YtcdgbojmjnkeoasJ07
namespace Go.Proofs.Ytcdgbojmjnkeoas
open Go.RowKit

/-- A right turn. -/
def TurnP (k e at_ : Int) : Prop := (1 ≤ k ∧ k ≤ 4) ∧ (0 ≤ e ∧ e ≤ 1) ∧ 0 ≤ at_
set_option maxRecDepth 100000 in
set_option maxHeartbeats 800000 in
theorem specTurnOk_bool (k e at_ : Int) (b : Bool) (hb : b = true ↔ TurnP k e at_) (w : World) :
    Calls Try.prog 6 #[.agg #[.int .i64 k, .int .i64 e, .int .i64 at_]] w fun r w' => r = .returned (.bool b) ∧ Below w.heap.size w w' := by
  have A0 := Lib.hid (VarA.new w TurnT #[.int .i64 k, .int .i64 e, .int .i64 at_])
  have B0 := Lib.hid ((Below.refl w.heap.size w).alloc (Nat.le_refl _) (.cells #[.int .i64 k, .int .i64 e, .int .i64 at_] TurnT))
  have HB := Lib.hid hb
  clear hb
  go_enter Try.func6, Try.ntmps6
  go_upto_region 1 with fail
  generalize w.alloc (.cells #[.int .i64 k, .int .i64 e, .int .i64 at_] TurnT) = Y at *
  have c0 : Y.cell? ⟨w.heap.size, 0, none⟩ = some (.int .i64 k) := A0.out.cell 0
  have c1 : Y.cell? ⟨w.heap.size, 1, none⟩ = some (.int .i64 e) := A0.out.cell 1
  have c2 : Y.cell? ⟨w.heap.size, 2, none⟩ = some (.int .i64 at_) := A0.out.cell 2
  have HF : Hid (¬ TurnP k e at_ → b = false) := Lib.hid (fun h => by
    cases b with
    | false => rfl
    | true => exact absurd (HB.out.1 rfl) h)
  by_cases hk : 1 ≤ k ∧ k ≤ 4
  rotate_left
  · obtain rfl := HF.out (fun h => hk h.1)
    have K := Lib.hid (inRange_no k 1 4 (by omega) Y)
    go_wp2_with fail
    refine (K.out).mono ?_
    rintro r Z9 ⟨rfl, hw⟩
    rw [hw]
    clear hw K Z9
    go_wp2_with fail
    go_ret
    exact ⟨rfl, B0.out⟩
  have K := Lib.hid (inRange_yes k 1 4 hk.1 hk.2 Y)
  go_wp2_with fail
  refine (K.out).mono ?_
  rintro r Z9 ⟨rfl, hw⟩
  rw [hw]
  clear hw K Z9
  by_cases he : 0 ≤ e ∧ e ≤ 1
  rotate_left
  · obtain rfl := HF.out (fun h => he h.2.1)
    have K := Lib.hid (inRange_no e 0 1 (by omega) Y)
    go_wp2_with fail
    refine (K.out).mono ?_
    rintro r Z9 ⟨rfl, hw⟩
    rw [hw]
    clear hw K Z9
    go_wp2_with fail
    go_ret
    exact ⟨rfl, B0.out⟩
  have K := Lib.hid (inRange_yes e 0 1 he.1 he.2 Y)
  go_wp2_with fail
  refine (K.out).mono ?_
  rintro r Z9 ⟨rfl, hw⟩
  rw [hw]
  clear hw K Z9
  by_cases ha : 0 ≤ at_
  · obtain rfl : b = true := HB.out.2 ⟨hk, he, ha⟩
    go_wp2_with fail
    go_ret
    exact ⟨rfl, B0.out⟩
  · obtain rfl := HF.out (fun h => ha h.2.2)
    have ha2 : decide (0 ≤ at_) = false := decide_eq_false ha
    go_wp2_with fail
    go_ret
    exact ⟨rfl, B0.out⟩

/-- Texts that are not one, byte by byte. -/
theorem words_ne {a b : ByteArray} (h : ¬ a = b) : (a.toList == b.toList) = false := by
  rw [beq_eq_false_iff_ne]
  intro e
  refine h ?_
  rw [ByteArray.toList_eq, ByteArray.toList_eq] at e
  exact ByteArray.ext (Array.toList_inj.1 e)
/-- The first n of one are those of the other one. -/
def BeginTo (all some : List ByteArray) (n : Nat) : Prop := ∀ i, i < n → all[i]? = some[i]?
theorem begin_all {all sm : List ByteArray} (_ : sm.length ≤ all.length) (h : BeginTo all sm sm.length) : sm <+: all := by
  rw [List.prefix_iff_eq_take]
  refine List.ext_getElem? fun i => ?_
  rw [List.getElem?_take]
  split
  · next hi => exact (h i hi).symm
  · next hi => exact List.getElem?_eq_none (by omega)
theorem begin_of {all sm : List ByteArray} (h : sm <+: all) {i : Nat} (hi : i < sm.length) : all[i]? = sm[i]? := by
  obtain ⟨t, rfl⟩ := h
  exact List.getElem?_append_left hi
set_option maxRecDepth 100000 in
set_option maxHeartbeats 1600000 in
theorem specBegins_bool (all sm : List ByteArray) (v u : Value) (b : Bool) (hb : b = true ↔ sm <+: all) (hl : all.length ≤ 100000000) (_ : sm.length ≤ 100000000) (w : World) (hv : layStringS.rd w [v] all) (hu : layStringS.rd w [u] sm) :
    Calls Try.prog 10 #[v, u] w fun e w' => e = .returned (.bool b) ∧ Below w.heap.size w w' := by
  obtain ⟨ao, cp, rfl⟩ := rows_form hv
  obtain ⟨bo, dp, rfl⟩ := rows_form hu
  have HV := Lib.hid hv
  have HU := Lib.hid hu
  have HB := Lib.hid hb
  have HF : Hid (¬ sm <+: all → b = false) := Lib.hid (fun h => by
    cases b with
    | false => rfl
    | true => exact absurd (HB.out.1 rfl) h)
  clear hv hu hb
  by_cases hlen : all.length < sm.length
  · obtain rfl := HF.out (fun h => by have := h.length_le; omega)
    have k1 : (all.length : Int) < (sm.length : Int) := by omega
    go_enter Try.func10, Try.ntmps10
    go_wp2_with fail
    go_ret
    exact ⟨rfl, Below.refl _ _⟩
  have k1 : ¬ ((all.length : Int) < (sm.length : Int)) := by omega
  go_enter Try.func10, Try.ntmps10
  go_wp2_with fail
  go_loopw [5] (fun c wr => ∃ j : Nat, j ≤ sm.length ∧ c = .int .i64 j ∧ Hid (BeginTo all sm j) ∧ Below w.heap.size w wr) (fun c _ => sm.length - (intOf c).toNat)
  case atStart => exact ⟨0, Nat.zero_le _, rfl, Lib.hid (fun i hi => absurd hi (by omega)), Below.refl _ _⟩
  case round =>
    obtain ⟨j, hj, rfl, HA, hbr⟩ := hrel
    have HBR := Lib.hid hbr
    by_cases hlt : j < sm.length
    · have hlt' : (j : Int) < (sm.length : Int) := by omega
      have hlt2 : (j : Int) < (all.length : Int) := by omega
      have hx := List.getElem?_eq_getElem (show j < all.length by omega)
      have hy := List.getElem?_eq_getElem hlt
      have HN : Hid (all[j] = sm[j] → BeginTo all sm (j + 1)) := Lib.hid (fun e i hi => by
        rcases Nat.lt_or_ge i j with h2 | h2
        · exact HA.out i h2
        · obtain rfl : i = j := by omega
          rw [hx, hy, e])
      have HX : Hid (¬ all[j] = sm[j] → b = false) := Lib.hid (fun h => HF.out (fun hp => h (by
        have h9 := begin_of hp hlt
        rw [hx, hy] at h9
        exact Option.some.inj h9)))
      obtain ⟨g, og, cs, rfl, hg, hr, hc⟩ := rows_elem (layStringS.below HV.out hbr) j _ hx
      obtain ⟨h, oh, ds, rfl, hh, hs, hd⟩ := rows_elem (layStringS.below HU.out hbr) j _ hy
      generalize all[j] = x at hr HN HX
      generalize sm[j] = y at hs HN HX
      rw [layString_rd] at hr hs
      subst hr hs
      have c0 : wr.cell? ⟨g, og + j, none⟩ = some (.string x) := (by have h9 := hc 0 _ rfl; rw [str_k] at h9; exact h9)
      have d0 : wr.cell? ⟨h, oh + j, none⟩ = some (.string y) := (by have h9 := hd 0 _ rfl; rw [str_k] at h9; exact h9)
      clear hbr hc hd hx hy
      by_cases he : x = y
      · have q1 : (y.toList == x.toList) = true := by rw [he]; simp
        have HJ := Lib.hid (HN.out he)
        clear he HN HX
        go_wp2_with fail
        go_quiet (fail)
        go_wp2_with fail
        go_roundw
        case rel => exact ⟨j + 1, by omega, by go_num, HJ, below_drewN HBR.out _⟩
        case measure => simp [intOf]; omega
      · have q1 : (y.toList == x.toList) = false := words_ne (fun e => he e.symm)
        obtain rfl := HX.out he
        clear he HN HX
        go_wp2_with fail
        go_quiet (fail)
        go_wp2_with fail
        go_ret
        exact ⟨rfl, below_drewN HBR.out _⟩
    · have hlt' : ¬ ((j : Int) < (sm.length : Int)) := by omega
      obtain rfl : b = true := HB.out.2 (begin_all (by omega) (by have h9 := HA.out; rw [show j = sm.length by omega] at h9; exact h9))
      go_wp2_with fail
      go_ret
      exact ⟨rfl, hbr⟩

end Go.Proofs.Ytcdgbojmjnkeoas
namespace Go.Proofs.Ytcdgbojmjnkeoas
open Go.RowKit

/-- The beginning of a row that can be read. -/
theorem rows_take {α : Type} {e : TypeId} {A : Lay α} {w : World} {a : Option Addr} {n cap : Nat} {xs : List α} (h : (Lay.rows e A).rd w [.slice a n cap] xs) (j : Nat) (hj : j ≤ xs.length) : (Lay.rows e A).rd w [.slice a j cap] (xs.take j) := by
  obtain ⟨v', hv, h⟩ := h
  obtain rfl : Value.slice a n cap = v' := by simpa using hv
  have hl : (xs.take j).length = j := by rw [List.length_take]; omega
  rcases h with ⟨rfl, a', cap', h0, h1⟩ | ⟨g, off, cap', us, h0, hc, hg, hcell, hr⟩
  · simp only [List.length_nil, Nat.le_zero_eq] at hj
    subst hj
    simp only [Value.slice.injEq] at h0
    obtain ⟨rfl, -, rfl⟩ := h0
    exact ⟨_, rfl, .inl ⟨rfl, _, _, rfl, h1⟩⟩
  · simp only [Value.slice.injEq] at h0
    obtain ⟨rfl, -, rfl⟩ := h0
    have hs : ∀ {us : List Value} {xs : List α} (j : Nat), rdAll A w us xs → rdAll A w (us.take (j * A.k)) (xs.take j) := by
      intro us xs j hr
      induction xs generalizing us j with
      | nil => rw [show us = [] from hr]; simp [rdAll]
      | cons x xs ih =>
        obtain ⟨c, us', rfl, h1, h2⟩ := hr
        cases j with
        | zero => simp [rdAll]
        | succ j =>
          have hcl := A.len h1
          refine ⟨c, us'.take (j * A.k), ?_, h1, ih j h2⟩
          rw [List.take_append, hcl, List.take_of_length_le (by rw [hcl, Nat.add_mul, Nat.one_mul]; omega), Nat.add_mul, Nat.one_mul, Nat.add_sub_cancel]
    refine ⟨_, rfl, .inr ⟨g, off, cap, us.take (j * A.k), by rw [hl], by rw [hl]; omega, hg, fun i u hu => hcell i u ?_, hs j hr⟩⟩
    rw [List.getElem?_take] at hu
    split at hu
    · exact hu
    · cases hu

end Go.Proofs.Ytcdgbojmjnkeoas
namespace Go.Proofs.Ytcdgbojmjnkeoas
open Go.RowKit

set_option maxRecDepth 100000 in
set_option maxHeartbeats 800000 in
theorem implTurnOk_bool (k e at_ : Int) (b : Bool) (hb : b = true ↔ TurnP k e at_) (w : World) :
    Calls Try.prog 8 #[.agg #[.int .i64 k, .int .i64 e, .int .i64 at_]] w fun r w' => r = .returned (.bool b) ∧ Below w.heap.size w w' := by
  have A0 := Lib.hid (VarA.new w TurnT #[.int .i64 k, .int .i64 e, .int .i64 at_])
  have B0 := Lib.hid ((Below.refl w.heap.size w).alloc (Nat.le_refl _) (.cells #[.int .i64 k, .int .i64 e, .int .i64 at_] TurnT))
  have HB := Lib.hid hb
  clear hb
  go_enter Try.func8, Try.ntmps8
  go_upto_region 1 with fail
  generalize w.alloc (.cells #[.int .i64 k, .int .i64 e, .int .i64 at_] TurnT) = Y at *
  have c0 : Y.cell? ⟨w.heap.size, 0, none⟩ = some (.int .i64 k) := A0.out.cell 0
  have c1 : Y.cell? ⟨w.heap.size, 1, none⟩ = some (.int .i64 e) := A0.out.cell 1
  have c2 : Y.cell? ⟨w.heap.size, 2, none⟩ = some (.int .i64 at_) := A0.out.cell 2
  have HF : Hid (¬ TurnP k e at_ → b = false) := Lib.hid (fun h => by
    cases b with
    | false => rfl
    | true => exact absurd (HB.out.1 rfl) h)
  by_cases h1 : 1 ≤ k
  rotate_left
  · obtain rfl := HF.out (fun h => h1 h.1.1)
    have q : decide (1 ≤ k) = false := decide_eq_false h1
    go_wp2_with fail
    go_ret
    exact ⟨rfl, B0.out⟩
  by_cases h2 : k ≤ 4
  rotate_left
  · obtain rfl := HF.out (fun h => h2 h.1.2)
    have q : decide (k ≤ 4) = false := decide_eq_false h2
    go_wp2_with fail
    go_ret
    exact ⟨rfl, B0.out⟩
  by_cases h3 : 0 ≤ e
  rotate_left
  · obtain rfl := HF.out (fun h => h3 h.2.1.1)
    have q : decide (0 ≤ e) = false := decide_eq_false h3
    go_wp2_with fail
    go_ret
    exact ⟨rfl, B0.out⟩
  by_cases h4 : e < 2
  rotate_left
  · obtain rfl := HF.out (fun h => h4 (by have := h.2.1.2; omega))
    have q : decide (e < 2) = false := decide_eq_false h4
    go_wp2_with fail
    go_ret
    exact ⟨rfl, B0.out⟩
  by_cases ha : 0 ≤ at_
  · obtain rfl : b = true := HB.out.2 ⟨⟨h1, h2⟩, ⟨h3, by omega⟩, ha⟩
    go_wp2_with fail
    go_ret
    exact ⟨rfl, B0.out⟩
  · obtain rfl := HF.out (fun h => ha h.2.2)
    have ha2 : decide (0 ≤ at_) = false := decide_eq_false ha
    go_wp2_with fail
    go_ret
    exact ⟨rfl, B0.out⟩

set_option maxRecDepth 100000 in
set_option maxHeartbeats 1600000 in
/-- slices.Equal at texts, of two rows of one length. -/
theorem equalTexts_any (xs ys : List ByteArray) (v u : Value) (b : Bool) (hb : b = true ↔ xs = ys) (hxy : xs.length = ys.length) (hl : ys.length ≤ 100000000) (w : World) (hv : layStringS.rd w [v] xs) (hu : layStringS.rd w [u] ys) :
    Calls Try.prog 20 #[v, u] w fun e w' => e = .returned (.bool b) ∧ Below w.heap.size w w' := by
  obtain ⟨ao, cp, rfl⟩ := rows_form hv
  obtain ⟨bo, dp, rfl⟩ := rows_form hu
  have HV := Lib.hid hv
  have HU := Lib.hid hu
  have HB := Lib.hid hb
  have HF : Hid (¬ xs = ys → b = false) := Lib.hid (fun h => by
    cases b with
    | false => rfl
    | true => exact absurd (HB.out.1 rfl) h)
  have HL := Lib.hid hxy
  have q0 : ((xs.length : Int) == (ys.length : Int)) = true := by rw [hxy]; simp
  clear hv hu hb hxy
  go_enter Try.func20, Try.ntmps20
  go_wp2_with fail
  go_loopw [13] (fun c wr => ∃ j : Nat, j ≤ ys.length ∧ c = .int .i64 j ∧ Hid (BeginTo xs ys j) ∧ Below w.heap.size w wr) (fun c _ => ys.length - (intOf c).toNat)
  case atStart => exact ⟨0, Nat.zero_le _, rfl, Lib.hid (fun i hi => absurd hi (by omega)), Below.refl _ _⟩
  case round =>
    obtain ⟨j, hj, rfl, HA, hbr⟩ := hrel
    have HBR := Lib.hid hbr
    by_cases hlt : j < ys.length
    · have hltx : j < xs.length := by have := HL.out; omega
      have hlt' : (j : Int) < (xs.length : Int) := by omega
      have hlt2 : (j : Int) < (ys.length : Int) := by omega
      have hx := List.getElem?_eq_getElem hltx
      have hy := List.getElem?_eq_getElem hlt
      have HN : Hid (xs[j] = ys[j] → BeginTo xs ys (j + 1)) := Lib.hid (fun e i hi => by
        rcases Nat.lt_or_ge i j with h2 | h2
        · exact HA.out i h2
        · obtain rfl : i = j := by omega
          rw [hx, hy, e])
      have HX : Hid (¬ xs[j] = ys[j] → b = false) := Lib.hid (fun h => HF.out (fun hp => h (by
        subst hp
        rfl)))
      obtain ⟨g, og, cs, rfl, hg, hr, hc⟩ := rows_elem (layStringS.below HV.out hbr) j _ hx
      obtain ⟨h, oh, ds, rfl, hh, hs, hd⟩ := rows_elem (layStringS.below HU.out hbr) j _ hy
      generalize xs[j] = x at hr HN HX
      generalize ys[j] = y at hs HN HX
      rw [layString_rd] at hr hs
      subst hr hs
      have c0 : wr.cell? ⟨g, og + j, none⟩ = some (.string x) := (by have h9 := hc 0 _ rfl; rw [str_k] at h9; exact h9)
      have d0 : wr.cell? ⟨h, oh + j, none⟩ = some (.string y) := (by have h9 := hd 0 _ rfl; rw [str_k] at h9; exact h9)
      clear hbr hc hd hx hy
      by_cases he : x = y
      · have q1 : (x.toList == y.toList) = true := by rw [he]; simp
        have HJ := Lib.hid (HN.out he)
        clear he HN HX
        go_wp2_with fail
        go_quiet (fail)
        go_wp2_with fail
        go_roundw
        case rel => exact ⟨j + 1, by omega, by go_num, HJ, below_drewN HBR.out _⟩
        case measure => simp [intOf]; omega
      · have q1 : (x.toList == y.toList) = false := words_ne he
        obtain rfl := HX.out he
        clear he HN HX
        go_wp2_with fail
        go_quiet (fail)
        go_wp2_with fail
        go_ret
        exact ⟨rfl, below_drewN HBR.out _⟩
    · have hlt' : ¬ ((j : Int) < (xs.length : Int)) := by have := HL.out; omega
      obtain rfl : b = true := HB.out.2 (by
        have h9 := HA.out
        rw [show j = ys.length by omega] at h9
        have h8 := begin_all (by have := HL.out; omega) h9
        exact (h8.eq_of_length (by have := HL.out; omega)).symm)
      go_wp2_with fail
      go_ret
      exact ⟨rfl, hbr⟩

set_option maxRecDepth 100000 in
set_option maxHeartbeats 1600000 in
theorem implBegins_bool (all sm : List ByteArray) (v u : Value) (b : Bool) (hb : b = true ↔ sm <+: all) (_ : all.length ≤ 100000000) (hm : sm.length ≤ 100000000) (w : World) (hv : layStringS.rd w [v] all) (hu : layStringS.rd w [u] sm) :
    Calls Try.prog 12 #[v, u] w fun e w' => e = .returned (.bool b) ∧ Below w.heap.size w w' := by
  obtain ⟨ao, cp, rfl⟩ := rows_form hv
  obtain ⟨bo, dp, rfl⟩ := rows_form hu
  have HV := Lib.hid hv
  have HU := Lib.hid hu
  have HB := Lib.hid hb
  have HF : Hid (¬ sm <+: all → b = false) := Lib.hid (fun h => by
    cases b with
    | false => rfl
    | true => exact absurd (HB.out.1 rfl) h)
  clear hb
  by_cases hlen : sm.length ≤ all.length
  · have k1 : (sm.length : Int) ≤ (all.length : Int) := by omega
    have hcp : all.length ≤ cp := rows_room hv
    have k2 : (sm.length : Int) ≤ (cp : Int) := by omega
    have hb2 : b = true ↔ all.take sm.length = sm := by
      rw [HB.out, List.prefix_iff_eq_take]
      exact ⟨fun h => h.symm, fun h => h.symm⟩
    have K := Lib.hid (equalTexts_any (all.take sm.length) sm (.slice ao sm.length cp) (.slice bo sm.length dp) b hb2 (by rw [List.length_take]; omega) hm w (rows_take hv sm.length hlen) hu)
    clear hv hu hb2
    go_enter Try.func12, Try.ntmps12
    go_wp2_with fail
    refine K.out.mono ?_
    rintro e w1 ⟨rfl, hbl⟩
    go_wp2_with fail
    go_ret
    exact ⟨rfl, hbl⟩
  · obtain rfl := HF.out (fun h => hlen h.length_le)
    have k1 : decide ((sm.length : Int) ≤ (all.length : Int)) = false := decide_eq_false (by omega)
    clear hv hu
    go_enter Try.func12, Try.ntmps12
    go_wp2_with fail
    go_ret
    exact ⟨rfl, Below.refl _ _⟩

end Go.Proofs.Ytcdgbojmjnkeoas
