/-
  The given l20Held: whether what is held is right.
-/
import Derived.Test.YthiicpbedgcmlaaJ05
import Derived.Test.YthiicpbedgcmlaaJ06
namespace Go.Proofs.Ythiicpbedgcmlaa
open Go.RowKit

theorem count_false : ∀ r : List Bool, r.count true < r.length ↔ false ∈ r
  | [] => by simp
  | b :: r => by
    have h := count_false r
    have h2 := List.count_le_length (a := true) (l := r)
    cases b with
    | true => rw [List.count_cons_self, List.length_cons]; simp; omega
    | false => simp; omega
theorem text_at {w : World} {a : Option Addr} {n c : Nat} {xs : List ByteArray} (h : layStringS.rd w [.slice a n c] xs) (m : Nat) (hm : m < xs.length) : ∃ g off, a = some ⟨g, off, none⟩ ∧ g < w.heap.size ∧ w.cell? ⟨g, off + m, none⟩ = some (.string xs[m]) := by
  obtain ⟨g, off, c, rfl, hg, hr, hc⟩ := rows_elem h m _ (List.getElem?_eq_getElem hm)
  rw [layString_rd] at hr
  subst hr
  refine ⟨g, off, rfl, hg, ?_⟩
  have := hc 0 _ rfl
  rw [show layString.k = 1 from rfl, Nat.mul_one] at this
  exact this
/-- The first parts are right. -/
def PartsTo (r3 : List ByteArray) (r4 : List Bool) (j : Nat) : Prop := ∀ i, i < j → ∀ p, r3[i]? = some p → p.size ≤ 120 ∧ (r4[i]? = some false → p = ⟨#[]⟩)

set_option maxRecDepth 100000 in
set_option maxHeartbeats 3200000 in
theorem specHeld_bool (x0 x1 x2 : Int) (v3 : Value) (r3 : List ByteArray) (v4 : Value) (r4 : List Bool) (x5 : Int) (c : Bool) (hc : c = true ↔ HeldP (x0, x1, x2, r3, r4, x5)) (w : World) (h3 : layStringS.rd w [v3] r3) (h4 : layBoolS.rd w [v4] r4) :
    Calls Try.prog 39 #[.agg #[.int .i64 x0, .int .i64 x1, .int .i64 x2, v3, v4, .int .i64 x5]] w fun e w' => e = .returned (.bool c) ∧ Below w.heap.size w w' := by
  obtain ⟨a3, p3, rfl⟩ := rows_form h3
  obtain ⟨a4, p4, rfl⟩ := rows_form h4
  have HF : Hid (¬ HeldP (x0, x1, x2, r3, r4, x5) → c = false) := Lib.hid (fun h => Bool.eq_false_iff.2 fun e => h (hc.1 e))
  have HC := Lib.hid hc
  have A0 := Lib.hid (VarA.new w HeldT #[.int .i64 x0, .int .i64 x1, .int .i64 x2, .slice a3 r3.length p3, .slice a4 r4.length p4, .int .i64 x5])
  have B0 := Lib.hid ((Below.refl w.heap.size w).alloc (Nat.le_refl _) (.cells #[.int .i64 x0, .int .i64 x1, .int .i64 x2, .slice a3 r3.length p3, .slice a4 r4.length p4, .int .i64 x5] HeldT))
  have H3 := Lib.hid h3
  have H4 := Lib.hid h4
  clear hc h3 h4
  go_enter Try.func39, Try.ntmps39
  go_upto_region 1 with fail
  generalize w.alloc (.cells #[.int .i64 x0, .int .i64 x1, .int .i64 x2, .slice a3 r3.length p3, .slice a4 r4.length p4, .int .i64 x5] HeldT) = Y at *
  have c0 : Y.cell? ⟨w.heap.size, 0, none⟩ = some (.int .i64 x0) := A0.out.cell 0
  have c1 : Y.cell? ⟨w.heap.size, 1, none⟩ = some (.int .i64 x1) := A0.out.cell 1
  have c2 : Y.cell? ⟨w.heap.size, 2, none⟩ = some (.int .i64 x2) := A0.out.cell 2
  have c3 : Y.cell? ⟨w.heap.size, 3, none⟩ = some (.slice a3 r3.length p3) := A0.out.cell 3
  have c4 : Y.cell? ⟨w.heap.size, 4, none⟩ = some (.slice a4 r4.length p4) := A0.out.cell 4
  have c5 : Y.cell? ⟨w.heap.size, 5, none⟩ = some (.int .i64 x5) := A0.out.cell 5
  by_cases g0 : 1 ≤ x0 ∧ x0 ≤ 99
  rotate_left
  · obtain rfl := HF.out (fun hp => g0 hp.1.1)
    have K0 := Lib.hid (inRange_no x0 1 99 (by omega))
    clear HF HC g0
    go_wp2_with fail
    refine (K0.out _).mono ?_
    rintro e w1 ⟨rfl, rfl⟩
    go_wp2_with fail
    go_ret
    exact ⟨rfl, B0.out⟩
  have K0 := Lib.hid (inRange_yes x0 1 99 g0.1 g0.2)
  by_cases g1 : 0 ≤ x1 ∧ x1 ≤ 255
  rotate_left
  · obtain rfl := HF.out (fun hp => g1 hp.1.2.1)
    have K1 := Lib.hid (inRange_no x1 0 255 (by omega))
    clear HF HC g1
    go_wp2_with fail
    refine (K0.out _).mono ?_
    rintro e w1 ⟨rfl, rfl⟩
    go_wp2_with fail
    refine (K1.out _).mono ?_
    rintro e w1 ⟨rfl, rfl⟩
    go_wp2_with fail
    go_ret
    exact ⟨rfl, B0.out⟩
  have K1 := Lib.hid (inRange_yes x1 0 255 g1.1 g1.2)
  by_cases g2 : 2 ≤ x2 ∧ x2 ≤ 15
  rotate_left
  · obtain rfl := HF.out (fun hp => g2 hp.1.2.2.1)
    have K2 := Lib.hid (inRange_no x2 2 15 (by omega))
    clear HF HC g2
    go_wp2_with fail
    refine (K0.out _).mono ?_
    rintro e w1 ⟨rfl, rfl⟩
    go_wp2_with fail
    refine (K1.out _).mono ?_
    rintro e w1 ⟨rfl, rfl⟩
    go_wp2_with fail
    refine (K2.out _).mono ?_
    rintro e w1 ⟨rfl, rfl⟩
    go_wp2_with fail
    go_ret
    exact ⟨rfl, B0.out⟩
  have K2 := Lib.hid (inRange_yes x2 2 15 g2.1 g2.2)
  by_cases g3 : (r3.length : Int) = x2
  rotate_left
  · obtain rfl := HF.out (fun hp => g3 hp.1.2.2.2.1)
    have n3 : ((r3.length : Int) != x2) = true := bne_iff_ne.2 g3
    clear HF HC
    go_wp2_with fail
    refine (K0.out _).mono ?_
    rintro e w1 ⟨rfl, rfl⟩
    go_wp2_with fail
    refine (K1.out _).mono ?_
    rintro e w1 ⟨rfl, rfl⟩
    go_wp2_with fail
    refine (K2.out _).mono ?_
    rintro e w1 ⟨rfl, rfl⟩
    go_wp2_with fail
    go_ret
    exact ⟨rfl, B0.out⟩
  have n3 : ((r3.length : Int) != x2) = false := by simp [g3]
  by_cases g4 : (r4.length : Int) = x2
  rotate_left
  · obtain rfl := HF.out (fun hp => g4 hp.1.2.2.2.2.1)
    have n4 : ((r4.length : Int) != x2) = true := bne_iff_ne.2 g4
    clear HF HC
    go_wp2_with fail
    refine (K0.out _).mono ?_
    rintro e w1 ⟨rfl, rfl⟩
    go_wp2_with fail
    refine (K1.out _).mono ?_
    rintro e w1 ⟨rfl, rfl⟩
    go_wp2_with fail
    refine (K2.out _).mono ?_
    rintro e w1 ⟨rfl, rfl⟩
    go_wp2_with fail
    go_ret
    exact ⟨rfl, B0.out⟩
  have n4 : ((r4.length : Int) != x2) = false := by simp [g4]
  by_cases g5 : 0 ≤ x5 ∧ x5 ≤ 1000000000
  rotate_left
  · obtain rfl := HF.out (fun hp => g5 hp.1.2.2.2.2.2.1)
    have K5 := Lib.hid (inRange_no x5 0 1000000000 (by omega))
    clear HF HC g5
    go_wp2_with fail
    refine (K0.out _).mono ?_
    rintro e w1 ⟨rfl, rfl⟩
    go_wp2_with fail
    refine (K1.out _).mono ?_
    rintro e w1 ⟨rfl, rfl⟩
    go_wp2_with fail
    refine (K2.out _).mono ?_
    rintro e w1 ⟨rfl, rfl⟩
    go_wp2_with fail
    refine (K5.out _).mono ?_
    rintro e w1 ⟨rfl, rfl⟩
    go_wp2_with fail
    go_ret
    exact ⟨rfl, B0.out⟩
  have K5 := Lib.hid (inRange_yes x5 0 1000000000 g5.1 g5.2)
  have HN : Hid (c = true ↔ PartsTo r3 r4 r3.length ∧ true ∈ r4 ∧ false ∈ r4) := Lib.hid (by
    rw [HC.out]
    constructor
    · intro hp
      exact ⟨fun i _ p h => hp.1.2.2.2.2.2.2 i p h, hp.2⟩
    · rintro ⟨h1, h2⟩
      refine ⟨⟨g0, g1, g2, g3, g4, g5, fun i p h => h1 i ?_ p h⟩, h2⟩
      rcases Nat.lt_or_ge i r3.length with h9 | h9
      · exact h9
      · rw [List.getElem?_eq_none h9] at h
        cases h)
  clear HF HC
  go_wp2_with fail
  refine (K0.out _).mono ?_
  rintro e w1 ⟨rfl, rfl⟩
  go_wp2_with fail
  refine (K1.out _).mono ?_
  rintro e w1 ⟨rfl, rfl⟩
  go_wp2_with fail
  refine (K2.out _).mono ?_
  rintro e w1 ⟨rfl, rfl⟩
  go_wp2_with fail
  refine (K5.out _).mono ?_
  rintro e w1 ⟨rfl, rfl⟩
  obtain ⟨m, rfl⟩ := Int.eq_ofNat_of_zero_le (show 0 ≤ x2 by omega)
  have hm9 : m ≤ 15 := by omega
  have e3 : r3.length = m := by omega
  have e4 : r4.length = m := by omega
  clear n3 n4 g3 g4
  have X := Lib.hid (And.intro e3 e4)
  clear e3 e4 K0 K1 K2 K5 g0 g1 g2 g5
  have l3 : Hid (r3.length = m) := Lib.hid X.out.1
  have l4 : Hid (r4.length = m) := Lib.hid X.out.2
  rw [X.out.1] at HN
  clear X
  go_wp2_with fail
  go_loopw [3, 4] (fun n i wr => ∃ j : Nat, j ≤ m ∧ n = .int .i64 ((r4.take j).count true : Nat) ∧ i = .int .i64 j ∧ Hid (PartsTo r3 r4 j) ∧ Hid (VarA w.heap.size HeldT #[.int .i64 x0, .int .i64 x1, .int .i64 (m : Nat), .slice a3 r3.length p3, .slice a4 r4.length p4, .int .i64 x5] wr) ∧ Hid (Below w.heap.size w wr)) (fun _ i _ => m - (intOf i).toNat)
  case atStart => exact ⟨0, Nat.zero_le _, rfl, rfl, Lib.hid (fun i h => absurd h (by omega)), A0, B0⟩
  case round =>
    obtain ⟨j, hj, rfl, rfl, HP, A1, B1⟩ := hrel
    have hcle : (r4.take j).count true ≤ j := Nat.le_trans List.count_le_length (by rw [List.length_take]; omega)
    have c0 : wr.cell? ⟨w.heap.size, 0, none⟩ = some (.int .i64 x0) := A1.out.cell 0
    have c1 : wr.cell? ⟨w.heap.size, 1, none⟩ = some (.int .i64 x1) := A1.out.cell 1
    have c2 : wr.cell? ⟨w.heap.size, 2, none⟩ = some (.int .i64 (m : Nat)) := A1.out.cell 2
    have c3 : wr.cell? ⟨w.heap.size, 3, none⟩ = some (.slice a3 r3.length p3) := A1.out.cell 3
    have c4 : wr.cell? ⟨w.heap.size, 4, none⟩ = some (.slice a4 r4.length p4) := A1.out.cell 4
    have c5 : wr.cell? ⟨w.heap.size, 5, none⟩ = some (.int .i64 x5) := A1.out.cell 5
    by_cases hlt : j < m
    rotate_left
    · have hlt' : ¬ ((j : Int) < (m : Int)) := by omega
      obtain rfl : j = m := by omega
      obtain ⟨q, hq⟩ : ∃ q : Nat, (r4.take j).count true = q := ⟨_, rfl⟩
      have hq2 : r4.count true = q := by rw [← hq, List.take_of_length_le (by have := l4.out; omega)]
      rw [hq]
      have h1 : 1 ≤ q ↔ true ∈ r4 := by rw [← hq2]; exact List.count_pos_iff
      have h2 : q < j ↔ false ∈ r4 := by rw [← hq2, ← l4.out]; exact count_false r4
      have hq3 : q ≤ j := by rw [← hq]; exact hcle
      have HQ := Lib.hid (And.intro h1 h2)
      clear h1 h2 hq hq2 hcle
      by_cases e1 : 1 ≤ q
      · have d1 : decide ((1 : Int) ≤ (q : Int)) = true := decide_eq_true (by omega)
        by_cases e2 : q < j
        · have d2 : decide ((q : Int) < (j : Int)) = true := decide_eq_true (by omega)
          obtain rfl : c = true := HN.out.2 ⟨HP.out, HQ.out.1.1 e1, HQ.out.2.1 e2⟩
          clear HN
          go_wp2_with fail
          go_ret
          exact ⟨rfl, B1.out⟩
        · have d2 : decide ((q : Int) < (j : Int)) = false := decide_eq_false (by omega)
          obtain rfl : c = false := Bool.eq_false_iff.2 (fun e => e2 (HQ.out.2.2 (HN.out.1 e).2.2))
          clear HN
          go_wp2_with fail
          go_ret
          exact ⟨rfl, B1.out⟩
      · have d1 : decide ((1 : Int) ≤ (q : Int)) = false := decide_eq_false (by omega)
        obtain rfl : c = false := Bool.eq_false_iff.2 (fun e => e1 (HQ.out.1.2 (HN.out.1 e).2.1))
        clear HN
        go_wp2_with fail
        go_ret
        exact ⟨rfl, B1.out⟩
    have hlt' : (j : Int) < (m : Int) := by omega
    have h3j : j < r3.length := by have := l3.out; omega
    have h4j : j < r4.length := by have := l4.out; omega
    obtain ⟨q, hq⟩ : ∃ q : Nat, (r4.take j).count true = q := ⟨_, rfl⟩
    rw [hq]
    have hqj : q ≤ j := by rw [← hq]; exact hcle
    have hqw : IntKind.i64.wrap ((q : Int) + 1) = (q : Int) + 1 := by rw [IntKind.wrap_i64]; omega
    have htk : r4.take (j + 1) = r4.take j ++ [r4[j]] := by rw [List.take_add_one, List.getElem?_eq_getElem h4j]; rfl
    have hct : (r4.take (j + 1)).count true = q + (if r4[j] = true then 1 else 0) := by
      rw [htk, List.count_append, hq]
      cases r4[j] <;> rfl
    have hpn : r3[j].size ≤ 120 → (r4[j] = false → r3[j] = ⟨#[]⟩) → PartsTo r3 r4 (j + 1) := fun e1 e2 i hi p hp => by
      rcases Nat.lt_or_ge i j with h9 | h9
      · exact HP.out i h9 p hp
      · obtain rfl : i = j := by omega
        rw [List.getElem?_eq_getElem h3j] at hp
        cases hp
        refine ⟨e1, fun h => e2 ?_⟩
        rw [List.getElem?_eq_getElem h4j] at h
        exact Option.some.inj h
    have hpb : ¬ (r3[j].size ≤ 120 ∧ (r4[j] = false → r3[j] = ⟨#[]⟩)) → c = false := fun h => Bool.eq_false_iff.2 (fun e => by
      have h8 := (HN.out.1 e).1 j hlt r3[j] (List.getElem?_eq_getElem h3j)
      refine h ⟨h8.1, fun h7 => h8.2 ?_⟩
      rw [List.getElem?_eq_getElem h4j, h7])
    obtain ⟨g, off, cap, hv, hg, hcell⟩ := bools_get (layBoolS.below H4.out B1.out) j h4j
    simp only [Value.slice.injEq] at hv
    obtain ⟨rfl, -, rfl⟩ := hv
    obtain ⟨g2, off2, rfl, hg2, hcell2⟩ := text_at (layStringS.below H3.out B1.out) j h3j
    have HPN := Lib.hid hpn
    have HPB := Lib.hid hpb
    have HCT := Lib.hid hct
    have h3' : (j : Int) < (r3.length : Int) := by omega
    have h4' : (j : Int) < (r4.length : Int) := by omega
    clear hpn hpb hct htk hcle hq
    generalize r4[j] = b at *
    generalize r3[j] = p at *
    cases b with
    | true =>
      by_cases hz : p.size ≤ 120
      · have k1 : decide ((120 : Int) < (p.size : Int)) = false := decide_eq_false (by omega)
        have k2 : ¬ ((120 : Int) < (p.size : Int)) := by omega
        go_wp2_with fail
        go_roundw
        case rel => exact ⟨j + 1, by omega, by rw [HCT.out, if_pos rfl]; go_num, by go_num, Lib.hid (HPN.out hz (fun h => by cases h)), A1, B1⟩
        case measure => simp [intOf]; omega
      · have k1 : decide ((120 : Int) < (p.size : Int)) = true := decide_eq_true (by omega)
        have k2 : (120 : Int) < (p.size : Int) := by omega
        obtain rfl := HPB.out (fun h => hz h.1)
        go_wp2_with fail
        go_ret
        exact ⟨rfl, B1.out⟩
    | false =>
      by_cases he : p = ⟨#[]⟩
      · have k0 : (p.toList == []) = true := by rw [he, ByteArray.toList_eq]; rfl
        have hz : p.size ≤ 120 := by rw [he]; exact Nat.zero_le _
        have k1 : decide ((120 : Int) < (p.size : Int)) = false := decide_eq_false (by omega)
        have k2 : ¬ ((120 : Int) < (p.size : Int)) := by omega
        have HE := Lib.hid he
        clear he
        go_wp2_with fail
        go_roundw
        case rel => exact ⟨j + 1, by omega, by rw [HCT.out, if_neg (by decide)]; go_num, by go_num, Lib.hid (HPN.out hz (fun _ => HE.out)), A1, B1⟩
        case measure => simp [intOf]; omega
      · have k0 : (p.toList == []) = false := by
          rw [beq_eq_false_iff_ne, ByteArray.toList_eq]
          intro h
          exact he (by cases p with | mk d => congr 1; exact Array.toList_eq_nil_iff.1 h)
        obtain rfl := HPB.out (fun h => he (h.2 rfl))
        go_wp2_with fail
        go_ret
        exact ⟨rfl, B1.out⟩

end Go.Proofs.Ythiicpbedgcmlaa
