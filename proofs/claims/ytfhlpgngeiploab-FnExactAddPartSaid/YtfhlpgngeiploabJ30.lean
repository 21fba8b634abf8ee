/-
  The test package's functions over rows of what is held: marked, found marked.
-/
import Derived.Test.YtfhlpgngeiploabJ11
import Derived.Test.YtfhlpgngeiploabJ04
import Derived.Test.YtfhlpgngeiploabJ23
namespace Go.Proofs.Ytfhlpgngeiploab
open Go.RowKit

theorem hret_int {a b : Int} (h : a = b) : Ending.returned (.int .i64 a) = .returned (.int .i64 b) := by rw [h]
theorem markHd_eq (q : Int) (x0 x1 x2 : Int) (r3 : List ByteArray) (r4 : List Bool) (x5 : Int) : layHeld.mark q (x0, x1, x2, r3, r4, x5) = ((q, q + 1, q + 1 + 1, (layStringS.mark (q + 1 + 1 + 1) r3).1, (layBoolS.mark (layStringS.mark (q + 1 + 1 + 1) r3).2 r4).1, (layBoolS.mark (layStringS.mark (q + 1 + 1 + 1) r3).2 r4).2), (layBoolS.mark (layStringS.mark (q + 1 + 1 + 1) r3).2 r4).2 + 1) := rfl
theorem hmarkS_num : ∀ (xs : List ByteArray) (k : Int), (layStringS.mark k xs).2 = k + (xs.length : Int)
  | [], k => by simp [layStringS, Lay.rows, mkAll]
  | x :: xs, k => by
    have h := hmarkS_num xs (k + 1)
    show (layStringS.mark (k + 1) xs).2 = _
    rw [h, List.length_cons]
    omega
theorem hmarkB_num : ∀ (xs : List Bool) (k : Int), (layBoolS.mark k xs).2 = k + (xs.length : Int)
  | [], k => by simp [layBoolS, Lay.rows, mkAll]
  | x :: xs, k => by
    have h := hmarkB_num xs (k + 1)
    show (layBoolS.mark (k + 1) xs).2 = _
    rw [h, List.length_cons]
    omega
/-- The number behind the marks. -/
theorem markHds_num : ∀ (xs : List HeldD) (k : Int), (layHeldS.mark k xs).2 = k + 4 * (xs.length : Int) + (partsN xs : Int)
  | [], k => by simp [layHeldS, Lay.rows, mkAll, partsN]
  | (x0, x1, x2, r3, r4, x5) :: xs, k => by
    have h1 := markHds_num xs (layHeld.mark k (x0, x1, x2, r3, r4, x5)).2
    have h3 : (layHeld.mark k (x0, x1, x2, r3, r4, x5)).2 = k + 4 + (r3.length : Int) + (r4.length : Int) := by
      rw [markHd_eq, hmarkB_num, hmarkS_num]
      omega
    show (mkAll layHeld (layHeld.mark k (x0, x1, x2, r3, r4, x5)).2 xs).2 = _
    change (mkAll layHeld _ xs).2 = _ at h1
    rw [h3] at h1 ⊢
    rw [h1, List.length_cons]
    show _ = _ + ((r3.length + r4.length + partsN xs : Nat) : Int)
    push_cast
    omega
theorem partsN_take (xs : List HeldD) (j : Nat) : partsN (xs.take j) ≤ partsN xs := by
  have h := partsN_append (xs.take j) (xs.drop j)
  rw [List.take_append_drop] at h
  omega
theorem partsN_at {xs : List HeldD} {x : HeldD} (hx : x ∈ xs) : x.2.2.2.1.length + x.2.2.2.2.1.length ≤ partsN xs := by
  induction xs with
  | nil => cases hx
  | cons y ys ih =>
    show _ ≤ y.2.2.2.1.length + y.2.2.2.2.1.length + partsN ys
    rcases List.mem_cons.1 hx with rfl | hx
    · omega
    · have := ih hx
      omega
theorem markHds_next (k : Int) (xs : List HeldD) (j : Nat) (x : HeldD) (hx : xs[j]? = some x) : (layHeldS.mark k (xs.take (j + 1))).1 = (layHeldS.mark k (xs.take j)).1 ++ [(layHeld.mark (layHeldS.mark k (xs.take j)).2 x).1] ∧ (layHeldS.mark k (xs.take (j + 1))).2 = (layHeld.mark (layHeldS.mark k (xs.take j)).2 x).2 := by
  have e : xs.take (j + 1) = xs.take j ++ [x] := by rw [List.take_add_one, hx]; rfl
  show (mkAll layHeld k _).1 = (mkAll layHeld k _).1 ++ _ ∧ (mkAll layHeld k _).2 = _
  rw [e, mkAll_append]
  exact ⟨rfl, rfl⟩
theorem markHds_len (k : Int) (xs : List HeldD) : (layHeldS.mark k xs).1.length = xs.length := mkAll_length layHeld xs k
/-- Rows of what is held, with whatever room. -/
def layHeldC : Lay (List HeldD) := .room HeldT layHeld
set_option maxRecDepth 100000 in
set_option maxHeartbeats 3200000 in
theorem markHeldS_any (v : Value) (xs : List HeldD) (b : Nat) (fp : List Nat) (k : Int) (hk0 : 1 ≤ k) (hk1 : k ≤ 100000000) (hT : xs.length + partsN xs ≤ 10000000) (w : World) (hd : fp.Nodup) (ho : layHeldC.own w b fp [v] xs) :
    Calls Try.prog 36 #[v, .int .i64 k] w fun e w' => e = .returned (.int .i64 (layHeldS.mark k xs).2) ∧ layHeldC.own w' b fp [v] (layHeldS.mark k xs).1 ∧ Chg fp w w' := by
  obtain ⟨ao, cp, cq, hv0, ho, hroom, hnil⟩ := ho
  obtain rfl : v = .slice ao xs.length cp := by simpa using hv0
  clear hv0
  have HRM := Lib.hid (And.intro hroom hnil)
  clear hroom hnil
  have HO := Lib.hid ho
  have HDUP := Lib.hid hd
  have HTT := Lib.hid hT
  clear ho hd
  have HM := Lib.hid markStringS_any
  have HN := Lib.hid markBoolL_any
  go_enter Try.func36, Try.ntmps36
  go_wp2_with fail
  go_loopw [1, 5] (fun q c wr => ∃ (j : Nat) (z : Int), j ≤ xs.length ∧ c = .int .i64 j ∧ q = .int .i64 z ∧ Hid (z = (layHeldS.mark k (xs.take j)).2) ∧ layHeldS.own wr b fp [.slice ao xs.length cq] ((layHeldS.mark k (xs.take j)).1 ++ xs.drop j) ∧ Chg fp w wr) (fun _ c _ => xs.length - (intOf c).toNat)
  case atStart => exact ⟨0, k, Nat.zero_le _, rfl, rfl, rfl, by simpa [layHeldS, Lay.rows, mkAll] using HO.out, Chg.refl _ _⟩
  case round =>
    obtain ⟨j, q, hj, rfl, rfl, HQ, hown2, hg2⟩ := hrel
    have HO2 := Lib.hid hown2
    have HG := Lib.hid hg2
    clear hown2 hg2 HO
    have hqb := markHds_num (xs.take j) k
    have hqp := partsN_take xs j
    rw [← HQ.out, List.length_take] at hqb
    have hq0 : 1 ≤ q := by omega
    have hq1 : q ≤ 200000000 := by omega
    clear hqb hqp
    by_cases hlt : j < xs.length
    · have hlt' : (j : Int) < (xs.length : Int) := by omega
      have hx := List.getElem?_eq_getElem hlt
      have HNEXT := Lib.hid (markHds_next k xs j _ hx)
      have hfx := partsN_at (List.getElem_mem hlt)
      have hdrop : xs.drop j = xs[j] :: xs.drop (j + 1) := List.drop_eq_getElem_cons hlt
      have hown3 := HO2.out
      rw [hdrop] at hown3
      generalize xs[j] = x at hown3 HNEXT hfx
      obtain ⟨g, cap, f1, f2, f3, u1, c, u3, hv, rfl, Z⟩ := rows_open hown3 HDUP.out
      simp only [Value.slice.injEq] at hv
      obtain ⟨rfl, -, rfl⟩ := hv
      have hXl : (layHeldS.mark k (xs.take j)).1.length = j := by
        rw [markHds_len, List.length_take]
        omega
      obtain ⟨x0, x1, x2, r3, r4, x5⟩ := x
      obtain ⟨v3, v4, fa, fb, rfl, rfl, h3, h4⟩ := layHeld_own.1 Z.mid
      simp only at h3 h4 hfx
      obtain ⟨pa, pc, rfl⟩ := rows_form (layStringS.read h3)
      obtain ⟨pb, pd, rfl⟩ := rows_form (layBoolS.read h4)
      have HXL := Lib.hid hXl
      obtain ⟨M, HMM⟩ : ∃ l, Hid (l = (layHeldS.mark k (xs.take j)).1) := ⟨_, Lib.hid rfl⟩
      rw [← HMM.out, ← HQ.out, markHd_eq] at HNEXT
      rw [← HMM.out] at Z HXL
      have ZZ := Lib.hid Z
      have H3 := Lib.hid h3
      have H4 := Lib.hid h4
      have hdup0 := (List.nodup_append.1 (List.nodup_append.1 (List.nodup_append.1 (List.nodup_cons.1 Z.dup).2).2.1).1)
      have HDA := Lib.hid hdup0
      clear hown3 hdrop Z hXl HO2 hx h3 h4 hdup0
      have hcell := fun t u hu => ZZ.out.cell t u hu
      rw [HXL.out] at hcell
      obtain ⟨d0, z0⟩ : wr.cell? ⟨g, j * 6, none⟩ = some (.int .i64 x0) ∧ wr.frozen? ⟨g, j * 6, none⟩ = false := hcell 0 _ rfl
      obtain ⟨d1, z1⟩ : wr.cell? ⟨g, j * 6 + 1, none⟩ = some (.int .i64 x1) ∧ wr.frozen? ⟨g, j * 6 + 1, none⟩ = false := hcell 1 _ rfl
      obtain ⟨d2, z2⟩ : wr.cell? ⟨g, j * 6 + 2, none⟩ = some (.int .i64 x2) ∧ wr.frozen? ⟨g, j * 6 + 2, none⟩ = false := hcell 2 _ rfl
      obtain ⟨d3, z3⟩ : wr.cell? ⟨g, j * 6 + 3, none⟩ = some (.slice pa r3.length pc) ∧ wr.frozen? ⟨g, j * 6 + 3, none⟩ = false := hcell 3 _ rfl
      obtain ⟨d4, z4⟩ : wr.cell? ⟨g, j * 6 + 4, none⟩ = some (.slice pb r4.length pd) ∧ wr.frozen? ⟨g, j * 6 + 4, none⟩ = false := hcell 4 _ rfl
      obtain ⟨d5, z5⟩ : wr.cell? ⟨g, j * 6 + 5, none⟩ = some (.int .i64 x5) ∧ wr.frozen? ⟨g, j * 6 + 5, none⟩ = false := hcell 5 _ rfl
      clear hcell
      have hst := ZZ.out.store [.int .i64 q, .int .i64 (q + 1), .int .i64 (q + 1 + 1)] 0 (by simp) (fa ++ fb) (q, q + 1, q + 1 + 1, r3, r4, x5) (layHeld_own.2 ⟨_, _, fa, fb, rfl, rfl, H3.out, H4.out⟩) ZZ.out.dup
      rw [HXL.out] at hst
      have hgf : g ∉ fa ++ fb := fun hi => (List.nodup_cons.1 ZZ.out.dup).1 (by
        rcases List.mem_append.1 hi with hi | hi <;> simp [hi])
      replace H3 := Lib.hid (layStringS.chg H3.out hst.2 (fun a ha hb => hgf (by rw [← List.mem_singleton.1 hb]; simp [ha])))
      replace H4 := Lib.hid (layBoolS.chg H4.out hst.2 (fun a ha hb => hgf (by rw [← List.mem_singleton.1 hb]; simp [ha])))
      replace ZZ := Lib.hid hst.1
      replace HG := Lib.hid (HG.out.trans (hst.2.sub (by simp)))
      clear hst hgf
      go_wp2_with fail
      refine (HM.out (.slice pa r3.length pc) r3 b fa (q + 1 + 1 + 1) (by omega) (by omega) (by omega) _ HDA.out.1 H3.out).mono ?_
      rintro e w1 ⟨rfl, om, hc⟩
      have h4b := layBoolS.chg H4.out hc (fun a ha hb => HDA.out.2.2 a hb a ha rfl)
      replace ZZ := Lib.hid (ZZ.out.sub (q, q + 1, q + 1 + 1, (layStringS.mark (q + 1 + 1 + 1) r3).1, r4, x5) (layHeld_own.2 ⟨_, _, fa, fb, rfl, rfl, om, h4b⟩) (hc.sub (by simp +contextual)))
      replace HG := Lib.hid (HG.out.trans (hc.sub (by simp +contextual)))
      replace H3 := Lib.hid om
      replace H4 := Lib.hid h4b
      clear hc om h4b d0 z0 d1 z1 d2 z2 d3 z3 d4 z4 d5 z5
      rw [hmarkB_num, hmarkS_num] at HNEXT
      obtain ⟨m, hm, hm0, hm1⟩ : ∃ m : Int, q + 1 + 1 + 1 + 1 * (r3.length : Int) = m ∧ 1 ≤ m ∧ m ≤ 300000000 := ⟨_, rfl, by omega, by omega⟩
      rw [hm]
      rw [show q + 1 + 1 + 1 + (r3.length : Int) = m by omega] at HNEXT
      clear hm
      generalize (layStringS.mark (q + 1 + 1 + 1) r3).1 = r3' at ZZ H3 HNEXT
      have hcell := fun t u hu => ZZ.out.cell t u hu
      rw [HXL.out] at hcell
      obtain ⟨d0, z0⟩ : w1.cell? ⟨g, j * 6, none⟩ = some (.int .i64 q) ∧ w1.frozen? ⟨g, j * 6, none⟩ = false := hcell 0 _ rfl
      obtain ⟨d1, z1⟩ : w1.cell? ⟨g, j * 6 + 1, none⟩ = some (.int .i64 (q + 1)) ∧ w1.frozen? ⟨g, j * 6 + 1, none⟩ = false := hcell 1 _ rfl
      obtain ⟨d2, z2⟩ : w1.cell? ⟨g, j * 6 + 2, none⟩ = some (.int .i64 (q + 1 + 1)) ∧ w1.frozen? ⟨g, j * 6 + 2, none⟩ = false := hcell 2 _ rfl
      obtain ⟨d3, z3⟩ : w1.cell? ⟨g, j * 6 + 3, none⟩ = some (.slice pa r3.length pc) ∧ w1.frozen? ⟨g, j * 6 + 3, none⟩ = false := hcell 3 _ rfl
      obtain ⟨d4, z4⟩ : w1.cell? ⟨g, j * 6 + 4, none⟩ = some (.slice pb r4.length pd) ∧ w1.frozen? ⟨g, j * 6 + 4, none⟩ = false := hcell 4 _ rfl
      obtain ⟨d5, z5⟩ : w1.cell? ⟨g, j * 6 + 5, none⟩ = some (.int .i64 x5) ∧ w1.frozen? ⟨g, j * 6 + 5, none⟩ = false := hcell 5 _ rfl
      clear hcell
      go_wp2_with fail
      refine (HN.out (.slice pb r4.length pd) r4 b fb m (by omega) (by omega) (by omega) _ HDA.out.2.1 H4.out).mono ?_
      rintro e w2 ⟨rfl, om, hc⟩
      have h3b := layStringS.chg H3.out hc (fun a ha hb => HDA.out.2.2 a ha a hb rfl)
      replace ZZ := Lib.hid (ZZ.out.sub (q, q + 1, q + 1 + 1, r3', (layBoolS.mark m r4).1, x5) (layHeld_own.2 ⟨_, _, fa, fb, rfl, rfl, h3b, om⟩) (hc.sub (by simp +contextual)))
      replace HG := Lib.hid (HG.out.trans (hc.sub (by simp +contextual)))
      replace H4 := Lib.hid om
      replace H3 := Lib.hid h3b
      clear hc om h3b d0 z0 d1 z1 d2 z2 d3 z3 d4 z4 d5 z5
      obtain ⟨m2, hm, hm20, hm21⟩ : ∃ m2 : Int, m + 1 * (r4.length : Int) = m2 ∧ 1 ≤ m2 ∧ m2 ≤ 400000000 := ⟨_, rfl, by omega, by omega⟩
      rw [hm]
      rw [show m + (r4.length : Int) = m2 by omega] at HNEXT
      clear hm
      generalize (layBoolS.mark m r4).1 = r4' at ZZ H4 HNEXT
      have hcell := fun t u hu => ZZ.out.cell t u hu
      rw [HXL.out] at hcell
      obtain ⟨d0, z0⟩ : w2.cell? ⟨g, j * 6, none⟩ = some (.int .i64 q) ∧ w2.frozen? ⟨g, j * 6, none⟩ = false := hcell 0 _ rfl
      obtain ⟨d1, z1⟩ : w2.cell? ⟨g, j * 6 + 1, none⟩ = some (.int .i64 (q + 1)) ∧ w2.frozen? ⟨g, j * 6 + 1, none⟩ = false := hcell 1 _ rfl
      obtain ⟨d2, z2⟩ : w2.cell? ⟨g, j * 6 + 2, none⟩ = some (.int .i64 (q + 1 + 1)) ∧ w2.frozen? ⟨g, j * 6 + 2, none⟩ = false := hcell 2 _ rfl
      obtain ⟨d3, z3⟩ : w2.cell? ⟨g, j * 6 + 3, none⟩ = some (.slice pa r3.length pc) ∧ w2.frozen? ⟨g, j * 6 + 3, none⟩ = false := hcell 3 _ rfl
      obtain ⟨d4, z4⟩ : w2.cell? ⟨g, j * 6 + 4, none⟩ = some (.slice pb r4.length pd) ∧ w2.frozen? ⟨g, j * 6 + 4, none⟩ = false := hcell 4 _ rfl
      obtain ⟨d5, z5⟩ : w2.cell? ⟨g, j * 6 + 5, none⟩ = some (.int .i64 x5) ∧ w2.frozen? ⟨g, j * 6 + 5, none⟩ = false := hcell 5 _ rfl
      clear hcell
      have hst := ZZ.out.store [.int .i64 m2] 5 (by simp [setL]) (fa ++ fb) (q, q + 1, q + 1 + 1, r3', r4', m2) (layHeld_own.2 ⟨_, _, fa, fb, rfl, rfl, H3.out, H4.out⟩) ZZ.out.dup
      rw [HXL.out] at hst
      replace ZZ := Lib.hid hst.1
      replace HG := Lib.hid (HG.out.trans (hst.2.sub (by simp)))
      clear hst
      have h3 := ZZ.out.shut
      have e4 : (M ++ (q, q + 1, q + 1 + 1, r3', r4', m2) :: xs.drop (j + 1)).length = xs.length := by
        rw [List.length_append, HXL.out, List.length_cons, List.length_drop]
        omega
      have e5 : (layHeldS.mark k (xs.take (j + 1))).1 ++ xs.drop (j + 1) = M ++ (q, q + 1, q + 1 + 1, r3', r4', m2) :: xs.drop (j + 1) := by
        rw [HNEXT.out.1, List.append_assoc]
        rfl
      rw [e4, ← e5] at h3
      have HP := Lib.hid h3
      clear h3 e4 e5 ZZ
      go_wp2_with fail
      go_roundw
      case rel => exact ⟨j + 1, m2 + 1, by omega, by go_num, rfl, Lib.hid HNEXT.out.2.symm, HP.out, HG.out⟩
      case measure => simp [intOf]; omega
    · have hlt' : ¬ ((j : Int) < (xs.length : Int)) := by omega
      have hke : j = xs.length := by omega
      subst hke
      have HO3 := HO2.out
      rw [List.drop_length, List.append_nil, List.take_length] at HO3
      have HO4 := Lib.hid HO3
      rw [List.take_length] at HQ
      clear HO3 HO2
      go_wp2_with fail
      go_ret
      exact ⟨hret_int HQ.out, ⟨ao, cp, cq, by rw [markHds_len], by rw [markHds_len]; exact HO4.out, by rw [markHds_len]; exact HRM.out.1, HRM.out.2⟩, HG.out⟩

theorem markHds_get (k : Int) (xs : List HeldD) (j : Nat) (x : HeldD) (hx : xs[j]? = some x) : (layHeldS.mark k xs).1[j]? = some (layHeld.mark (layHeldS.mark k (xs.take j)).2 x).1 := by
  have h := (markHds_next k xs j x hx).1
  have hlt : j < xs.length := (List.getElem?_eq_some_iff.1 hx).1
  have e : xs = xs.take (j + 1) ++ xs.drop (j + 1) := (List.take_append_drop (j + 1) xs).symm
  have e2 : (layHeldS.mark k xs).1 = (layHeldS.mark k (xs.take (j + 1))).1 ++ (mkAll layHeld (layHeldS.mark k (xs.take (j + 1))).2 (xs.drop (j + 1))).1 := by
    conv => lhs; rw [e]
    show (mkAll layHeld k _).1 = _
    rw [mkAll_append]
    rfl
  have hl : (layHeldS.mark k (xs.take j)).1.length = j := by
    rw [markHds_len, List.length_take]
    omega
  rw [e2, h, List.getElem?_append_left (by rw [List.length_append, hl]; simp), List.getElem?_append_right (by omega), hl, Nat.sub_self]
  rfl
set_option maxRecDepth 100000 in
set_option maxHeartbeats 3200000 in
theorem heldHeldS_any (v : Value) (xs : List HeldD) (k : Int) (hk0 : 1 ≤ k) (hk1 : k ≤ 100000000) (hT : xs.length + partsN xs ≤ 10000000) (w : World) (hr : layHeldS.rd w [v] (layHeldS.mark k xs).1) :
    Calls Try.prog 37 #[v, .int .i64 k] w fun e w' => e = .returned (.int .i64 (layHeldS.mark k xs).2) ∧ Below w.heap.size w w' := by
  obtain ⟨ao, cp, rfl⟩ := rows_form hr
  have hml := markHds_len k xs
  have HR := Lib.hid hr
  have HTT := Lib.hid hT
  clear hr
  rw [hml] at HR ⊢
  have HM := Lib.hid heldStringS_any
  have HN := Lib.hid heldBoolL_any
  go_enter Try.func37, Try.ntmps37
  go_wp2_with fail
  go_loopw [1, 5] (fun q c wr => ∃ (j : Nat) (z : Int), j ≤ xs.length ∧ c = .int .i64 j ∧ q = .int .i64 z ∧ Hid (z = (layHeldS.mark k (xs.take j)).2) ∧ Below w.heap.size w wr) (fun _ c _ => xs.length - (intOf c).toNat)
  case atStart => exact ⟨0, k, Nat.zero_le _, rfl, rfl, rfl, Below.refl _ _⟩
  case round =>
    obtain ⟨j, q, hj, rfl, rfl, HQ, hbr⟩ := hrel
    have HBR := Lib.hid hbr
    have hqb := markHds_num (xs.take j) k
    have hqp := partsN_take xs j
    rw [← HQ.out, List.length_take] at hqb
    have hq0 : 1 ≤ q := by omega
    have hq1 : q ≤ 200000000 := by omega
    clear hqb hqp
    by_cases hlt : j < xs.length
    · have hlt' : (j : Int) < (xs.length : Int) := by omega
      have hx := List.getElem?_eq_getElem hlt
      have HNEXT := Lib.hid (markHds_next k xs j _ hx).2
      have hfx := partsN_at (List.getElem_mem hlt)
      obtain ⟨g, off, cs, rfl, hg, hr, hc⟩ := rows_elem (layHeldS.below HR.out hbr) j _ (markHds_get k xs j _ hx)
      generalize xs[j] = x at hr HNEXT hfx
      obtain ⟨x0, x1, x2, r3, r4, x5⟩ := x
      simp only at hfx
      rw [← HQ.out, markHd_eq] at hr HNEXT
      obtain ⟨v3, v4, rfl, h3, h4⟩ := layHeld_rd.1 hr
      simp only at h3 h4
      obtain ⟨pa, pc, rfl⟩ := rows_form h3
      obtain ⟨pb, pd, rfl⟩ := rows_form h4
      have e3 : (layStringS.mark (q + 1 + 1 + 1) r3).1.length = r3.length := mkAll_length layString r3 _
      have e4 : ∀ z, (layBoolS.mark z r4).1.length = r4.length := fun z => mkAll_length Lay.bool r4 _
      rw [e3] at h3 hc
      rw [e4] at h4 hc
      rw [hmarkB_num, hmarkS_num] at hc HNEXT
      rw [hmarkS_num] at h4
      obtain ⟨m, hm, hm0, hm1⟩ : ∃ m : Int, q + 1 + 1 + 1 + (r3.length : Int) = m ∧ 1 ≤ m ∧ m ≤ 300000000 := ⟨_, rfl, by omega, by omega⟩
      rw [hm] at hc HNEXT h4
      obtain ⟨m2, hm2, hm20, hm21⟩ : ∃ m2 : Int, m + (r4.length : Int) = m2 ∧ 1 ≤ m2 ∧ m2 ≤ 400000000 := ⟨_, rfl, by omega, by omega⟩
      rw [hm2] at hc HNEXT
      have HE := Lib.hid hm
      have HE2 := Lib.hid hm2
      have H3 := Lib.hid h3
      have H4 := Lib.hid h4
      have c0 : wr.cell? ⟨g, off + j * 6, none⟩ = some (.int .i64 q) := hc 0 _ rfl
      have c1 : wr.cell? ⟨g, off + j * 6 + 1, none⟩ = some (.int .i64 (q + 1)) := hc 1 _ rfl
      have c2 : wr.cell? ⟨g, off + j * 6 + 2, none⟩ = some (.int .i64 (q + 1 + 1)) := hc 2 _ rfl
      have c3 : wr.cell? ⟨g, off + j * 6 + 3, none⟩ = some (.slice pa r3.length pc) := hc 3 _ rfl
      have c4 : wr.cell? ⟨g, off + j * 6 + 4, none⟩ = some (.slice pb r4.length pd) := hc 4 _ rfl
      have c5 : wr.cell? ⟨g, off + j * 6 + 5, none⟩ = some (.int .i64 m2) := hc 5 _ rfl
      have C45 := Lib.hid (And.intro c4 c5)
      clear hc hm hm2 hml hbr hr h3 h4 hx e3 e4
      go_wp2_with fail
      refine (HM.out _ r3 (q + 1 + 1 + 1) (by omega) (by omega) (by omega) wr H3.out).mono ?_
      rintro e w1 ⟨rfl, hb⟩
      rw [show q + 1 + 1 + 1 + 1 * (r3.length : Int) = m by have := HE.out; omega]
      have hbt := HBR.out.trans (hb.mono HBR.out.size)
      have hm3 : ¬ (m < 0) := by omega
      have d4 : w1.cell? ⟨g, off + j * 6 + 4, none⟩ = some (.slice pb r4.length pd) := by rw [hb.cell (p := ⟨g, off + j * 6 + 4, none⟩) (World.block_lt_of_cell? _ _ c4)]; exact C45.out.1
      have d5 : w1.cell? ⟨g, off + j * 6 + 5, none⟩ = some (.int .i64 m2) := by rw [hb.cell (p := ⟨g, off + j * 6 + 5, none⟩) (World.block_lt_of_cell? _ _ c5)]; exact C45.out.2
      have H4b := Lib.hid (layBoolS.below H4.out hb)
      have HB1 := Lib.hid hbt
      have D5 := Lib.hid d5
      clear hb hbt c0 c1 c2 c3 c4 c5 H3 H4 C45 HBR d5
      go_wp2_with fail
      refine (HN.out _ r4 m (by omega) (by omega) (by omega) w1 H4b.out).mono ?_
      rintro e w2 ⟨rfl, hb⟩
      rw [show m + 1 * (r4.length : Int) = m2 by have := HE2.out; omega]
      have hbt := HB1.out.trans (hb.mono HB1.out.size)
      have hm4 : ¬ (m2 < 0) := by omega
      have d5 : w2.cell? ⟨g, off + j * 6 + 5, none⟩ = some (.int .i64 m2) := by rw [hb.cell (p := ⟨g, off + j * 6 + 5, none⟩) (World.block_lt_of_cell? _ _ D5.out)]; exact D5.out
      have HB2 := Lib.hid hbt
      clear hb hbt d4 H4b HB1 D5
      go_wp2_with fail
      go_roundw
      case rel => exact ⟨j + 1, m2 + 1, by omega, by go_num, rfl, Lib.hid HNEXT.out.symm, HB2.out⟩
      case measure => simp [intOf]; omega
    · have hlt' : ¬ ((j : Int) < (xs.length : Int)) := by omega
      have hke : j = xs.length := by omega
      subst hke
      rw [List.take_length] at HQ
      go_wp2_with fail
      go_ret
      exact ⟨hret_int HQ.out, HBR.out⟩

end Go.Proofs.Ytfhlpgngeiploab
