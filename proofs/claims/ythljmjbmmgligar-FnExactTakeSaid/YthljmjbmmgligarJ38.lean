/-
  Marks of a row of its own, or of a tail of one.
  Marks of a row of its own, or of a tail of one.
-/
import Derived.Test.YthljmjbmmgligarJ37
import Derived.Test.YthljmjbmmgligarJ09
import Derived.Test.YthljmjbmmgligarJ07
namespace Go.Proofs.Ythljmjbmmgligar
open Go.RowKit

def layEarlyT : Lay (List EarlyD) := .tail EarlyT layEarly

set_option maxRecDepth 100000 in
set_option maxHeartbeats 1600000 in
theorem markEarlyS_tail (g cap c2 : Nat) (pre xs : List EarlyD) (b : Nat) (k : Int) (hk0 : 1 ≤ k) (hk1 : k ≤ 500000000) (hl : xs.length ≤ 10000000) (w : World) (ho : layEarlyS.own w b [g] [.slice (some ⟨g, 0, none⟩) (pre ++ xs).length cap] (pre ++ xs)) :
    Calls Try.prog 38 #[.slice (some ⟨g, pre.length * 2, none⟩) xs.length c2, .int .i64 k] w fun e w' => e = .returned (.int .i64 (k + 2 * (xs.length : Int))) ∧ layEarlyS.own w' b [g] [.slice (some ⟨g, 0, none⟩) (pre ++ xs).length cap] (pre ++ (layEarlyS.mark k xs).1) ∧ Chg [g] w w' := by
  have HO := Lib.hid ho
  clear ho
  have HC := Lib.hid markText_int
  obtain ⟨n, HNL⟩ : ∃ n : Nat, Hid (n = (pre ++ xs).length) := ⟨_, Lib.hid rfl⟩
  rw [← HNL.out] at HO ⊢
  obtain ⟨off, HOF⟩ : ∃ off : Nat, Hid (off = pre.length * 2) := ⟨_, Lib.hid rfl⟩
  rw [← HOF.out]
  go_enter Try.func38, Try.ntmps38
  go_wp2_with fail
  go_loopw [1, 5] (fun q c wr => ∃ (j : Nat) (M : List EarlyD), j ≤ xs.length ∧ c = .int .i64 j ∧ q = .int .i64 (k + 2 * (j : Int)) ∧ Hid (M = (layEarlyS.mark k (xs.take j)).1) ∧ Hid (layEarlyS.own wr b [g] [.slice (some ⟨g, 0, none⟩) n cap] (pre ++ (M ++ xs.drop j))) ∧ Hid (Chg [g] w wr)) (fun _ c _ => xs.length - (intOf c).toNat)
  case atStart => exact ⟨0, [], Nat.zero_le _, rfl, by simp, Lib.hid (by simp [layEarlyS, Lay.rows, mkAll]), HO, Lib.hid (Chg.refl _ _)⟩
  case round =>
    obtain ⟨j, M, hj, rfl, rfl, HM, HO2, HG⟩ := hrel
    clear HO
    have HML : Hid (M.length = j) := Lib.hid (by
      rw [HM.out]
      show (mkAll layEarly k _).1.length = j
      rw [mkAll_length, List.length_take]
      omega)
    by_cases hlt : j < xs.length
    · have hlt' : (j : Int) < (xs.length : Int) := by omega
      have hx := List.getElem?_eq_getElem hlt
      have HNEXT := Lib.hid (marksEarly_next k xs j _ hx)
      have hdrop : xs.drop j = xs[j] :: xs.drop (j + 1) := List.drop_eq_getElem_cons hlt
      have hown3 := HO2.out
      rw [hdrop] at hown3
      generalize xs[j] = x at hown3 HNEXT
      clear hx hdrop HO2
      have HE : Hid ((pre.length + M.length) * 2 = off + j * 2) := Lib.hid (by rw [HML.out, HOF.out, Nat.add_mul])
      have HO3 := Lib.hid hown3
      clear hown3
      obtain ⟨q, hq, hq0, hq1⟩ : ∃ q : Int, k + 2 * (j : Int) = q ∧ 1 ≤ q ∧ q ≤ 600000000 := ⟨_, rfl, by omega, by omega⟩
      rw [hq] at HNEXT
      have HQ := Lib.hid hq
      rw [hq]
      clear hq
      obtain ⟨x0, x1⟩ := x
      obtain ⟨g2, k2, cs, hv, hf, hgb, hgl, hr, hcell, hst⟩ := flat_at flatEarly HO3.out (pre.length + M.length) _ (get_mid pre M (xs.drop (j + 1)) (x0, x1))
      simp only [Value.slice.injEq, Option.some.injEq, Addr.mk.injEq, and_true] at hv
      obtain ⟨rfl, -, rfl⟩ := hv
      rw [layEarly_rd] at hr
      subst hr
      rw [show layEarly.k = 2 from rfl, HE.out] at hcell hst
      obtain ⟨d0, z0⟩ : wr.cell? ⟨g, off + j * 2, none⟩ = some (.int .i64 x0) ∧ wr.frozen? ⟨g, off + j * 2, none⟩ = false := hcell 0 _ rfl
      obtain ⟨d1, z1⟩ : wr.cell? ⟨g, off + j * 2 + 1, none⟩ = some (.string x1) ∧ wr.frozen? ⟨g, off + j * 2 + 1, none⟩ = false := hcell 1 _ rfl
      have hst2 := hst [.int .i64 q] 0 (q, x1) (by show 0 + 1 ≤ 2; omega) (layEarly_rd.2 rfl)
      rw [set_mid] at hst2
      replace HO3 : Hid (layEarlyS.own (wr.setCell ⟨g, off + j * 2, none⟩ (.int .i64 q)) b [g] [.slice (some ⟨g, 0, none⟩) n cap] (pre ++ (M ++ (q, x1) :: xs.drop (j + 1)))) := Lib.hid hst2.1
      replace HG : Hid (Chg [g] w (wr.setCell ⟨g, off + j * 2, none⟩ (.int .i64 q))) := Lib.hid (HG.out.trans hst2.2)
      clear hst2
      clear hcell hst hf
      go_wp2_with fail
      refine (HC.out (q + 1) (by omega) (by omega) _).mono ?_
      rintro e w1 ⟨rfl, hb⟩
      replace HO3 := Lib.hid (layEarlyS.next HO3.out hb)
      replace HG := Lib.hid (HG.out.trans (Below.chg hb _))
      clear hb d0 z0 d1 z1
      obtain ⟨g2, k2, cs, hv, hf, hgb, hgl, hr, hcell, hst⟩ := flat_at flatEarly HO3.out (pre.length + M.length) _ (get_mid pre M (xs.drop (j + 1)) (q, x1))
      simp only [Value.slice.injEq, Option.some.injEq, Addr.mk.injEq, and_true] at hv
      obtain ⟨rfl, -, rfl⟩ := hv
      rw [layEarly_rd] at hr
      subst hr
      rw [show layEarly.k = 2 from rfl, HE.out] at hcell hst
      obtain ⟨d0, z0⟩ : w1.cell? ⟨g, off + j * 2, none⟩ = some (.int .i64 q) ∧ w1.frozen? ⟨g, off + j * 2, none⟩ = false := hcell 0 _ rfl
      obtain ⟨d1, z1⟩ : w1.cell? ⟨g, off + j * 2 + 1, none⟩ = some (.string x1) ∧ w1.frozen? ⟨g, off + j * 2 + 1, none⟩ = false := hcell 1 _ rfl
      have hst2 := hst [.string (markTxt (q + 1))] 1 (q, markTxt (q + 1)) (by show 1 + 1 ≤ 2; omega) (layEarly_rd.2 rfl)
      rw [set_mid] at hst2
      replace HO3 : Hid (layEarlyS.own (w1.setCell ⟨g, off + j * 2 + 1, none⟩ (.string (markTxt (q + 1)))) b [g] [.slice (some ⟨g, 0, none⟩) n cap] (pre ++ (M ++ (q, markTxt (q + 1)) :: xs.drop (j + 1)))) := Lib.hid hst2.1
      replace HG : Hid (Chg [g] w (w1.setCell ⟨g, off + j * 2 + 1, none⟩ (.string (markTxt (q + 1))))) := Lib.hid (HG.out.trans hst2.2)
      clear hst2
      clear hcell hst hf
      have HP : Hid ((layEarlyS.mark k (xs.take (j + 1))).1 = M ++ [(q, markTxt (q + 1))]) := Lib.hid (by rw [HNEXT.out, ← HM.out]; rfl)
      have HO4 : Hid (layEarlyS.own (w1.setCell ⟨g, off + j * 2 + 1, none⟩ (.string (markTxt (q + 1)))) b [g] [.slice (some ⟨g, 0, none⟩) n cap] (pre ++ ((M ++ [(q, markTxt (q + 1))]) ++ xs.drop (j + 1)))) := Lib.hid (by rw [List.append_assoc]; exact HO3.out)
      clear HO3
      go_wp2_with fail
      go_roundw
      case rel => exact ⟨j + 1, M ++ [(q, markTxt (q + 1))], by omega, by go_num, by have := HQ.out; go_num, Lib.hid HP.out.symm, HO4, HG⟩
      case measure => simp [intOf]; omega
    · have hlt' : ¬ ((j : Int) < (xs.length : Int)) := by omega
      have hke : j = xs.length := by omega
      subst hke
      have HO3 := HO2.out
      rw [List.drop_length, List.append_nil, HM.out, List.take_length] at HO3
      have HO4 := Lib.hid HO3
      clear HO3 HO2
      go_wp2_with fail
      go_ret
      exact ⟨rfl, HO4.out, HG.out⟩

theorem markEarlyS_nil (a : Option Addr) (c : Nat) (k : Int) (w : World) :
    Calls Try.prog 38 #[.slice a 0 c, .int .i64 k] w fun e w' => e = .returned (.int .i64 (k + 2 * ((0 : Nat) : Int))) ∧ w' = w := by
  have hk : k + 2 * ((0 : Nat) : Int) = k := by omega
  rw [hk]
  clear hk
  go_enter Try.func38, Try.ntmps38
  go_wp2_with fail
  go_loop [1, 5] (fun q c => q = .int .i64 k ∧ c = .int .i64 0) (fun _ _ => 0)
  case atStart => exact ⟨rfl, rfl⟩
  case round =>
    obtain ⟨rfl, rfl⟩ := hrel
    go_wp2_with fail
    go_ret
    exact ⟨rfl, rfl⟩

theorem markEarlyT_any (v : Value) (xs : List EarlyD) (b : Nat) (fp : List Nat) (k : Int) (hk0 : 1 ≤ k) (hk1 : k ≤ 500000000) (hl : xs.length ≤ 10000000) (w : World) (hd : fp.Nodup) (ho : layEarlyT.own w b fp [v] xs) :
    Calls Try.prog 38 #[v, .int .i64 k] w fun e w' => e = .returned (.int .i64 (k + 2 * (xs.length : Int))) ∧ layEarlyT.own w' b fp [v] (layEarlyS.mark k xs).1 ∧ Chg fp w w' := by
  rcases ho with h | ⟨g, cap, c2, pre, hv, hc, hn, rfl, h⟩ | ⟨rfl, rfl, a, c, hv, hc⟩
  · exact (markEarlyS_any v xs b fp k hk0 hk1 hl w hd h).mono fun _ _ h => ⟨h.1, .inl h.2.1, h.2.2⟩
  · simp only [List.cons.injEq, and_true] at hv
    subst hv
    refine (markEarlyS_tail g cap c2 pre xs b k hk0 hk1 hl w h).mono ?_
    rintro e w' ⟨rfl, h1, h2⟩
    have hml : (layEarlyS.mark k xs).1.length = xs.length := mkAll_length layEarly xs k
    have e1 : (pre ++ xs).length = (pre ++ (layEarlyS.mark k xs).1).length := by rw [List.length_append, List.length_append, hml]
    rw [e1] at h1
    refine ⟨rfl, .inr (.inl ⟨g, cap, c2, pre, by rw [hml], by rw [hml]; exact hc, fun e2 => hn ?_, rfl, h1⟩), h2⟩
    have e3 := congrArg List.length e2
    rw [← e1] at e3
    exact List.length_eq_zero_iff.1 e3
  · simp only [List.cons.injEq, and_true] at hv
    subst hv
    exact (markEarlyS_nil a c k w).mono fun _ _ h => ⟨h.1, .inr (.inr ⟨rfl, rfl, a, c, rfl, hc⟩), by rw [h.2]; exact Chg.refl _ _⟩

end Go.Proofs.Ythljmjbmmgligar
namespace Go.Proofs.Ythljmjbmmgligar
open Go.RowKit

def layStringT : Lay (List ByteArray) := .tail StringT layString

set_option maxRecDepth 100000 in
set_option maxHeartbeats 1600000 in
theorem markStringS_tail (g cap c2 : Nat) (pre xs : List ByteArray) (b : Nat) (k : Int) (hk0 : 1 ≤ k) (hk1 : k ≤ 500000000) (hl : xs.length ≤ 10000000) (w : World) (ho : layStringS.own w b [g] [.slice (some ⟨g, 0, none⟩) (pre ++ xs).length cap] (pre ++ xs)) :
    Calls Try.prog 36 #[.slice (some ⟨g, pre.length * 1, none⟩) xs.length c2, .int .i64 k] w fun e w' => e = .returned (.int .i64 (k + 1 * (xs.length : Int))) ∧ layStringS.own w' b [g] [.slice (some ⟨g, 0, none⟩) (pre ++ xs).length cap] (pre ++ (layStringS.mark k xs).1) ∧ Chg [g] w w' := by
  have HO := Lib.hid ho
  clear ho
  have HC := Lib.hid markText_int
  obtain ⟨n, HNL⟩ : ∃ n : Nat, Hid (n = (pre ++ xs).length) := ⟨_, Lib.hid rfl⟩
  rw [← HNL.out] at HO ⊢
  obtain ⟨off, HOF⟩ : ∃ off : Nat, Hid (off = pre.length * 1) := ⟨_, Lib.hid rfl⟩
  rw [← HOF.out]
  go_enter Try.func36, Try.ntmps36
  go_wp2_with fail
  go_loopw [1, 5] (fun q c wr => ∃ (j : Nat) (M : List ByteArray), j ≤ xs.length ∧ c = .int .i64 j ∧ q = .int .i64 (k + 1 * (j : Int)) ∧ Hid (M = (layStringS.mark k (xs.take j)).1) ∧ Hid (layStringS.own wr b [g] [.slice (some ⟨g, 0, none⟩) n cap] (pre ++ (M ++ xs.drop j))) ∧ Hid (Chg [g] w wr)) (fun _ c _ => xs.length - (intOf c).toNat)
  case atStart => exact ⟨0, [], Nat.zero_le _, rfl, by simp, Lib.hid (by simp [layStringS, Lay.rows, mkAll]), HO, Lib.hid (Chg.refl _ _)⟩
  case round =>
    obtain ⟨j, M, hj, rfl, rfl, HM, HO2, HG⟩ := hrel
    clear HO
    have HML : Hid (M.length = j) := Lib.hid (by
      rw [HM.out]
      show (mkAll layString k _).1.length = j
      rw [mkAll_length, List.length_take]
      omega)
    by_cases hlt : j < xs.length
    · have hlt' : (j : Int) < (xs.length : Int) := by omega
      have hx := List.getElem?_eq_getElem hlt
      have HNEXT := Lib.hid (marksString_next k xs j _ hx)
      have hdrop : xs.drop j = xs[j] :: xs.drop (j + 1) := List.drop_eq_getElem_cons hlt
      have hown3 := HO2.out
      rw [hdrop] at hown3
      generalize xs[j] = x at hown3 HNEXT
      clear hx hdrop HO2
      have HE : Hid ((pre.length + M.length) * 1 = off + j * 1) := Lib.hid (by rw [HML.out, HOF.out, Nat.add_mul])
      have HO3 := Lib.hid hown3
      clear hown3
      obtain ⟨q, hq, hq0, hq1⟩ : ∃ q : Int, k + 1 * (j : Int) = q ∧ 1 ≤ q ∧ q ≤ 600000000 := ⟨_, rfl, by omega, by omega⟩
      rw [hq] at HNEXT
      have HQ := Lib.hid hq
      rw [hq]
      clear hq
      obtain ⟨g2, k2, cs, hv, hf, hgb, hgl, hr, hcell, hst⟩ := flat_at flatString HO3.out (pre.length + M.length) _ (get_mid pre M (xs.drop (j + 1)) (x))
      simp only [Value.slice.injEq, Option.some.injEq, Addr.mk.injEq, and_true] at hv
      obtain ⟨rfl, -, rfl⟩ := hv
      rw [layString_rd] at hr
      subst hr
      rw [show layString.k = 1 from rfl, HE.out] at hcell hst
      obtain ⟨d0, z0⟩ : wr.cell? ⟨g, off + j, none⟩ = some (.string x) ∧ wr.frozen? ⟨g, off + j, none⟩ = false := (by have h9 := hcell 0 _ rfl; rw [Nat.mul_one] at h9; exact h9)
      clear hcell hst hf
      go_wp2_with fail
      refine (HC.out (q) (by omega) (by omega) _).mono ?_
      rintro e w1 ⟨rfl, hb⟩
      replace HO3 := Lib.hid (layStringS.next HO3.out hb)
      replace HG := Lib.hid (HG.out.trans (Below.chg hb _))
      clear hb d0 z0
      obtain ⟨g2, k2, cs, hv, hf, hgb, hgl, hr, hcell, hst⟩ := flat_at flatString HO3.out (pre.length + M.length) _ (get_mid pre M (xs.drop (j + 1)) (x))
      simp only [Value.slice.injEq, Option.some.injEq, Addr.mk.injEq, and_true] at hv
      obtain ⟨rfl, -, rfl⟩ := hv
      rw [layString_rd] at hr
      subst hr
      rw [show layString.k = 1 from rfl, HE.out] at hcell hst
      obtain ⟨d0, z0⟩ : w1.cell? ⟨g, off + j, none⟩ = some (.string x) ∧ w1.frozen? ⟨g, off + j, none⟩ = false := (by have h9 := hcell 0 _ rfl; rw [Nat.mul_one] at h9; exact h9)
      have hst2 := hst [.string (markTxt q)] 0 (markTxt q) (by show 0 + 1 ≤ 1; omega) (layString_rd.2 rfl)
      rw [set_mid] at hst2
      rw [Nat.mul_one] at hst2
      replace HO3 : Hid (layStringS.own (w1.setCell ⟨g, off + j, none⟩ (.string (markTxt q))) b [g] [.slice (some ⟨g, 0, none⟩) n cap] (pre ++ (M ++ (markTxt q) :: xs.drop (j + 1)))) := Lib.hid hst2.1
      replace HG : Hid (Chg [g] w (w1.setCell ⟨g, off + j, none⟩ (.string (markTxt q)))) := Lib.hid (HG.out.trans hst2.2)
      clear hst2
      clear hcell hst hf
      have HP : Hid ((layStringS.mark k (xs.take (j + 1))).1 = M ++ [(markTxt q)]) := Lib.hid (by rw [HNEXT.out, ← HM.out]; rfl)
      have HO4 : Hid (layStringS.own (w1.setCell ⟨g, off + j, none⟩ (.string (markTxt q))) b [g] [.slice (some ⟨g, 0, none⟩) n cap] (pre ++ ((M ++ [(markTxt q)]) ++ xs.drop (j + 1)))) := Lib.hid (by rw [List.append_assoc]; exact HO3.out)
      clear HO3
      go_wp2_with fail
      go_roundw
      case rel => exact ⟨j + 1, M ++ [(markTxt q)], by omega, by go_num, by have := HQ.out; go_num, Lib.hid HP.out.symm, HO4, HG⟩
      case measure => simp [intOf]; omega
    · have hlt' : ¬ ((j : Int) < (xs.length : Int)) := by omega
      have hke : j = xs.length := by omega
      subst hke
      have HO3 := HO2.out
      rw [List.drop_length, List.append_nil, HM.out, List.take_length] at HO3
      have HO4 := Lib.hid HO3
      clear HO3 HO2
      go_wp2_with fail
      go_ret
      exact ⟨rfl, HO4.out, HG.out⟩

theorem markStringS_nil (a : Option Addr) (c : Nat) (k : Int) (w : World) :
    Calls Try.prog 36 #[.slice a 0 c, .int .i64 k] w fun e w' => e = .returned (.int .i64 (k + 1 * ((0 : Nat) : Int))) ∧ w' = w := by
  have hk : k + 1 * ((0 : Nat) : Int) = k := by omega
  rw [hk]
  clear hk
  go_enter Try.func36, Try.ntmps36
  go_wp2_with fail
  go_loop [1, 5] (fun q c => q = .int .i64 k ∧ c = .int .i64 0) (fun _ _ => 0)
  case atStart => exact ⟨rfl, rfl⟩
  case round =>
    obtain ⟨rfl, rfl⟩ := hrel
    go_wp2_with fail
    go_ret
    exact ⟨rfl, rfl⟩

theorem markStringT_any (v : Value) (xs : List ByteArray) (b : Nat) (fp : List Nat) (k : Int) (hk0 : 1 ≤ k) (hk1 : k ≤ 500000000) (hl : xs.length ≤ 10000000) (w : World) (hd : fp.Nodup) (ho : layStringT.own w b fp [v] xs) :
    Calls Try.prog 36 #[v, .int .i64 k] w fun e w' => e = .returned (.int .i64 (k + 1 * (xs.length : Int))) ∧ layStringT.own w' b fp [v] (layStringS.mark k xs).1 ∧ Chg fp w w' := by
  rcases ho with h | ⟨g, cap, c2, pre, hv, hc, hn, rfl, h⟩ | ⟨rfl, rfl, a, c, hv, hc⟩
  · exact (markStringS_any v xs b fp k hk0 hk1 hl w hd h).mono fun _ _ h => ⟨h.1, .inl h.2.1, h.2.2⟩
  · simp only [List.cons.injEq, and_true] at hv
    subst hv
    refine (markStringS_tail g cap c2 pre xs b k hk0 hk1 hl w h).mono ?_
    rintro e w' ⟨rfl, h1, h2⟩
    have hml : (layStringS.mark k xs).1.length = xs.length := mkAll_length layString xs k
    have e1 : (pre ++ xs).length = (pre ++ (layStringS.mark k xs).1).length := by rw [List.length_append, List.length_append, hml]
    rw [e1] at h1
    refine ⟨rfl, .inr (.inl ⟨g, cap, c2, pre, by rw [hml], by rw [hml]; exact hc, fun e2 => hn ?_, rfl, h1⟩), h2⟩
    have e3 := congrArg List.length e2
    rw [← e1] at e3
    exact List.length_eq_zero_iff.1 e3
  · simp only [List.cons.injEq, and_true] at hv
    subst hv
    exact (markStringS_nil a c k w).mono fun _ _ h => ⟨h.1, .inr (.inr ⟨rfl, rfl, a, c, rfl, hc⟩), by rw [h.2]; exact Chg.refl _ _⟩

end Go.Proofs.Ythljmjbmmgligar
