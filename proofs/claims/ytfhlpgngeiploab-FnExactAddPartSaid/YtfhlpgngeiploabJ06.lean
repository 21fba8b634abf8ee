/-
  Rows of texts as they lie; the laws' own functions over them.
-/
import Derived.Test.YtfhlpgngeiploabJ05
import Derived.Test.YtfhlpgngeiploabRows
import Derived.Deep.RegionHeld3
import Derived.BigQuiet
import Derived.Deep.QuietTactic
import Derived.Deep.DeepCutAuto
namespace Go.Proofs.Ytfhlpgngeiploab
open Go.RowKit

abbrev StringD := ByteArray
abbrev StringT : TypeId := 9
def layString : Lay ByteArray := Lay.str
def layStringS : Lay (List ByteArray) := .rows StringT layString
theorem str_k (j : Nat) : j * layString.k = j := Nat.mul_one j
theorem layString_rd {w : World} {cs : List Value} {x : ByteArray} : layString.rd w cs x ↔ cs = [.string x] := Iff.rfl
theorem layString_own {w : World} {b : Nat} {f : List Nat} {cs : List Value} {x : ByteArray} : layString.own w b f cs x ↔ f = [] ∧ cs = [.string x] := Iff.rfl
theorem zeroString (w : World) (b : Nat) : layString.own w b [] [.string ⟨#[]⟩] ⟨#[]⟩ := ⟨rfl, rfl⟩
theorem zeroString_none (w : World) (b : Nat) (f : List Nat) (c : List Value) (h : layString.own w b f c ⟨#[]⟩) : f = [] := h.1
theorem flatString : Flat layString := ⟨fun _ _ _ _ h => layString_own.2 ⟨rfl, layString_rd.1 h⟩, fun _ _ _ _ _ h => (layString_own.1 h).1, fun _ _ _ _ h => layString_rd.2 (layString_rd.1 h)⟩
theorem infoString : (Try.prog.info? 9).map (fun i => (i.zero, i.size, i.bytes)) = some (some (.string ⟨#[]⟩), 1, 16) := by kernel_rfl
set_option maxRecDepth 100000 in
set_option maxHeartbeats 800000 in
theorem toStringS_any (v : Value) (xs : List StringD) (hl : xs.length ≤ 1048576) (w : World) (hs : layStringS.rd w [v] xs) :
    Calls Try.prog 55 #[v] w fun e w' => OutS layStringS w xs e w' := by
  obtain ⟨i0, hi, hz0, hsz0, hby0⟩ := info_of infoString
  obtain ⟨a, cap, rfl⟩ := rows_form hs
  have HS := Lib.hid hs
  clear hs
  go_enter Try.func55, Try.ntmps55
  go_wp2_with (at_make; refine wpList_make_full _ rfl _ _ 41 rfl w.heap.size StringT i0 (.string ⟨#[]⟩) 1 Try.underlying41 hi hz0 hsz0 .i64 .i64 _ _ xs.length rfl rfl rfl rfl (by rw [hby0]; omega) (by unfold maxLen; omega) (Nat.le_refl _) ?_)
  intro w1 hown1 hg1
  have hown : layStringS.own w1 w.heap.size [w.heap.size] [.slice (some ⟨w.heap.size, 0, none⟩) xs.length xs.length] (List.replicate xs.length ⟨#[]⟩) := rows_made (cs := #[.string ⟨#[]⟩]) (by rw [show xs.length * layString.k = xs.length from Nat.mul_one _]; exact hown1) rfl (zeroString _ _)
  have hbel : Below w.heap.size w w1 := below_grown hg1 (fun k h => by cases h) (Nat.le_refl _)
  clear hown1 hg1
  go_wp2_with fail
  go_loopw [4] (fun c wr => ∃ (j : Nat) (fp : List Nat), j ≤ xs.length ∧ c = .int .i64 j ∧ fp.Nodup ∧ layStringS.own wr w.heap.size fp [.slice (some ⟨w.heap.size, 0, none⟩) xs.length xs.length] (xs.take j ++ List.replicate (xs.length - j) ⟨#[]⟩) ∧ Below w.heap.size w wr) (fun c _ => xs.length - (intOf c).toNat)
  case atStart => exact ⟨0, [w.heap.size], Nat.zero_le _, rfl, by simp, by simpa using hown, hbel⟩
  case round =>
    obtain ⟨j, fp, hj, rfl, hdup, hown2, hb2⟩ := hrel
    have HO := Lib.hid hown2
    have HB := Lib.hid hb2
    clear hown2 hb2 hown hbel
    by_cases hlt : j < xs.length
    · have hlt' : (j : Int) < (xs.length : Int) := by omega
      have hx := List.getElem?_eq_getElem hlt
      obtain ⟨g, off, cs, rfl, hg, hr, hc⟩ := rows_elem (layStringS.below HS.out HB.out) j _ hx
      have hta : xs.take (j + 1) = xs.take j ++ [xs[j]] := by rw [List.take_add_one, hx]; rfl
      generalize xs[j] = x at hr hta
      rw [layString_rd] at hr
      subst hr
      have c0 : wr.cell? ⟨g, off + j * 1, none⟩ = some (.string x) := hc 0 _ rfl
      rw [Nat.mul_one] at c0
      have HTA := Lib.hid hta
      clear hta hc hx
      have hm : xs.length - j = (xs.length - (j + 1)) + 1 := by omega
      have hown3 := HO.out
      rw [hm] at hown3
      obtain ⟨g', cap', hv, hbg, hgl, ⟨zc, hzc, hcell⟩, fp', hd', _, hown4, hchg⟩ := rows_fill zeroString_none hown3 hdup [] [.string x] x (layString_own.2 ⟨rfl, rfl⟩) (by simp) (by simp)
      simp only [Value.slice.injEq, Option.some.injEq, Addr.mk.injEq, and_true] at hv
      obtain ⟨rfl, -, rfl⟩ := hv
      have hjl : (xs.take j).length = j := by rw [List.length_take]; omega
      rw [hjl] at hcell hown4 hchg
      rw [layString_own] at hzc
      obtain ⟨-, rfl⟩ := hzc
      obtain ⟨e0, z0⟩ : wr.cell? ⟨w.heap.size, j * 1, none⟩ = some (.string ⟨#[]⟩) ∧ wr.frozen? ⟨w.heap.size, j * 1, none⟩ = false := hcell 0 _ rfl
      rw [Nat.mul_one] at e0 z0
      have HP : Hid (layStringS.own (wr.setCell ⟨w.heap.size, j, none⟩ (.string x)) w.heap.size fp' [.slice (some ⟨w.heap.size, 0, none⟩) xs.length xs.length] (xs.take (j + 1) ++ List.replicate (xs.length - (j + 1)) ⟨#[]⟩)) := by
        rw [HTA.out, List.append_assoc]
        have h9 : setCells wr w.heap.size (j * layString.k) [.string x] = wr.setCell ⟨w.heap.size, j, none⟩ (.string x) := by rw [show j * layString.k = j from Nat.mul_one j]; rfl
        rw [h9] at hown4
        exact hown4
      have HB3 : Hid (Below w.heap.size w (wr.setCell ⟨w.heap.size, j, none⟩ (.string x))) := by
        have h9 : setCells wr w.heap.size (j * layString.k) [.string x] = wr.setCell ⟨w.heap.size, j, none⟩ (.string x) := by rw [show j * layString.k = j from Nat.mul_one j]; rfl
        rw [h9] at hchg
        exact HB.out.trans (hchg.below (by simp) HB.out.size)
      have HD := Lib.hid hd'
      clear hown3 hown4 hchg hcell hm hjl hd' hbg hgl
      go_wp2_with fail
      go_roundw
      case rel => exact ⟨j + 1, fp', by omega, by go_num, HD.out, HP.out, HB3.out⟩
      case measure => simp [intOf]; omega
    · have hlt' : ¬ ((j : Int) < (xs.length : Int)) := by omega
      have hke : j = xs.length := by omega
      have hfin : xs.take j ++ List.replicate (xs.length - j) (⟨#[]⟩ : ByteArray) = xs := by subst hke; simp
      have HO2 := HO.out
      rw [hfin] at HO2
      have HO3 := Lib.hid HO2
      clear HO2 HO
      go_wp2_with fail
      go_ret
      exact ⟨_, fp, rfl, hdup, HO3.out, HB.out⟩

set_option maxRecDepth 100000 in
set_option maxHeartbeats 800000 in
theorem eqStringS_same (v u : Value) (xs : List ByteArray) (hl : xs.length ≤ 100000000) (w : World) (hv : layStringS.rd w [v] xs) (hu : layStringS.rd w [u] xs) :
    Calls Try.prog 58 #[v, u] w fun e w' => e = .returned (.bool true) ∧ Below w.heap.size w w' := by
  obtain ⟨ao, cp, rfl⟩ := rows_form hv
  obtain ⟨bo, dp, rfl⟩ := rows_form hu
  have HV := Lib.hid hv
  have HU := Lib.hid hu
  clear hv hu
  go_enter Try.func58, Try.ntmps58
  go_wp2_with fail
  go_loopw [5] (fun c wr => ∃ j : Nat, j ≤ xs.length ∧ c = .int .i64 j ∧ Below w.heap.size w wr) (fun c _ => xs.length - (intOf c).toNat)
  case atStart => exact ⟨0, Nat.zero_le _, rfl, Below.refl _ _⟩
  case round =>
    obtain ⟨j, hj, rfl, hb⟩ := hrel
    have HB := Lib.hid hb
    by_cases hlt : j < xs.length
    · have hlt' : (j : Int) < (xs.length : Int) := by omega
      have hx := List.getElem?_eq_getElem hlt
      obtain ⟨g, og, cs, rfl, hg, hr, hc⟩ := rows_elem (layStringS.below HV.out hb) j _ hx
      obtain ⟨h, oh, ds, rfl, hh, hs, hd⟩ := rows_elem (layStringS.below HU.out hb) j _ hx
      generalize xs[j] = x at hr hs
      rw [layString_rd] at hr hs
      subst hr hs
      have c0 : wr.cell? ⟨g, og + j * 1, none⟩ = some (.string x) := hc 0 _ rfl
      have d0 : wr.cell? ⟨h, oh + j * 1, none⟩ = some (.string x) := hd 0 _ rfl
      rw [Nat.mul_one] at c0 d0
      clear hb hc hd hx
      go_wp2_with fail
      go_quiet (fail)
      go_wp2_with fail
      go_roundw
      case rel => exact ⟨j + 1, by omega, by go_num, below_drewN HB.out _⟩
      case measure => simp [intOf]; omega
    · have hlt' : ¬ ((j : Int) < (xs.length : Int)) := by omega
      go_wp2_with fail
      go_ret
      exact ⟨rfl, hb⟩

/-- Rows that are measured. -/
def FitsString (xs : List StringD) : Prop := xs.length ≤ 1048576 ∧ ∀ x ∈ xs, (x).size ≤ 1048576
def RoomString (xs : List StringD) : Prop := xs.length ≤ 9223372036854775807 ∧ ∀ x ∈ xs, (x).size ≤ 9223372036854775807
theorem markString_eq (q : Int) (x : StringD) : layString.mark q x = ((markTxt (q)), q + 1) := rfl
theorem marksString_num (k : Int) (xs : List StringD) : (layStringS.mark k xs).2 = k + 1 * (xs.length : Int) := by
  show (mkAll layString k xs).2 = _
  induction xs generalizing k with
  | nil => simp [mkAll]
  | cons x xs ih =>
    show (mkAll layString (layString.mark k x).2 xs).2 = _
    rw [ih, markString_eq]
    simp only [List.length_cons]
    omega
theorem marksString_next (k : Int) (xs : List StringD) (j : Nat) (x : StringD) (hx : xs[j]? = some x) : (layStringS.mark k (xs.take (j + 1))).1 = (layStringS.mark k (xs.take j)).1 ++ [(layString.mark (k + 1 * (j : Int)) x).1] := by
  have hj : j < xs.length := (List.getElem?_eq_some_iff.1 hx).1
  have e : xs.take (j + 1) = xs.take j ++ [x] := by rw [List.take_add_one, hx]; rfl
  have h2 := marksString_num k (xs.take j)
  show (mkAll layString k _).1 = (mkAll layString k _).1 ++ _
  rw [e, mkAll_append]
  have h3 : (mkAll layString k (xs.take j)).2 = k + 1 * (j : Int) := by
    have h4 : (mkAll layString k (xs.take j)).2 = _ := h2
    rw [h4, List.length_take, Nat.min_eq_left (by omega)]
  rw [h3]
  rfl
theorem marksString_get (k : Int) (xs : List StringD) (j : Nat) (x : StringD) (hx : xs[j]? = some x) : (layStringS.mark k xs).1[j]? = some (layString.mark (k + 1 * (j : Int)) x).1 := by
  have hj : j < xs.length := (List.getElem?_eq_some_iff.1 hx).1
  have h := marksString_next k xs j x hx
  have e : xs = xs.take (j + 1) ++ xs.drop (j + 1) := (List.take_append_drop _ _).symm
  have e2 : (layStringS.mark k xs).1 = (layStringS.mark k (xs.take (j + 1))).1 ++ (mkAll layString (layStringS.mark k (xs.take (j + 1))).2 (xs.drop (j + 1))).1 := by
    conv => lhs; rw [e]
    show (mkAll layString k _).1 = _
    rw [mkAll_append]
    rfl
  have hl : (layStringS.mark k (xs.take j)).1.length = j := by
    show (mkAll layString k _).1.length = j
    rw [mkAll_length, List.length_take]
    omega
  rw [e2, h, List.getElem?_append_left (by rw [List.length_append, hl]; simp), List.getElem?_append_right (by omega), hl, Nat.sub_self]
  rfl
set_option maxRecDepth 100000 in
set_option maxHeartbeats 1600000 in
theorem markStringS_any (v : Value) (xs : List StringD) (b : Nat) (fp : List Nat) (k : Int) (hk0 : 1 ≤ k) (hk1 : k ≤ 500000000) (hl : xs.length ≤ 10000000) (w : World) (hd : fp.Nodup) (ho : layStringS.own w b fp [v] xs) :
    Calls Try.prog 48 #[v, .int .i64 k] w fun e w' => e = .returned (.int .i64 (k + 1 * (xs.length : Int))) ∧ layStringS.own w' b fp [v] (layStringS.mark k xs).1 ∧ Chg fp w w' := by
  obtain ⟨ao, cp, rfl⟩ := rows_form (layStringS.read ho)
  have HO := Lib.hid ho
  have HDUP := Lib.hid hd
  clear ho hd
  have HC := Lib.hid markText_int
  go_enter Try.func48, Try.ntmps48
  go_wp2_with fail
  go_loopw [1, 5] (fun q c wr => ∃ j : Nat, j ≤ xs.length ∧ c = .int .i64 j ∧ q = .int .i64 (k + 1 * (j : Int)) ∧ layStringS.own wr b fp [.slice ao xs.length cp] ((layStringS.mark k (xs.take j)).1 ++ xs.drop j) ∧ Chg fp w wr) (fun _ c _ => xs.length - (intOf c).toNat)
  case atStart => exact ⟨0, Nat.zero_le _, rfl, by simp, by simpa [layStringS, Lay.rows, mkAll] using HO.out, Chg.refl _ _⟩
  case round =>
    obtain ⟨j, hj, rfl, rfl, hown2, hg2⟩ := hrel
    have HO2 := Lib.hid hown2
    have HG := Lib.hid hg2
    clear hown2 hg2 HO
    by_cases hlt : j < xs.length
    · have hlt' : (j : Int) < (xs.length : Int) := by omega
      have hx := List.getElem?_eq_getElem hlt
      have HNEXT := Lib.hid (marksString_next k xs j _ hx)
      have hdrop : xs.drop j = xs[j] :: xs.drop (j + 1) := List.drop_eq_getElem_cons hlt
      have hown3 := HO2.out
      rw [hdrop] at hown3
      generalize xs[j] = x0 at hown3 HNEXT
      obtain ⟨g, cap, f1, f2, f3, u1, c, u3, hv, rfl, Z⟩ := rows_open hown3 HDUP.out
      simp only [Value.slice.injEq] at hv
      obtain ⟨rfl, -, rfl⟩ := hv
      have hXl : (layStringS.mark k (xs.take j)).1.length = j := by
        show (mkAll layString k _).1.length = j
        rw [mkAll_length, List.length_take]
        omega
      obtain ⟨rfl, rfl⟩ := layString_own.1 Z.mid
      have HXL := Lib.hid hXl
      obtain ⟨M, HM⟩ : ∃ l, Hid (l = (layStringS.mark k (xs.take j)).1) := ⟨_, Lib.hid rfl⟩
      rw [← HM.out] at Z HXL HNEXT
      have ZZ := Lib.hid Z
      obtain ⟨q, hq, hq0, hq1⟩ : ∃ q : Int, k + 1 * (j : Int) = q ∧ 1 ≤ q ∧ q ≤ 600000000 := ⟨_, rfl, by omega, by omega⟩
      rw [hq] at HNEXT
      have HQ := Lib.hid hq
      rw [hq]
      clear hown3 hdrop Z hXl HO2 hx hq
      have hcell := fun t u hu => ZZ.out.cell t u hu
      rw [HXL.out] at hcell
      obtain ⟨d0, z0⟩ : wr.cell? ⟨g, j, none⟩ = some (.string x0) ∧ wr.frozen? ⟨g, j, none⟩ = false := by
        have h9 := hcell 0 _ rfl
        rw [str_k] at h9
        exact h9
      clear hcell
      go_wp2_with fail
      refine (HC.out (q) (by omega) (by omega) _).mono ?_
      rintro e w1 ⟨rfl, hb⟩
      replace ZZ := Lib.hid (ZZ.out.next hb)
      replace HG := Lib.hid (HG.out.trans (Below.chg hb _))
      clear hb d0 z0
      have hcell := fun t u hu => ZZ.out.cell t u hu
      rw [HXL.out] at hcell
      obtain ⟨d0, z0⟩ : w1.cell? ⟨g, j, none⟩ = some (.string x0) ∧ w1.frozen? ⟨g, j, none⟩ = false := by
        have h9 := hcell 0 _ rfl
        rw [str_k] at h9
        exact h9
      clear hcell
      have hst := ZZ.out.store [.string (markTxt q)] 0 (by simp) [] (markTxt (q)) (layString_own.2 ⟨rfl, rfl⟩) ZZ.out.dup
      rw [HXL.out, str_k] at hst
      replace ZZ := Lib.hid hst.1
      replace HG := Lib.hid (HG.out.trans (hst.2.sub (by simp)))
      clear hst
      have h3 := ZZ.out.shut
      have e4 : (M ++ (markTxt (q)) :: xs.drop (j + 1)).length = xs.length := by
        rw [List.length_append, HXL.out, List.length_cons, List.length_drop]
        omega
      have e5 : (layStringS.mark k (xs.take (j + 1))).1 ++ xs.drop (j + 1) = M ++ (markTxt (q)) :: xs.drop (j + 1) := by
        rw [HNEXT.out, List.append_assoc]
        rfl
      rw [e4, ← e5] at h3
      have HP := Lib.hid h3
      clear h3 e4 e5 ZZ
      go_wp2_with fail
      go_roundw
      case rel => exact ⟨j + 1, by omega, by go_num, by have := HQ.out; go_num, HP.out, HG.out⟩
      case measure => simp [intOf]; omega
    · have hlt' : ¬ ((j : Int) < (xs.length : Int)) := by omega
      have hke : j = xs.length := by omega
      subst hke
      have HO3 := HO2.out
      rw [List.drop_length, List.append_nil, List.take_length] at HO3
      have HO4 := Lib.hid HO3
      clear HO3 HO2
      go_wp2_with fail
      go_ret
      exact ⟨rfl, HO4.out, HG.out⟩

set_option maxRecDepth 100000 in
set_option maxHeartbeats 1600000 in
theorem heldStringS_any (v : Value) (xs : List StringD) (k : Int) (hk0 : 1 ≤ k) (hk1 : k ≤ 500000000) (hl : xs.length ≤ 10000000) (w : World) (hr : layStringS.rd w [v] (layStringS.mark k xs).1) :
    Calls Try.prog 50 #[v, .int .i64 k] w fun e w' => e = .returned (.int .i64 (k + 1 * (xs.length : Int))) ∧ Below w.heap.size w w' := by
  obtain ⟨ao, cp, rfl⟩ := rows_form hr
  have hml : (layStringS.mark k xs).1.length = xs.length := mkAll_length layString xs k
  have HR := Lib.hid hr
  clear hr
  rw [hml] at HR ⊢
  have HC := Lib.hid markText_int
  go_enter Try.func50, Try.ntmps50
  go_wp2_with fail
  go_loopw [1, 5] (fun q c wr => ∃ j : Nat, j ≤ xs.length ∧ c = .int .i64 j ∧ q = .int .i64 (k + 1 * (j : Int)) ∧ Below w.heap.size w wr) (fun _ c _ => xs.length - (intOf c).toNat)
  case atStart => exact ⟨0, Nat.zero_le _, rfl, by simp, Below.refl _ _⟩
  case round =>
    obtain ⟨j, hj, rfl, rfl, hbr⟩ := hrel
    have HBR := Lib.hid hbr
    by_cases hlt : j < xs.length
    · have hlt' : (j : Int) < (xs.length : Int) := by omega
      obtain ⟨g, off, cs, rfl, hg, hr, hc⟩ := rows_elem (layStringS.below HR.out hbr) j _ (marksString_get k xs j _ (List.getElem?_eq_getElem hlt))
      obtain ⟨q, hq, hq0, hq1⟩ : ∃ q : Int, k + 1 * (j : Int) = q ∧ 1 ≤ q ∧ q ≤ 600000000 := ⟨_, rfl, by omega, by omega⟩
      rw [hq, markString_eq, layString_rd] at hr
      subst hr
      have E0 : Hid (wr.cell? ⟨g, off + j, none⟩ = some (.string (markTxt q)) ∧ Below w.heap.size w wr) := ⟨(by have h9 := hc 0 _ rfl; rw [str_k] at h9; exact h9), hbr⟩
      have HQ := Lib.hid hq
      rw [hq]
      clear hc hq hml hbr HBR
      obtain ⟨mt, HMT⟩ : ∃ b : ByteArray, Hid (b = markTxt (q)) := ⟨_, Lib.hid rfl⟩
      rw [← HMT.out] at E0
      have E1 : Hid (wr.drew.cell? ⟨g, off + j, none⟩ = some (.string mt) ∧ Below w.heap.size w wr.drew) := by
        obtain ⟨a0, hB⟩ := E0.out
        exact ⟨a0, hB.drew⟩
      have K2 : Hid (∀ X : World, (X.cell? ⟨g, off + j, none⟩ = some (.string mt) ∧ Below w.heap.size w X) → Calls Try.prog 61 #[.int .i64 (q)] X fun e Y => e = .returned (.string mt) ∧ (Y.cell? ⟨g, off + j, none⟩ = some (.string mt) ∧ Below w.heap.size w Y)) := fun X hX => by
        refine (HC.out (q) (by omega) (by omega) X).mono ?_
        rintro e Y ⟨rfl, hb⟩
        obtain ⟨a0, hbX⟩ := hX
        rw [HMT.out]
        exact ⟨rfl, by rw [← HMT.out]; exact ⟨(by rw [hb.cell (p := ⟨g, off + j, none⟩) (World.block_lt_of_cell? _ _ a0)]; exact a0), hbX.trans (hb.mono hbX.size)⟩⟩
      go_wp2_with fail
      go_region_held3 (fun X => X.cell? ⟨g, off + j, none⟩ = some (.string mt) ∧ Below w.heap.size w X) (first | (with_reducible assumption) | (with_reducible exact E1.out)) (first | (go_at_call 61; refine (K2.out _ (by assumption)).mono ?_; rintro e v1 ⟨rfl, hS⟩))
      all_goals
        have HS := Lib.hid hS
        clear hS E0 E1 K2
        go_wp2_with fail
        go_roundw
        case rel => exact ⟨j + 1, by omega, by go_num, by have := HQ.out; go_num, HS.out.2⟩
        case measure => simp [intOf]; omega
    · have hlt' : ¬ ((j : Int) < (xs.length : Int)) := by omega
      have hke : j = xs.length := by omega
      subst hke
      go_wp2_with fail
      go_ret
      exact ⟨rfl, HBR.out⟩

end Go.Proofs.Ytfhlpgngeiploab
