/-
  The program's copy of a row of texts.
  Rows of bools of the call's own; no program is spoken of here.
  The test package's functions over rows of bools: held against each other, marked, found marked.
  A row of bools laid anew.
-/
import Derived.Test.YtfhlpgngeiploabJ06
import Derived.Test.YtfhlpgngeiploabJ03
import Derived.Test.YtfhlpgngeiploabRows
import Derived.Test.YtfhlpgngeiploabJ04
import Derived.BigQuiet
import Derived.Deep.QuietTactic
namespace Go.Proofs.Ytfhlpgngeiploab
open Go.RowKit

/-- What the library's Clone gives. -/
def CloneGives : Prop := ∀ (s : ByteArray) (w : World), s.size ≤ 1048576 → Calls Try.prog 47 #[.string s] w fun e w' => e = .returned (.string s) ∧ Below w.heap.size w w'
/-- A row is handed back, of the call's own. -/
def CopyS {α : Type} (A : Lay (List α)) (w : World) (xs : List α) (e : Ending) (w' : World) : Prop := ∃ (g k : Nat), e = .returned (.slice (some ⟨g, 0, none⟩) xs.length k) ∧ A.own w' w.heap.size [g] [.slice (some ⟨g, 0, none⟩) xs.length k] xs ∧ Below w.heap.size w w'

set_option maxRecDepth 100000 in
set_option maxHeartbeats 1600000 in
theorem copyOfTexts_any (HG : CloneGives) (v : Value) (xs : List ByteArray) (hl : xs.length ≤ 1048576) (hsz : ∀ x ∈ xs, x.size ≤ 1048576) (w : World) (h : layStringS.rd w [v] xs) :
    Calls Try.prog 52 #[v] w (CopyS layStringS w xs) := by
  obtain ⟨a, cap, rfl⟩ := rows_form h
  obtain ⟨i0, hi0, hz0, hsz0, hby0⟩ := info_of infoString
  have HS := Lib.hid h
  have HC := Lib.hid HG
  have HZ := Lib.hid hsz
  clear h HG hsz
  go_enter Try.func52, Try.ntmps52
  go_wp2_with (at_make; refine wpList_make_own _ rfl _ _ 41 rfl w.heap.size StringT i0 (.string ⟨#[]⟩) 1 Try.underlying41 hi0 hz0 hsz0 .i64 .i64 _ xs.length rfl rfl rfl (by rw [hby0]; omega) (by unfold maxLen; omega) (Nat.le_refl _) ?_)
  intro w1 hown1 hg1
  have O1 : Hid (layStringS.own w1 w.heap.size [w.heap.size] [.slice (some ⟨w.heap.size, 0, none⟩) 0 xs.length] []) := flat_own flatString hown1 rfl
  have B1 : Hid (Below w.heap.size w w1) := below_grown hg1 (fun k h => by cases h) (Nat.le_refl _)
  clear hown1 hg1
  go_wp2_with fail
  go_loopw [3, 11] (fun t c wr => ∃ (j g k : Nat) (ys : List ByteArray), j ≤ xs.length ∧ c = .int .i64 j ∧ t = .slice (some ⟨g, 0, none⟩) ys.length k ∧ Hid (ys = xs.take j) ∧ Hid (layStringS.own wr w.heap.size [g] [.slice (some ⟨g, 0, none⟩) ys.length k] ys) ∧ Hid (Below w.heap.size w wr)) (fun _ c _ => xs.length - (intOf c).toNat)
  case atStart => exact ⟨0, w.heap.size, xs.length, [], Nat.zero_le _, rfl, rfl, Lib.hid rfl, O1, B1⟩
  case round =>
    obtain ⟨j, g, k, ys, hj, rfl, rfl, HY, HO, HB⟩ := hrel
    clear O1 B1
    by_cases hlt : j < xs.length
    · have hlt' : (j : Int) < (xs.length : Int) := by omega
      have hx := List.getElem?_eq_getElem hlt
      obtain ⟨g', off, cs, rfl, hg', hr, hc⟩ := rows_elem (layStringS.below HS.out HB.out) j _ hx
      have hmem : xs[j] ∈ xs := List.getElem_mem hlt
      have hsx := HZ.out _ hmem
      have hta : Hid (xs.take (j + 1) = ys ++ [xs[j]]) := by rw [HY.out, List.take_add_one, hx]; exact Lib.hid rfl
      have hyl : Hid (ys.length = j) := by rw [HY.out, List.length_take]; exact Lib.hid (by omega)
      clear hmem
      generalize xs[j] = x at hr hta hsx hx
      rw [layString_rd] at hr
      subst hr
      have c0 : wr.cell? ⟨g', off + j * 1, none⟩ = some (.string x) := hc 0 _ rfl
      rw [Nat.mul_one] at c0
      clear hc hx
      go_wp2_with fail
      refine (HC.out x wr hsx).mono ?_
      rintro e w2 ⟨rfl, hb2⟩
      have HO2 := Lib.hid (layStringS.next HO.out hb2)
      have HB2 := Lib.hid (HB.out.trans (hb2.mono HB.out.size))
      have hw2 : w.heap.size ≤ w2.heap.size := HB2.out.size
      have hyl2 : ys.length + 1 ≤ 1000000000 := by rw [hyl.out]; omega
      clear hb2 c0
      go_wp2_with (at_builtin; refine wpList_pushF w2 rfl _ _ 41 rfl w.heap.size StringT i0 _ 16 layString flatString Try.underlying41 hi0 hz0 hsz0 hby0 rfl (by omega) (.slice (some ⟨g, 0, none⟩) ys.length k) [g] ys (by rfl) HO2.out x #[.string x] (layString_rd.2 rfl) (by rfl) hyl2 hw2 ?_; intro v1 w3 hown1 hnn1 hgr1 hbe1; obtain ⟨m1, mc1, rfl, hblk, _, _⟩ := flat_some flatString hown1 hnn1; rw [hblk] at hown1)
      have HO3 := Lib.hid hown1
      have HB3 := Lib.hid (HB2.out.trans hbe1)
      clear hown1 hnn1 hgr1 hbe1 hblk hyl2
      go_wp2_with fail
      go_roundw
      case rel => exact ⟨j + 1, m1, mc1, ys ++ [x], by omega, by go_num, by rw [List.length_append]; rfl, Lib.hid hta.out.symm, HO3, HB3⟩
      case measure => simp [intOf]; omega
    · have hlt' : ¬ ((j : Int) < (xs.length : Int)) := by omega
      have hje : j = xs.length := by omega
      subst hje
      have hye : ys = xs := by rw [HY.out, List.take_length]
      subst hye
      go_wp2_with fail
      go_ret
      exact ⟨g, k, rfl, HO.out, HB.out⟩

end Go.Proofs.Ytfhlpgngeiploab
namespace Go.Proofs.Ytfhlpgngeiploab
open Go.RowKit

def layBoolS : Lay (List Bool) := .rows 4 .bool
theorem bool_own {w : World} {b : Nat} {f : List Nat} {cs : List Value} {x : Bool} : Lay.bool.own w b f cs x ↔ f = [] ∧ cs = [.bool x] := Iff.rfl
theorem bool_rd {w : World} {cs : List Value} {x : Bool} : Lay.bool.rd w cs x ↔ cs = [.bool x] := Iff.rfl
theorem infoBool : (Try.prog.info? 4).map (fun i => (i.zero, i.size, i.bytes)) = some (some (.bool false), 1, 1) := by kernel_rfl
/-- One bool of a row that can be read. -/
theorem bools_get {w : World} {v : Value} {xs : List Bool} (h : layBoolS.rd w [v] xs) (m : Nat) (hm : m < xs.length) : ∃ g off cap, v = .slice (some ⟨g, off, none⟩) xs.length cap ∧ g < w.heap.size ∧ w.cell? ⟨g, off + m, none⟩ = some (.bool xs[m]) := by
  obtain ⟨a, cap, rfl⟩ := rows_form h
  obtain ⟨g, off, c, rfl, hg, hr, hc⟩ := rows_elem h m _ (List.getElem?_eq_getElem hm)
  rw [bool_rd] at hr
  subst hr
  refine ⟨g, off, cap, rfl, hg, ?_⟩
  have := hc 0 _ rfl
  rw [show Lay.bool.k = 1 from rfl, Nat.mul_one] at this
  exact this
/-- One bool of a row is read and written. -/
theorem bools_put {w : World} {b : Nat} {fp : List Nat} {v : Value} {xs : List Bool} (h : layBoolS.own w b fp [v] xs) (hd : fp.Nodup) (m : Nat) (hm : m < xs.length) (y : Bool) :
    ∃ g cap, v = .slice (some ⟨g, 0, none⟩) xs.length cap ∧ b ≤ g ∧ g < w.heap.size ∧ g ∈ fp ∧ w.cell? ⟨g, m, none⟩ = some (.bool xs[m]) ∧ w.frozen? ⟨g, m, none⟩ = false ∧
      layBoolS.own (w.setCell ⟨g, m, none⟩ (.bool y)) b fp [v] (xs.set m y) ∧ Chg fp w (w.setCell ⟨g, m, none⟩ (.bool y)) := by
  have e : xs = xs.take m ++ xs[m] :: xs.drop (m + 1) := by rw [List.getElem_cons_drop, List.take_append_drop]
  have es : xs.set m y = xs.take m ++ y :: xs.drop (m + 1) := by rw [List.set_eq_take_append_cons_drop, if_pos hm]
  have hl : (xs.take m ++ xs[m] :: xs.drop (m + 1)).length = xs.length := by rw [← e]
  have h2 := h
  rw [e] at h2
  obtain ⟨g, cap, f1, f2, f3, u1, c, u3, hv, rfl, Z⟩ := rows_open h2 hd
  rw [hl] at hv
  obtain ⟨rfl, rfl⟩ := bool_own.1 Z.mid
  have hml : (xs.take m).length = m := by rw [List.length_take]; omega
  have hc := Z.cell 0 _ rfl
  rw [show Lay.bool.k = 1 from rfl, Nat.mul_one, hml] at hc
  have hs := Z.store [.bool y] 0 (by simp) [] y (bool_own.2 ⟨rfl, rfl⟩) Z.dup
  rw [show Lay.bool.k = 1 from rfl, Nat.mul_one, hml] at hs
  refine ⟨g, cap, hv, Z.lt.1, Z.lt.2, by simp, hc.1, hc.2, ?_, hs.2.sub (by simp)⟩
  have h3 := hs.1.shut
  have e4 : (xs.take m ++ y :: xs.drop (m + 1)).length = xs.length := by rw [← es, List.length_set]
  rw [e4] at h3
  rw [es, hv]
  exact h3

end Go.Proofs.Ytfhlpgngeiploab
namespace Go.Proofs.Ytfhlpgngeiploab
open Go.RowKit

/-- The mark of a number. -/
def mkB (q : Int) : Bool := Int.tmod q 3 == 0
theorem mkB_emod {q : Int} (h : 0 ≤ q) : (q % 3 == 0) = mkB q := by
  unfold mkB
  rw [Int.tmod_eq_emod_of_nonneg h]
/-- The marks from k on. -/
def upB (k : Int) (n : Nat) : List Bool := (List.range n).map fun (j : Nat) => mkB (k + (j : Int))
theorem upB_length (k : Int) (n : Nat) : (upB k n).length = n := by simp [upB]
theorem upB_get (k : Int) (n j : Nat) (h : j < (upB k n).length) : (upB k n)[j] = mkB (k + (j : Int)) := by simp [upB]
/-- The first j of a list are marked. -/
def partB (k : Int) (xs : List Bool) (j : Nat) : List Bool := upB k j ++ xs.drop j
theorem partB_length (k : Int) (xs : List Bool) (j : Nat) (h : j ≤ xs.length) : (partB k xs j).length = xs.length := by
  unfold partB
  rw [List.length_append, upB_length, List.length_drop]
  omega
theorem partB_next (k : Int) (xs : List Bool) (j : Nat) (h : j < xs.length) : (partB k xs j).set j (mkB (k + (j : Int))) = partB k xs (j + 1) := by
  unfold partB
  have e : upB k (j + 1) = upB k j ++ [mkB (k + (j : Int))] := by simp [upB, List.range_succ]
  have hl : (upB k j).length = j := upB_length k j
  rw [e, List.set_append_right _ _ (by omega), hl, Nat.sub_self, List.append_assoc]
  congr 1
  rw [← List.getElem_cons_drop h]
  rfl

set_option maxRecDepth 100000 in
set_option maxHeartbeats 800000 in
theorem markBoolS_any (v : Value) (xs : List Bool) (b : Nat) (fp : List Nat) (k : Int) (hk0 : 0 ≤ k) (hk1 : k ≤ 1000000000) (hl : xs.length ≤ 100000000) (w : World) (hd : fp.Nodup) (ho : layBoolS.own w b fp [v] xs) :
    Calls Try.prog 49 #[v, .int .i64 k] w fun e w' => e = .returned (.int .i64 (k + (xs.length : Int))) ∧ layBoolS.own w' b fp [v] (upB k xs.length) ∧ Chg fp w w' := by
  obtain ⟨ao, cp, rfl⟩ := rows_form (layBoolS.read ho)
  have HO := Lib.hid ho
  clear ho
  go_enter Try.func49, Try.ntmps49
  go_wp2_with fail
  go_loopw [1, 5] (fun q c wr => ∃ j : Nat, j ≤ xs.length ∧ q = .int .i64 (k + (j : Int)) ∧ c = .int .i64 j ∧ layBoolS.own wr b fp [.slice ao xs.length cp] (partB k xs j) ∧ Chg fp w wr) (fun _ c _ => xs.length - (intOf c).toNat)
  case atStart => exact ⟨0, Nat.zero_le _, by simp, rfl, HO.out, Chg.refl _ _⟩
  case round =>
    obtain ⟨j, hj, rfl, rfl, hO, hC⟩ := hrel
    clear HO
    by_cases hlt : j < xs.length
    · have hlt' : (j : Int) < (xs.length : Int) := by omega
      obtain ⟨g, cap, hv, hbg, hgl, hin, hcell, hfree, hown, hchg⟩ := bools_put hO hd j (by rw [partB_length k xs j (by omega)]; exact hlt) (mkB (k + (j : Int)))
      simp only [Value.slice.injEq] at hv
      obtain ⟨rfl, -, rfl⟩ := hv
      rw [partB_next k xs j hlt] at hown
      have HN := Lib.hid hown
      have HC := Lib.hid (hC.trans hchg)
      generalize (partB k xs j)[j]'(by rw [partB_length k xs j (by omega)]; exact hlt) = old at hcell
      have hmk : ((k + (j : Int)) % 3 == 0) = mkB (k + (j : Int)) := mkB_emod (by omega)
      clear hown hchg hO hC
      generalize mkB (k + (j : Int)) = mb at *
      go_wp2_with fail
      go_roundw
      case rel => exact ⟨j + 1, hlt, by push_cast; rw [← Int.add_assoc], by go_num, HN.out, HC.out⟩
      case measure => simp [intOf]; omega
    · have hlt' : ¬ ((j : Int) < (xs.length : Int)) := by omega
      have hje : j = xs.length := by omega
      subst hje
      have e : partB k xs xs.length = upB k xs.length := by unfold partB; rw [List.drop_length, List.append_nil]
      rw [e] at hO
      go_wp2_with fail
      go_ret
      exact ⟨rfl, hO, hC⟩

set_option maxRecDepth 100000 in
set_option maxHeartbeats 800000 in
theorem heldBoolS_any (v : Value) (n : Nat) (k : Int) (hk0 : 0 ≤ k) (hk1 : k ≤ 1000000000) (hl : n ≤ 100000000) (w : World) (h : layBoolS.rd w [v] (upB k n)) :
    Calls Try.prog 51 #[v, .int .i64 k] w fun e w' => e = .returned (.int .i64 (k + (n : Int))) ∧ w' = w := by
  obtain ⟨ao, cp, hv⟩ := rows_form h
  rw [upB_length] at hv
  subst hv
  have HR := Lib.hid h
  clear h
  go_enter Try.func51, Try.ntmps51
  go_wp2_with fail
  go_loop [1, 5] (fun q c => ∃ j : Nat, j ≤ n ∧ q = .int .i64 (k + (j : Int)) ∧ c = .int .i64 j) (fun _ c => n - (intOf c).toNat)
  case atStart => exact ⟨0, Nat.zero_le _, by simp, rfl⟩
  case round =>
    obtain ⟨j, hj, rfl, rfl⟩ := hrel
    by_cases hlt : j < n
    · have hlt' : (j : Int) < (n : Int) := by omega
      obtain ⟨g, off, cap, hv, hg, hcell⟩ := bools_get HR.out j (by rw [upB_length]; exact hlt)
      simp only [Value.slice.injEq] at hv
      obtain ⟨rfl, -, rfl⟩ := hv
      rw [upB_get] at hcell
      have hmk : ((k + (j : Int)) % 3 == 0) = mkB (k + (j : Int)) := mkB_emod (by omega)
      generalize mkB (k + (j : Int)) = mb at *
      have hbb : (mb != mb) = false := by cases mb <;> rfl
      go_wp2_with fail
      go_round
      case rel => exact ⟨j + 1, hlt, by push_cast; rw [← Int.add_assoc], by go_num⟩
      case measure => simp [intOf]; omega
    · have hlt' : ¬ ((j : Int) < (n : Int)) := by omega
      have hje : j = n := by omega
      subst hje
      go_wp2_with fail
      go_ret
      exact ⟨rfl, rfl⟩

set_option maxRecDepth 100000 in
set_option maxHeartbeats 800000 in
theorem eqBoolS_same (v u : Value) (xs : List Bool) (hl : xs.length ≤ 100000000) (w : World) (hv : layBoolS.rd w [v] xs) (hu : layBoolS.rd w [u] xs) :
    Calls Try.prog 59 #[v, u] w fun e w' => e = .returned (.bool true) ∧ Below w.heap.size w w' := by
  obtain ⟨ao, cp, rfl⟩ := rows_form hv
  obtain ⟨bo, dp, rfl⟩ := rows_form hu
  have HV := Lib.hid hv
  have HU := Lib.hid hu
  clear hv hu
  go_enter Try.func59, Try.ntmps59
  go_wp2_with fail
  go_loopw [5] (fun c wr => ∃ j : Nat, j ≤ xs.length ∧ c = .int .i64 j ∧ Below w.heap.size w wr) (fun c _ => xs.length - (intOf c).toNat)
  case atStart => exact ⟨0, Nat.zero_le _, rfl, Below.refl _ _⟩
  case round =>
    obtain ⟨j, hj, rfl, hb⟩ := hrel
    have HB := Lib.hid hb
    by_cases hlt : j < xs.length
    · have hlt' : (j : Int) < (xs.length : Int) := by omega
      obtain ⟨g, off, cap, hv, hg, hcell⟩ := bools_get (layBoolS.below HV.out hb) j hlt
      simp only [Value.slice.injEq] at hv
      obtain ⟨rfl, -, rfl⟩ := hv
      obtain ⟨g2, off2, cap2, hv2, hg2, hcell2⟩ := bools_get (layBoolS.below HU.out hb) j hlt
      simp only [Value.slice.injEq] at hv2
      obtain ⟨rfl, -, rfl⟩ := hv2
      generalize xs[j] = x at hcell hcell2
      clear hb
      go_wp2_with fail
      go_quiet (fail)
      go_wp2_with fail
      go_roundw
      case rel => exact ⟨j + 1, by omega, by go_num, below_drewN HB.out _⟩
      case measure => simp [intOf]; omega
    · have hlt' : ¬ ((j : Int) < (xs.length : Int)) := by omega
      go_wp2_with fail
      go_ret
      exact ⟨rfl, hb⟩

end Go.Proofs.Ytfhlpgngeiploab
namespace Go.Proofs.Ytfhlpgngeiploab
open Go.RowKit

theorem fillB_next (xs : List Bool) (j : Nat) (h : j < xs.length) : (xs.take j ++ List.replicate (xs.length - j) false).set j xs[j] = xs.take (j + 1) ++ List.replicate (xs.length - (j + 1)) false := by
  have hl : (xs.take j).length = j := by rw [List.length_take]; omega
  rw [List.set_append_right _ _ (by omega), hl, Nat.sub_self, show xs.length - j = (xs.length - (j + 1)) + 1 by omega, List.replicate_succ, List.set_cons_zero]
  have hta : xs.take (j + 1) = xs.take j ++ [xs[j]] := by rw [List.take_add_one, List.getElem?_eq_getElem h]; rfl
  rw [hta, List.append_assoc]
  rfl

set_option maxRecDepth 100000 in
set_option maxHeartbeats 800000 in
theorem toBoolS_any (v : Value) (xs : List Bool) (hl : xs.length ≤ 1048576) (w : World) (hs : layBoolS.rd w [v] xs) :
    Calls Try.prog 56 #[v] w fun e w' => OutS layBoolS w xs e w' := by
  obtain ⟨i0, hi, hz0, hsz0, hby0⟩ := info_of infoBool
  obtain ⟨a, cap, rfl⟩ := rows_form hs
  have HS := Lib.hid hs
  clear hs
  go_enter Try.func56, Try.ntmps56
  go_wp2_with (at_make; refine wpList_make_full _ rfl _ _ 42 rfl w.heap.size 4 i0 (.bool false) 1 Try.underlying42 hi hz0 hsz0 .i64 .i64 _ _ xs.length rfl rfl rfl rfl (by rw [hby0]; omega) (by unfold maxLen; omega) (Nat.le_refl _) ?_)
  intro w1 hown1 hg1
  have hown : layBoolS.own w1 w.heap.size [w.heap.size] [.slice (some ⟨w.heap.size, 0, none⟩) xs.length xs.length] (List.replicate xs.length false) := rows_made (cs := #[.bool false]) (by rw [show xs.length * Lay.bool.k = xs.length from Nat.mul_one _]; exact hown1) rfl (bool_own.2 ⟨rfl, rfl⟩)
  have hbel : Below w.heap.size w w1 := below_grown hg1 (fun k h => by cases h) (Nat.le_refl _)
  clear hown1 hg1
  go_wp2_with fail
  go_loopw [4] (fun c wr => ∃ j : Nat, j ≤ xs.length ∧ c = .int .i64 j ∧ layBoolS.own wr w.heap.size [w.heap.size] [.slice (some ⟨w.heap.size, 0, none⟩) xs.length xs.length] (xs.take j ++ List.replicate (xs.length - j) false) ∧ Below w.heap.size w wr) (fun c _ => xs.length - (intOf c).toNat)
  case atStart => exact ⟨0, Nat.zero_le _, rfl, by simpa using hown, hbel⟩
  case round =>
    obtain ⟨j, hj, rfl, hown2, hb2⟩ := hrel
    have HO := Lib.hid hown2
    have HB := Lib.hid hb2
    clear hown2 hb2 hown hbel
    by_cases hlt : j < xs.length
    · have hlt' : (j : Int) < (xs.length : Int) := by omega
      have hlen : j < (xs.take j ++ List.replicate (xs.length - j) false).length := by rw [List.length_append, List.length_take, List.length_replicate]; omega
      obtain ⟨g, off, cap', hv, hg, hcell⟩ := bools_get (layBoolS.below HS.out HB.out) j hlt
      simp only [Value.slice.injEq] at hv
      obtain ⟨rfl, -, rfl⟩ := hv
      obtain ⟨g', cap'', hv', _, _, _, hc', hf', hown3, hchg⟩ := bools_put HO.out (by simp) j hlen xs[j]
      simp only [Value.slice.injEq, Option.some.injEq, Addr.mk.injEq, and_true] at hv'
      obtain ⟨rfl, -, -⟩ := hv'
      rw [fillB_next xs j hlt] at hown3
      have HP := Lib.hid hown3
      have HB3 := Lib.hid (HB.out.trans (hchg.below (b := w.heap.size) (by simp) HB.out.size))
      generalize xs[j] = x at *
      generalize (xs.take j ++ List.replicate (xs.length - j) false)[j] = y0 at hc'
      clear hown3 hchg hlen
      go_wp2_with fail
      go_roundw
      case rel => exact ⟨j + 1, by omega, by go_num, HP.out, HB3.out⟩
      case measure => simp [intOf]; omega
    · have hlt' : ¬ ((j : Int) < (xs.length : Int)) := by omega
      have hke : j = xs.length := by omega
      have hfin : xs.take j ++ List.replicate (xs.length - j) false = xs := by subst hke; simp
      have HO2 := HO.out
      rw [hfin] at HO2
      have HO3 := Lib.hid HO2
      clear HO2 HO
      go_wp2_with fail
      go_ret
      exact ⟨_, _, rfl, by simp, HO3.out, HB.out⟩

set_option maxRecDepth 100000 in
set_option maxHeartbeats 400000 in
theorem szBoolS_any (a : Option Addr) (len cap : Nat) (left : Int) (h0 : 0 ≤ left) (h1 : left ≤ 1048576) (hl : len ≤ 9223372036854775807) (w : World) :
    Calls Try.prog 54 #[.slice a len cap, .int .i64 left] w fun e w' => e = .returned (.int .i64 (if left < len then -1 else left - (len : Int))) ∧ w' = w := by
  by_cases h : left < (len : Int)
  · have h1 : left - (len : Int) < 0 := by omega
    rw [if_pos h]
    go_enter Try.func54, Try.ntmps54
    go_wp2
    go_ret
    exact ⟨rfl, rfl⟩
  · have h1 : ¬ (left - (len : Int) < 0) := by omega
    rw [if_neg h]
    go_enter Try.func54, Try.ntmps54
    go_wp2
    go_ret
    exact ⟨rfl, rfl⟩

end Go.Proofs.Ytfhlpgngeiploab
