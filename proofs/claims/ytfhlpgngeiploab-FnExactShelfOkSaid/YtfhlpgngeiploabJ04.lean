/-
  Rows of texts as they lie; the laws' own functions over them.
  The test package's functions over rows of bools: held against each other, marked, found marked.
  A row of bools laid anew.
  Rows of bools beside rows of structs: marked and measured by the same words.
-/
import Derived.Test.YtfhlpgngeiploabJ03
import Derived.Test.YtfhlpgngeiploabRows
import Derived.Deep.RegionHeld3
import Derived.BigQuiet
import Derived.Deep.QuietTactic
import Derived.Deep.DeepCutAuto
namespace Go.Proofs.Ytfhlpgngeiploab
open Go.RowKit

abbrev StringD := ByteArray
abbrev StringT : TypeId := 9
def layString : Lay ByteArray := Lay.str
def layStringS : Lay (List ByteArray) := .rows StringT layString
theorem str_k (j : Nat) : j * layString.k = j := Nat.mul_one j
theorem layString_rd {w : World} {cs : List Value} {x : ByteArray} : layString.rd w cs x ↔ cs = [.string x] := Iff.rfl
theorem layString_own {w : World} {b : Nat} {f : List Nat} {cs : List Value} {x : ByteArray} : layString.own w b f cs x ↔ f = [] ∧ cs = [.string x] := Iff.rfl
theorem zeroString (w : World) (b : Nat) : layString.own w b [] [.string ⟨#[]⟩] ⟨#[]⟩ := ⟨rfl, rfl⟩
theorem zeroString_none (w : World) (b : Nat) (f : List Nat) (c : List Value) (h : layString.own w b f c ⟨#[]⟩) : f = [] := h.1
theorem infoString : (Try.prog.info? 9).map (fun i => (i.zero, i.size, i.bytes)) = some (some (.string ⟨#[]⟩), 1, 16) := by kernel_rfl
set_option maxRecDepth 100000 in
set_option maxHeartbeats 800000 in
theorem toStringS_any (v : Value) (xs : List StringD) (hl : xs.length ≤ 1048576) (w : World) (hs : layStringS.rd w [v] xs) :
    Calls Try.prog 55 #[v] w fun e w' => OutS layStringS w xs e w' := by
  obtain ⟨i0, hi, hz0, hsz0, hby0⟩ := info_of infoString
  obtain ⟨a, cap, rfl⟩ := rows_form hs
  have HS := Lib.hid hs
  clear hs
  go_enter Try.func55, Try.ntmps55
  go_wp2_with (at_make; refine wpList_make_full _ rfl _ _ 41 rfl w.heap.size StringT i0 (.string ⟨#[]⟩) 1 Try.underlying41 hi hz0 hsz0 .i64 .i64 _ _ xs.length rfl rfl rfl rfl (by rw [hby0]; omega) (by unfold maxLen; omega) (Nat.le_refl _) ?_)
  intro w1 hown1 hg1
  have hown : layStringS.own w1 w.heap.size [w.heap.size] [.slice (some ⟨w.heap.size, 0, none⟩) xs.length xs.length] (List.replicate xs.length ⟨#[]⟩) := rows_made (cs := #[.string ⟨#[]⟩]) (by rw [show xs.length * layString.k = xs.length from Nat.mul_one _]; exact hown1) rfl (zeroString _ _)
  have hbel : Below w.heap.size w w1 := below_grown hg1 (fun k h => by cases h) (Nat.le_refl _)
  clear hown1 hg1
  go_wp2_with fail
  go_loopw [4] (fun c wr => ∃ (j : Nat) (fp : List Nat), j ≤ xs.length ∧ c = .int .i64 j ∧ fp.Nodup ∧ layStringS.own wr w.heap.size fp [.slice (some ⟨w.heap.size, 0, none⟩) xs.length xs.length] (xs.take j ++ List.replicate (xs.length - j) ⟨#[]⟩) ∧ Below w.heap.size w wr) (fun c _ => xs.length - (intOf c).toNat)
  case atStart => exact ⟨0, [w.heap.size], Nat.zero_le _, rfl, by simp, by simpa using hown, hbel⟩
  case round =>
    obtain ⟨j, fp, hj, rfl, hdup, hown2, hb2⟩ := hrel
    have HO := Lib.hid hown2
    have HB := Lib.hid hb2
    clear hown2 hb2 hown hbel
    by_cases hlt : j < xs.length
    · have hlt' : (j : Int) < (xs.length : Int) := by omega
      have hx := List.getElem?_eq_getElem hlt
      obtain ⟨g, off, cs, rfl, hg, hr, hc⟩ := rows_elem (layStringS.below HS.out HB.out) j _ hx
      have hta : xs.take (j + 1) = xs.take j ++ [xs[j]] := by rw [List.take_add_one, hx]; rfl
      generalize xs[j] = x at hr hta
      rw [layString_rd] at hr
      subst hr
      have c0 : wr.cell? ⟨g, off + j * 1, none⟩ = some (.string x) := hc 0 _ rfl
      rw [Nat.mul_one] at c0
      have HTA := Lib.hid hta
      clear hta hc hx
      have hm : xs.length - j = (xs.length - (j + 1)) + 1 := by omega
      have hown3 := HO.out
      rw [hm] at hown3
      obtain ⟨g', cap', hv, hbg, hgl, ⟨zc, hzc, hcell⟩, fp', hd', _, hown4, hchg⟩ := rows_fill zeroString_none hown3 hdup [] [.string x] x (layString_own.2 ⟨rfl, rfl⟩) (by simp) (by simp)
      simp only [Value.slice.injEq, Option.some.injEq, Addr.mk.injEq, and_true] at hv
      obtain ⟨rfl, -, rfl⟩ := hv
      have hjl : (xs.take j).length = j := by rw [List.length_take]; omega
      rw [hjl] at hcell hown4 hchg
      rw [layString_own] at hzc
      obtain ⟨-, rfl⟩ := hzc
      obtain ⟨e0, z0⟩ : wr.cell? ⟨w.heap.size, j * 1, none⟩ = some (.string ⟨#[]⟩) ∧ wr.frozen? ⟨w.heap.size, j * 1, none⟩ = false := hcell 0 _ rfl
      rw [Nat.mul_one] at e0 z0
      have HP : Hid (layStringS.own (wr.setCell ⟨w.heap.size, j, none⟩ (.string x)) w.heap.size fp' [.slice (some ⟨w.heap.size, 0, none⟩) xs.length xs.length] (xs.take (j + 1) ++ List.replicate (xs.length - (j + 1)) ⟨#[]⟩)) := by
        rw [HTA.out, List.append_assoc]
        have h9 : setCells wr w.heap.size (j * layString.k) [.string x] = wr.setCell ⟨w.heap.size, j, none⟩ (.string x) := by rw [show j * layString.k = j from Nat.mul_one j]; rfl
        rw [h9] at hown4
        exact hown4
      have HB3 : Hid (Below w.heap.size w (wr.setCell ⟨w.heap.size, j, none⟩ (.string x))) := by
        have h9 : setCells wr w.heap.size (j * layString.k) [.string x] = wr.setCell ⟨w.heap.size, j, none⟩ (.string x) := by rw [show j * layString.k = j from Nat.mul_one j]; rfl
        rw [h9] at hchg
        exact HB.out.trans (hchg.below (by simp) HB.out.size)
      have HD := Lib.hid hd'
      clear hown3 hown4 hchg hcell hm hjl hd' hbg hgl
      go_wp2_with fail
      go_roundw
      case rel => exact ⟨j + 1, fp', by omega, by go_num, HD.out, HP.out, HB3.out⟩
      case measure => simp [intOf]; omega
    · have hlt' : ¬ ((j : Int) < (xs.length : Int)) := by omega
      have hke : j = xs.length := by omega
      have hfin : xs.take j ++ List.replicate (xs.length - j) (⟨#[]⟩ : ByteArray) = xs := by subst hke; simp
      have HO2 := HO.out
      rw [hfin] at HO2
      have HO3 := Lib.hid HO2
      clear HO2 HO
      go_wp2_with fail
      go_ret
      exact ⟨_, fp, rfl, hdup, HO3.out, HB.out⟩

set_option maxRecDepth 100000 in
set_option maxHeartbeats 800000 in
theorem eqStringS_same (v u : Value) (xs : List ByteArray) (hl : xs.length ≤ 100000000) (w : World) (hv : layStringS.rd w [v] xs) (hu : layStringS.rd w [u] xs) :
    Calls Try.prog 58 #[v, u] w fun e w' => e = .returned (.bool true) ∧ Below w.heap.size w w' := by
  obtain ⟨ao, cp, rfl⟩ := rows_form hv
  obtain ⟨bo, dp, rfl⟩ := rows_form hu
  have HV := Lib.hid hv
  have HU := Lib.hid hu
  clear hv hu
  go_enter Try.func58, Try.ntmps58
  go_wp2_with fail
  go_loopw [5] (fun c wr => ∃ j : Nat, j ≤ xs.length ∧ c = .int .i64 j ∧ Below w.heap.size w wr) (fun c _ => xs.length - (intOf c).toNat)
  case atStart => exact ⟨0, Nat.zero_le _, rfl, Below.refl _ _⟩
  case round =>
    obtain ⟨j, hj, rfl, hb⟩ := hrel
    have HB := Lib.hid hb
    by_cases hlt : j < xs.length
    · have hlt' : (j : Int) < (xs.length : Int) := by omega
      have hx := List.getElem?_eq_getElem hlt
      obtain ⟨g, og, cs, rfl, hg, hr, hc⟩ := rows_elem (layStringS.below HV.out hb) j _ hx
      obtain ⟨h, oh, ds, rfl, hh, hs, hd⟩ := rows_elem (layStringS.below HU.out hb) j _ hx
      generalize xs[j] = x at hr hs
      rw [layString_rd] at hr hs
      subst hr hs
      have c0 : wr.cell? ⟨g, og + j * 1, none⟩ = some (.string x) := hc 0 _ rfl
      have d0 : wr.cell? ⟨h, oh + j * 1, none⟩ = some (.string x) := hd 0 _ rfl
      rw [Nat.mul_one] at c0 d0
      clear hb hc hd hx
      go_wp2_with fail
      go_quiet (fail)
      go_wp2_with fail
      go_roundw
      case rel => exact ⟨j + 1, by omega, by go_num, below_drewN HB.out _⟩
      case measure => simp [intOf]; omega
    · have hlt' : ¬ ((j : Int) < (xs.length : Int)) := by omega
      go_wp2_with fail
      go_ret
      exact ⟨rfl, hb⟩

/-- Rows that are measured. -/
def FitsString (xs : List StringD) : Prop := xs.length ≤ 1048576 ∧ ∀ x ∈ xs, (x).size ≤ 1048576
def RoomString (xs : List StringD) : Prop := xs.length ≤ 9223372036854775807 ∧ ∀ x ∈ xs, (x).size ≤ 9223372036854775807
end Go.Proofs.Ytfhlpgngeiploab
namespace Go.Proofs.Ytfhlpgngeiploab
open Go.RowKit

set_option maxRecDepth 100000 in
set_option maxHeartbeats 800000 in
theorem eqBoolS_same (v u : Value) (xs : List Bool) (hl : xs.length ≤ 100000000) (w : World) (hv : layBoolS.rd w [v] xs) (hu : layBoolS.rd w [u] xs) :
    Calls Try.prog 59 #[v, u] w fun e w' => e = .returned (.bool true) ∧ Below w.heap.size w w' := by
  obtain ⟨ao, cp, rfl⟩ := rows_form hv
  obtain ⟨bo, dp, rfl⟩ := rows_form hu
  have HV := Lib.hid hv
  have HU := Lib.hid hu
  clear hv hu
  go_enter Try.func59, Try.ntmps59
  go_wp2_with fail
  go_loopw [5] (fun c wr => ∃ j : Nat, j ≤ xs.length ∧ c = .int .i64 j ∧ Below w.heap.size w wr) (fun c _ => xs.length - (intOf c).toNat)
  case atStart => exact ⟨0, Nat.zero_le _, rfl, Below.refl _ _⟩
  case round =>
    obtain ⟨j, hj, rfl, hb⟩ := hrel
    have HB := Lib.hid hb
    by_cases hlt : j < xs.length
    · have hlt' : (j : Int) < (xs.length : Int) := by omega
      obtain ⟨g, off, cap, hv, hg, hcell⟩ := bools_get (layBoolS.below HV.out hb) j hlt
      simp only [Value.slice.injEq] at hv
      obtain ⟨rfl, -, rfl⟩ := hv
      obtain ⟨g2, off2, cap2, hv2, hg2, hcell2⟩ := bools_get (layBoolS.below HU.out hb) j hlt
      simp only [Value.slice.injEq] at hv2
      obtain ⟨rfl, -, rfl⟩ := hv2
      generalize xs[j] = x at hcell hcell2
      clear hb
      go_wp2_with fail
      go_quiet (fail)
      go_wp2_with fail
      go_roundw
      case rel => exact ⟨j + 1, by omega, by go_num, below_drewN HB.out _⟩
      case measure => simp [intOf]; omega
    · have hlt' : ¬ ((j : Int) < (xs.length : Int)) := by omega
      go_wp2_with fail
      go_ret
      exact ⟨rfl, hb⟩

end Go.Proofs.Ytfhlpgngeiploab
namespace Go.Proofs.Ytfhlpgngeiploab
open Go.RowKit

theorem fillB_next (xs : List Bool) (j : Nat) (h : j < xs.length) : (xs.take j ++ List.replicate (xs.length - j) false).set j xs[j] = xs.take (j + 1) ++ List.replicate (xs.length - (j + 1)) false := by
  have hl : (xs.take j).length = j := by rw [List.length_take]; omega
  rw [List.set_append_right _ _ (by omega), hl, Nat.sub_self, show xs.length - j = (xs.length - (j + 1)) + 1 by omega, List.replicate_succ, List.set_cons_zero]
  have hta : xs.take (j + 1) = xs.take j ++ [xs[j]] := by rw [List.take_add_one, List.getElem?_eq_getElem h]; rfl
  rw [hta, List.append_assoc]
  rfl

set_option maxRecDepth 100000 in
set_option maxHeartbeats 800000 in
theorem toBoolS_any (v : Value) (xs : List Bool) (hl : xs.length ≤ 1048576) (w : World) (hs : layBoolS.rd w [v] xs) :
    Calls Try.prog 56 #[v] w fun e w' => OutS layBoolS w xs e w' := by
  obtain ⟨i0, hi, hz0, hsz0, hby0⟩ := info_of infoBool
  obtain ⟨a, cap, rfl⟩ := rows_form hs
  have HS := Lib.hid hs
  clear hs
  go_enter Try.func56, Try.ntmps56
  go_wp2_with (at_make; refine wpList_make_full _ rfl _ _ 42 rfl w.heap.size 4 i0 (.bool false) 1 Try.underlying42 hi hz0 hsz0 .i64 .i64 _ _ xs.length rfl rfl rfl rfl (by rw [hby0]; omega) (by unfold maxLen; omega) (Nat.le_refl _) ?_)
  intro w1 hown1 hg1
  have hown : layBoolS.own w1 w.heap.size [w.heap.size] [.slice (some ⟨w.heap.size, 0, none⟩) xs.length xs.length] (List.replicate xs.length false) := rows_made (cs := #[.bool false]) (by rw [show xs.length * Lay.bool.k = xs.length from Nat.mul_one _]; exact hown1) rfl (bool_own.2 ⟨rfl, rfl⟩)
  have hbel : Below w.heap.size w w1 := below_grown hg1 (fun k h => by cases h) (Nat.le_refl _)
  clear hown1 hg1
  go_wp2_with fail
  go_loopw [4] (fun c wr => ∃ j : Nat, j ≤ xs.length ∧ c = .int .i64 j ∧ layBoolS.own wr w.heap.size [w.heap.size] [.slice (some ⟨w.heap.size, 0, none⟩) xs.length xs.length] (xs.take j ++ List.replicate (xs.length - j) false) ∧ Below w.heap.size w wr) (fun c _ => xs.length - (intOf c).toNat)
  case atStart => exact ⟨0, Nat.zero_le _, rfl, by simpa using hown, hbel⟩
  case round =>
    obtain ⟨j, hj, rfl, hown2, hb2⟩ := hrel
    have HO := Lib.hid hown2
    have HB := Lib.hid hb2
    clear hown2 hb2 hown hbel
    by_cases hlt : j < xs.length
    · have hlt' : (j : Int) < (xs.length : Int) := by omega
      have hlen : j < (xs.take j ++ List.replicate (xs.length - j) false).length := by rw [List.length_append, List.length_take, List.length_replicate]; omega
      obtain ⟨g, off, cap', hv, hg, hcell⟩ := bools_get (layBoolS.below HS.out HB.out) j hlt
      simp only [Value.slice.injEq] at hv
      obtain ⟨rfl, -, rfl⟩ := hv
      obtain ⟨g', cap'', hv', _, _, _, hc', hf', hown3, hchg⟩ := bools_put HO.out (by simp) j hlen xs[j]
      simp only [Value.slice.injEq, Option.some.injEq, Addr.mk.injEq, and_true] at hv'
      obtain ⟨rfl, -, -⟩ := hv'
      rw [fillB_next xs j hlt] at hown3
      have HP := Lib.hid hown3
      have HB3 := Lib.hid (HB.out.trans (hchg.below (b := w.heap.size) (by simp) HB.out.size))
      generalize xs[j] = x at *
      generalize (xs.take j ++ List.replicate (xs.length - j) false)[j] = y0 at hc'
      clear hown3 hchg hlen
      go_wp2_with fail
      go_roundw
      case rel => exact ⟨j + 1, by omega, by go_num, HP.out, HB3.out⟩
      case measure => simp [intOf]; omega
    · have hlt' : ¬ ((j : Int) < (xs.length : Int)) := by omega
      have hke : j = xs.length := by omega
      have hfin : xs.take j ++ List.replicate (xs.length - j) false = xs := by subst hke; simp
      have HO2 := HO.out
      rw [hfin] at HO2
      have HO3 := Lib.hid HO2
      clear HO2 HO
      go_wp2_with fail
      go_ret
      exact ⟨_, _, rfl, by simp, HO3.out, HB.out⟩

set_option maxRecDepth 100000 in
set_option maxHeartbeats 400000 in
theorem szBoolS_any (a : Option Addr) (len cap : Nat) (left : Int) (h0 : 0 ≤ left) (h1 : left ≤ 1048576) (hl : len ≤ 9223372036854775807) (w : World) :
    Calls Try.prog 54 #[.slice a len cap, .int .i64 left] w fun e w' => e = .returned (.int .i64 (if left < len then -1 else left - (len : Int))) ∧ w' = w := by
  by_cases h : left < (len : Int)
  · have h1 : left - (len : Int) < 0 := by omega
    rw [if_pos h]
    go_enter Try.func54, Try.ntmps54
    go_wp2
    go_ret
    exact ⟨rfl, rfl⟩
  · have h1 : ¬ (left - (len : Int) < 0) := by omega
    rw [if_neg h]
    go_enter Try.func54, Try.ntmps54
    go_wp2
    go_ret
    exact ⟨rfl, rfl⟩

end Go.Proofs.Ytfhlpgngeiploab
namespace Go.Proofs.Ytfhlpgngeiploab
open Go.RowKit

def FitsBool (xs : List Bool) : Prop := xs.length ≤ 1048576
def RoomBool (xs : List Bool) : Prop := xs.length ≤ 9223372036854775807
end Go.Proofs.Ytfhlpgngeiploab
