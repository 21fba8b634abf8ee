/-
  The beginning of a row that can be read.
  The given OptionsOk, and what it calls.
  slices.Index and slices.Contains at texts.
-/
import Derived.Test.YtmgdhlodifkemasDoorJ09
import Derived.Test.YtmgdhlodifkemasDoorJ05
import Derived.Test.YtmgdhlodifkemasDoorJ11
import Derived.Test.YtmgdhlodifkemasDoorJ10
namespace Go.Proofs.YtmgdhlodifkemasDoor
open Go.RowKit

/-- The beginning of a row that can be read. -/
theorem rows_take {α : Type} {e : TypeId} {A : Lay α} {w : World} {a : Option Addr} {n cap : Nat} {xs : List α} (h : (Lay.rows e A).rd w [.slice a n cap] xs) (j : Nat) (hj : j ≤ xs.length) : (Lay.rows e A).rd w [.slice a j cap] (xs.take j) := by
  obtain ⟨v', hv, h⟩ := h
  obtain rfl : Value.slice a n cap = v' := by simpa using hv
  have hl : (xs.take j).length = j := by rw [List.length_take]; omega
  rcases h with ⟨rfl, a', cap', h0, h1⟩ | ⟨g, off, cap', us, h0, hc, hg, hcell, hr⟩
  · simp only [List.length_nil, Nat.le_zero_eq] at hj
    subst hj
    simp only [Value.slice.injEq] at h0
    obtain ⟨rfl, -, rfl⟩ := h0
    exact ⟨_, rfl, .inl ⟨rfl, _, _, rfl, h1⟩⟩
  · simp only [Value.slice.injEq] at h0
    obtain ⟨rfl, -, rfl⟩ := h0
    have hs : ∀ {us : List Value} {xs : List α} (j : Nat), rdAll A w us xs → rdAll A w (us.take (j * A.k)) (xs.take j) := by
      intro us xs j hr
      induction xs generalizing us j with
      | nil => rw [show us = [] from hr]; simp [rdAll]
      | cons x xs ih =>
        obtain ⟨c, us', rfl, h1, h2⟩ := hr
        cases j with
        | zero => simp [rdAll]
        | succ j =>
          have hcl := A.len h1
          refine ⟨c, us'.take (j * A.k), ?_, h1, ih j h2⟩
          rw [List.take_append, hcl, List.take_of_length_le (by rw [hcl, Nat.add_mul, Nat.one_mul]; omega), Nat.add_mul, Nat.one_mul, Nat.add_sub_cancel]
    refine ⟨_, rfl, .inr ⟨g, off, cap, us.take (j * A.k), by rw [hl], by rw [hl]; omega, hg, fun i u hu => hcell i u ?_, hs j hr⟩⟩
    rw [List.getElem?_take] at hu
    split at hu
    · exact hu
    · cases hu

end Go.Proofs.YtmgdhlodifkemasDoor
namespace Go.Proofs.YtmgdhlodifkemasDoor
open Go.RowKit

/-- Texts that are not one. -/
theorem text_ne {a b : ByteArray} (h : ¬ a = b) : (a.toList == b.toList) = false := by
  rw [beq_eq_false_iff_ne]
  intro e
  refine h ?_
  rw [ByteArray.toList_eq, ByteArray.toList_eq] at e
  exact ByteArray.ext (Array.toList_inj.1 e)
theorem sign_facts (n : Nat) : (n < 48) ∨ (48 ≤ n ∧ n ≤ 57) ∨ (57 < n ∧ n < 97) ∨ (97 ≤ n ∧ n ≤ 122) ∨ 122 < n := by omega

set_option maxRecDepth 100000 in
set_option maxHeartbeats 1600000 in
theorem specWay_any (s : ByteArray) (b : Bool) (hb : b = true ↔ WayP s) (hs : s.size ≤ 100000000) (w : World) :
    Calls Tryd.prog 17 #[.string s] w fun e w' => e = .returned (.bool b) ∧ w' = w := by
  have HB := Lib.hid hb
  have hl : s.data.toList.length = s.size := by simp
  have HL := Lib.hid hl
  clear hb hl
  go_enter Tryd.func17, Tryd.ntmps17
  go_wp2_with fail
  go_loop [3] (fun c => ∃ j : Nat, j ≤ s.size ∧ c = .int .i64 j ∧ Hid (∀ i, (hi : i < s.size) → i < j → SignW s[i])) (fun c => s.size - (intOf c).toNat)
  case atStart => exact ⟨0, Nat.zero_le _, rfl, fun i _ h => absurd h (by omega)⟩
  case round =>
    obtain ⟨j, hj, rfl, HA⟩ := hrel
    by_cases hlt : j < s.size
    · have hlt' : (j : Int) < (s.size : Int) := by omega
      have HX : Hid (¬ SignW s[j] → b = false) := fun h => by
        cases b with
        | false => rfl
        | true => exact absurd ((HB.out.1 rfl).1 _ (by rw [show s[j] = s.data.toList[j]'(by rw [HL.out]; exact hlt) from rfl]; exact List.getElem_mem _)) h
      have HNX : Hid (SignW s[j] → ∀ i, (hi : i < s.size) → i < j + 1 → SignW s[i]) := fun hx i hi h => by
        rcases Nat.lt_or_ge i j with h2 | h2
        · exact HA.out i hi h2
        · have : i = j := by omega
          subst this
          exact hx
      generalize hc : s[j] = x at HX HNX
      have HC := Lib.hid hc
      rcases sign_facts x.toNat with h | h | h | h | h
      · obtain rfl := HX.out (by unfold SignW; omega)
        have k1 : ((x.toNat : Int) < 97) := by omega
        have k2 : ((x.toNat : Int) < 48) := by omega
        go_wp2_with fail
        go_ret
        exact ⟨rfl, rfl⟩
      · have HJ := Lib.hid (HNX.out (by unfold SignW; omega))
        have k1 : ((x.toNat : Int) < 97) := by omega
        have k2 : ¬ ((x.toNat : Int) < 48) := by omega
        have k3 : ¬ ((57 : Int) < (x.toNat : Int)) := by omega
        go_wp2_with fail
        go_round
        case rel => exact ⟨j + 1, by omega, by go_num, HJ⟩
        case measure => simp [intOf]; omega
      · obtain rfl := HX.out (by unfold SignW; omega)
        have k1 : ((x.toNat : Int) < 97) := by omega
        have k2 : ¬ ((x.toNat : Int) < 48) := by omega
        have k3 : ((57 : Int) < (x.toNat : Int)) := by omega
        go_wp2_with fail
        go_ret
        exact ⟨rfl, rfl⟩
      · have HJ := Lib.hid (HNX.out (by unfold SignW; omega))
        have k1 : ¬ ((x.toNat : Int) < 97) := by omega
        have k2 : ¬ ((122 : Int) < (x.toNat : Int)) := by omega
        go_wp2_with fail
        go_round
        case rel => exact ⟨j + 1, by omega, by go_num, HJ⟩
        case measure => simp [intOf]; omega
      · obtain rfl := HX.out (by unfold SignW; omega)
        have k1 : ¬ ((x.toNat : Int) < 97) := by omega
        have k2 : ((122 : Int) < (x.toNat : Int)) := by omega
        have k3 : ¬ ((x.toNat : Int) < 48) := by omega
        have k4 : ((57 : Int) < (x.toNat : Int)) := by omega
        go_wp2_with fail
        go_ret
        exact ⟨rfl, rfl⟩
    · have hlt' : ¬ ((j : Int) < (s.size : Int)) := by omega
      have HALL : Hid (∀ x ∈ s.data.toList, SignW x) := fun x hx => by
        obtain ⟨i, hi, rfl⟩ := List.getElem_of_mem hx
        rw [HL.out] at hi
        exact HA.out i hi (by omega)
      by_cases hin : 1 ≤ (s.size : Int) ∧ (s.size : Int) ≤ 8
      · obtain rfl : b = true := HB.out.2 ⟨HALL.out, by omega, by omega⟩
        have K := Lib.hid (inRange_yes (s.size : Int) 1 8 hin.1 hin.2 w)
        go_wp2_with fail
        refine (K.out).mono ?_
        rintro e Z9 ⟨rfl, rfl⟩
        go_wp2_with fail
        go_ret
        exact ⟨rfl, rfl⟩
      · obtain rfl : b = false := by
          cases b with
          | false => rfl
          | true => exact absurd (HB.out.1 rfl).2 (by omega)
        have K := Lib.hid (inRange_no (s.size : Int) 1 8 (by omega) w)
        go_wp2_with fail
        refine (K.out).mono ?_
        rintro e Z9 ⟨rfl, rfl⟩
        go_wp2_with fail
        go_ret
        exact ⟨rfl, rfl⟩

set_option maxRecDepth 100000 in
set_option maxHeartbeats 800000 in
theorem specHas_any (xs : List ByteArray) (x : ByteArray) (v : Value) (b : Bool) (hb : b = true ↔ x ∈ xs) (hl : xs.length ≤ 100000000) (w : World) (h : layStringS.rd w [v] xs) :
    Calls Tryd.prog 18 #[v, .string x] w fun e w' => e = .returned (.bool b) ∧ w' = w := by
  obtain ⟨ao, cp, rfl⟩ := rows_form h
  have HR := Lib.hid h
  have HB := Lib.hid hb
  clear h hb
  go_enter Tryd.func18, Tryd.ntmps18
  go_wp2_with fail
  go_loop [5] (fun c => ∃ j : Nat, j ≤ xs.length ∧ c = .int .i64 j ∧ Hid (∀ i, (hi : i < xs.length) → i < j → xs[i] ≠ x)) (fun c => xs.length - (intOf c).toNat)
  case atStart => exact ⟨0, Nat.zero_le _, rfl, fun i _ h => absurd h (by omega)⟩
  case round =>
    obtain ⟨j, hj, rfl, HA⟩ := hrel
    by_cases hlt : j < xs.length
    · have hlt' : (j : Int) < (xs.length : Int) := by omega
      have HX : Hid (xs[j] = x → b = true) := fun h => HB.out.2 (h ▸ List.getElem_mem hlt)
      have HNX : Hid (xs[j] ≠ x → ∀ i, (hi : i < xs.length) → i < j + 1 → xs[i] ≠ x) := fun hx i hi h => by
        rcases Nat.lt_or_ge i j with h2 | h2
        · exact HA.out i hi h2
        · have : i = j := by omega
          subst this
          exact hx
      obtain ⟨g, off, cs, rfl, hg, hr, hc⟩ := rows_elem HR.out j _ (List.getElem?_eq_getElem hlt)
      generalize xs[j] = y at hr HX HNX
      rw [layString_rd] at hr
      subst hr
      have c0 : w.cell? ⟨g, off + j, none⟩ = some (.string y) := (by have h9 := hc 0 _ rfl; rw [str_k] at h9; exact h9)
      clear hc
      by_cases hx : y = x
      · obtain rfl := HX.out hx
        have k1 : (y.toList == x.toList) = true := by rw [hx]; simp
        clear hx
        go_wp2_with fail
        go_ret
        exact ⟨rfl, rfl⟩
      · have HJ := Lib.hid (HNX.out hx)
        have k1 : (y.toList == x.toList) = false := text_ne hx
        clear hx
        go_wp2_with fail
        go_round
        case rel => exact ⟨j + 1, by omega, by go_num, HJ⟩
        case measure => simp [intOf]; omega
    · have hlt' : ¬ ((j : Int) < (xs.length : Int)) := by omega
      obtain rfl : b = false := by
        cases b with
        | false => rfl
        | true =>
          obtain ⟨i, hi, he⟩ := List.getElem_of_mem (HB.out.1 rfl)
          exact absurd he (HA.out i hi (by omega))
      go_wp2_with fail
      go_ret
      exact ⟨rfl, rfl⟩

end Go.Proofs.YtmgdhlodifkemasDoor
namespace Go.Proofs.YtmgdhlodifkemasDoor
open Go.RowKit

theorem texts_ne {a b : ByteArray} (h : ¬ a = b) : (a.toList == b.toList) = false := by
  rw [beq_eq_false_iff_ne]
  intro e
  refine h ?_
  rw [ByteArray.toList_eq, ByteArray.toList_eq] at e
  exact ByteArray.ext (Array.toList_inj.1 e)

set_option maxRecDepth 100000 in
set_option maxHeartbeats 800000 in
theorem indexText_any (xs : List ByteArray) (x : ByteArray) (v : Value) (hl : xs.length ≤ 100000000) (w : World) (h : layStringS.rd w [v] xs) :
    Calls Tryd.prog 32 #[v, .string x] w fun e w' => ((x ∈ xs ∧ ∃ j : Nat, e = .returned (.int .i64 j)) ∨ (x ∉ xs ∧ e = .returned (.int .i64 (-1)))) ∧ w' = w := by
  obtain ⟨ao, cp, rfl⟩ := rows_form h
  have HR := Lib.hid h
  clear h
  go_enter Tryd.func32, Tryd.ntmps32
  go_wp2_with fail
  go_loop [8] (fun c => ∃ j : Nat, j ≤ xs.length ∧ c = .int .i64 j ∧ Hid (∀ i, (hi : i < xs.length) → i < j → xs[i] ≠ x)) (fun c => xs.length - (intOf c).toNat)
  case atStart => exact ⟨0, Nat.zero_le _, rfl, fun i _ h => absurd h (by omega)⟩
  case round =>
    obtain ⟨j, hj, rfl, HA⟩ := hrel
    by_cases hlt : j < xs.length
    · have hlt' : (j : Int) < (xs.length : Int) := by omega
      have HM : Hid (xs[j] = x → x ∈ xs) := Lib.hid (fun h => h ▸ List.getElem_mem hlt)
      have HNX : Hid (xs[j] ≠ x → ∀ i, (hi : i < xs.length) → i < j + 1 → xs[i] ≠ x) := Lib.hid (fun hx i hi h => by
        rcases Nat.lt_or_ge i j with h2 | h2
        · exact HA.out i hi h2
        · have : i = j := by omega
          subst this
          exact hx)
      obtain ⟨g, off, cs, rfl, hg, hr, hc⟩ := rows_elem HR.out j _ (List.getElem?_eq_getElem hlt)
      generalize xs[j] = y at hr HM HNX
      rw [layString_rd] at hr
      subst hr
      have c0 : w.cell? ⟨g, off + j, none⟩ = some (.string y) := (by have h9 := hc 0 _ rfl; rw [str_k] at h9; exact h9)
      clear hc
      by_cases hx : x = y
      · have hq : (x.toList == y.toList) = true := by rw [hx]; simp
        have HE := Lib.hid (HM.out hx.symm)
        clear hx HM HNX
        go_wp2_with fail
        go_ret
        exact ⟨.inl ⟨HE.out, j, rfl⟩, rfl⟩
      · have hq : (x.toList == y.toList) = false := texts_ne hx
        have HJ := Lib.hid (HNX.out (fun e => hx e.symm))
        clear hx HM HNX
        go_wp2_with fail
        go_round
        case rel => exact ⟨j + 1, by omega, by go_num, HJ⟩
        case measure => simp [intOf]; omega
    · have hlt' : ¬ ((j : Int) < (xs.length : Int)) := by omega
      have HE : Hid (x ∉ xs) := Lib.hid (fun hx => by
        obtain ⟨i, hi, e⟩ := List.getElem_of_mem hx
        exact HA.out i hi (by omega) e)
      go_wp2_with fail
      go_ret
      exact ⟨.inr ⟨HE.out, rfl⟩, rfl⟩

theorem containsText_any (xs : List ByteArray) (x : ByteArray) (v : Value) (b : Bool) (hb : b = true ↔ x ∈ xs) (hl : xs.length ≤ 100000000) (w : World) (h : layStringS.rd w [v] xs) :
    Calls Tryd.prog 27 #[v, .string x] w fun e w' => e = .returned (.bool b) ∧ w' = w := by
  have HI := Lib.hid (indexText_any xs x v hl w h)
  clear h
  go_enter Tryd.func27, Tryd.ntmps27
  go_wp2_with fail
  refine HI.out.mono ?_
  rintro e w1 ⟨hE, hw⟩
  have hw' := hw.symm
  subst hw'
  clear hw HI
  rcases hE with ⟨h1, j, rfl⟩ | ⟨h1, rfl⟩
  · obtain rfl : b = true := hb.2 h1
    have hj : (0 : Int) ≤ (j : Int) := by omega
    clear h1 hb
    go_wp2_with fail
    go_ret
    exact ⟨rfl, rfl⟩
  · obtain rfl : b = false := Bool.eq_false_iff.2 fun e => h1 (hb.1 e)
    clear h1 hb
    go_wp2_with fail
    go_ret
    exact ⟨rfl, rfl⟩

end Go.Proofs.YtmgdhlodifkemasDoor
