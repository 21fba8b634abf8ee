/-
  What a part of a text sets, by the program.
  The given test of a range, by what it answers.
  The beginning of a row that can be read.
  The given OptionsOk, and what it calls.
-/
import Derived.Test.YtmgdhlodifkematDoorJ15
import Derived.Test.YtmgdhlodifkematDoorJ16
import Derived.Test.YtmgdhlodifkematDoorJ03
import Derived.Test.YtmgdhlodifkematDoorRows
import Derived.Test.YtmgdhlodifkematDoorJ01
import Derived.Test.YtmgdhlodifkematDoorJ07
import Derived.Test.YtmgdhlodifkematDoorJ11
import Derived.Test.YtmgdhlodifkematDoorJ13
namespace Go.Proofs.YtmgdhlodifkematDoor
open Go.RowKit

theorem rd_texts (w : World) : ∀ qs : List ByteArray, rdAll layString w (qs.map Value.string) qs
  | [] => rfl
  | x :: t => ⟨[.string x], t.map Value.string, rfl, rfl, rd_texts w t⟩
/-- The library's splitting at one sign: a row of the call's own. -/
theorem splitN_any (s : ByteArray) (x : UInt8) (n : Nat) (hs : s.size ≤ 1048576) (hn : 1 ≤ n) (hn2 : n ≤ 1000) (w : World) (hw : LaidA w) :
    Calls Tryd.prog 12 #[.string s, .string ⟨#[x]⟩, .int .i64 n] w fun e w' => ∃ k, e = .returned (.slice (some ⟨w.heap.size, 0, none⟩) (Lib.splitB ⟨#[x]⟩ 0 (min n (s.size + 1) - 1) s).length k) ∧
      layStringS.own w' w.heap.size [w.heap.size] [.slice (some ⟨w.heap.size, 0, none⟩) (Lib.splitB ⟨#[x]⟩ 0 (min n (s.size + 1) - 1) s).length k] (Lib.splitB ⟨#[x]⟩ 0 (min n (s.size + 1) - 1) s) ∧ Below w.heap.size w w' := by
  obtain ⟨m, hm⟩ := hw.max
  refine (Tryd.strings_SplitN s ⟨#[x]⟩ n m w (by omega) hm (Nat.le_refl 1) hn (by omega)).mono ?_
  rintro e Y ⟨rfl, rfl⟩
  have hN : min n (s.size + 1) ≤ 1000 := by omega
  have hl := (split_few x n hn s).2.1
  have hl2 : (Lib.splitB ⟨#[x]⟩ 0 (min n (s.size + 1) - 1) s).length ≤ min n (s.size + 1) := by
    have hd := Lib.splitB_data ⟨#[x]⟩ 0 (min n (s.size + 1) - 1) s
    have hlen : (Lib.splitB ⟨#[x]⟩ 0 (min n (s.size + 1) - 1) s).length = (Lib.splitK [x] 0 (min n (s.size + 1) - 1) s.data.toList).length := by rw [← show _ = Lib.splitK [x] 0 (min n (s.size + 1) - 1) s.data.toList from hd, List.length_map]
    have := (splitK_cut x (min n (s.size + 1) - 1) s.data.toList).2
    omega
  generalize Lib.splitB ⟨#[x]⟩ 0 (min n (s.size + 1) - 1) s = qs at hl hl2
  generalize min n (s.size + 1) = N at hl2 hN
  refine ⟨N, rfl, ?_, (Below.refl _ _).alloc (Nat.le_refl _) _⟩
  refine flat_own flatString (us := qs.map Value.string) ⟨by rw [List.length_map]; exact (Nat.mul_one _).symm, .inr ⟨w.heap.size, N, Lib.cellsOf qs N, rfl, Nat.le_refl _, heap_alloc_new w _, hl2, by unfold maxLen; omega, ?_, ?_⟩⟩ (rd_texts _ qs)
  · rw [Lib.cellsOf_size hl2]
    exact (Nat.mul_one _).symm
  · unfold Lib.cellsOf
    rw [show qs.length * layString.k = (qs.map Value.string).length by rw [List.length_map]; exact Nat.mul_one _, List.take_left']
    rfl
set_option maxRecDepth 100000 in
set_option maxHeartbeats 1600000 in
theorem optionIn_any (x : ByteArray) (hx : x.size ≤ 1048576) (w : World) (hw : LaidA w) :
    Calls Tryd.prog 13 #[.string x] w fun e w' => ∃ c st, e = .returned c ∧ PartSets x.data.toList st ∧ CloV w' c st ∧ Below w.heap.size w w' := by
  have H1 : Hid (∀ X, Calls Tryd.prog 22 #[.string x, .string ⟨#[115, 105, 122, 101, 32]⟩] X fun e w' => e = .returned (.tuple #[.string ⟨(Lib.trimPrefix x.data.toList optSize).toArray⟩, .bool (Lib.hasPrefix x.data.toList optSize)]) ∧ w' = X) := Lib.hid (fun X => Tryd.strings_CutPrefix x ⟨#[115, 105, 122, 101, 32]⟩ X)
  have H2 : Hid (∀ X, Calls Tryd.prog 22 #[.string x, .string ⟨#[119, 97, 121, 115, 32]⟩] X fun e w' => e = .returned (.tuple #[.string ⟨(Lib.trimPrefix x.data.toList optWay).toArray⟩, .bool (Lib.hasPrefix x.data.toList optWay)]) ∧ w' = X) := Lib.hid (fun X => Tryd.strings_CutPrefix x ⟨#[119, 97, 121, 115, 32]⟩ X)
  have T1 : Hid (Lib.hasPrefix x.data.toList optSize = true → Lib.trimPrefix x.data.toList optSize = x.data.toList.drop 5) := Lib.hid (fun h => by unfold Lib.trimPrefix; rw [h]; rfl)
  have T2 : Hid (Lib.hasPrefix x.data.toList optWay = true → Lib.trimPrefix x.data.toList optWay = x.data.toList.drop 5) := Lib.hid (fun h => by unfold Lib.trimPrefix; rw [h]; rfl)
  have HX := Lib.hid hx
  have HW := Lib.hid hw
  clear hx hw
  obtain ⟨Q, HQ⟩ : ∃ Q : Ending → World → Prop, Hid (Q = fun e w' => ∃ c st, e = .returned c ∧ PartSets x.data.toList st ∧ CloV w' c st ∧ Below w.heap.size w w') := ⟨_, Lib.hid rfl⟩
  rw [← HQ.out]
  go_enter Tryd.func13, Tryd.ntmps13
  go_wp2_with fail
  refine (H1.out _).mono ?_
  rintro e Z9 ⟨rfl, hz⟩
  rw [hz]
  clear hz Z9 H1
  cases hp : Lib.hasPrefix x.data.toList optSize with
  | true =>
    obtain ⟨n, b, hn, hK, hd⟩ := implReadDec_all (x.data.toList.drop 5)
    rw [T1.out hp]
    have K := Lib.hid (hK w)
    have HP : Hid (PartSets x.data.toList (.size n)) := Lib.hid (.inl ⟨hp, n, hn, rfl, fun m hm e => by
      rcases hd with ⟨_, h⟩ | ⟨_, _, h⟩
      · exact dec_inj _ _ (h.trans e.symm)
      · exact absurd e (h m hm)⟩)
    clear hK hd hp T1 T2 H2
    generalize x.data.toList.drop 5 = r at *
    go_wp2_with fail
    refine (K.out).mono ?_
    rintro e Z1 ⟨rfl, hb⟩
    have HB := Lib.hid hb
    clear hb K
    go_wp2_with fail
    refine (withSize_own n Z1).mono ?_
    rintro e Z2 ⟨c, rfl, hc, hb⟩
    have E : Hid (Q (.returned c) Z2) := by
      rw [HQ.out]
      exact Lib.hid ⟨c, _, rfl, HP.out, hc, HB.out.trans (hb.mono HB.out.size)⟩
    clear hc hb
    go_wp2_with fail
    exact E.out
  | false =>
    generalize Lib.trimPrefix x.data.toList optSize = r0
    go_wp2_with fail
    refine (H2.out _).mono ?_
    rintro e Z9 ⟨rfl, hz⟩
    rw [hz]
    clear hz Z9 H2 T1
    cases hq : Lib.hasPrefix x.data.toList optWay with
    | true =>
      rw [T2.out hq]
      have HP : Hid (PartSets x.data.toList (.ways (waysIn x.data.toList))) := Lib.hid (.inr (.inl ⟨hp, hq, rfl⟩))
      have hsz : (⟨(x.data.toList.drop 5).toArray⟩ : ByteArray).size ≤ 1048576 := by
        have h1 : x.data.toList.length = x.size := by simp
        have h2 := HX.out
        show (x.data.toList.drop 5).toArray.size ≤ _
        simp only [List.size_toArray, List.length_drop]
        omega
      have K := Lib.hid (splitN_any ⟨(x.data.toList.drop 5).toArray⟩ 44 5 hsz (by decide) (by decide) w HW.out)
      clear hp hq T2 hsz
      unfold waysIn at HP
      generalize (⟨(x.data.toList.drop 5).toArray⟩ : ByteArray) = r at *
      generalize Lib.splitB ⟨#[44]⟩ 0 (min 5 (r.size + 1) - 1) r = qs at *
      go_wp2_with fail
      refine (K.out).mono ?_
      rintro e Z1 ⟨k, rfl, ho, hb⟩
      have HB := Lib.hid hb
      have HO := Lib.hid ho
      clear hb K ho
      go_wp2_with fail
      refine (withWays_own _ qs _ _ Z1 HO.out).mono ?_
      rintro e Z2 ⟨c, rfl, hc, hb⟩
      have E : Hid (Q (.returned c) Z2) := by
        rw [HQ.out]
        exact Lib.hid ⟨c, _, rfl, HP.out, hc, HB.out.trans (hb.mono HB.out.size)⟩
      clear hc hb HO
      go_wp2_with fail
      exact E.out
    | false =>
      generalize Lib.trimPrefix x.data.toList optWay = r1
      by_cases hx : x = ⟨#[112, 105, 101, 99, 101, 115]⟩
      · have HP : Hid (PartSets x.data.toList (.pieces true)) := Lib.hid (.inr (.inr ⟨hp, hq, true, rfl, ⟨fun _ => by rw [hx]; rfl, fun _ => rfl⟩⟩))
        have k1 : (x.toList == [112, 105, 101, 99, 101, 115]) = true := by rw [hx, ByteArray.toList_eq]; decide
        have k2 : (x.toList == (⟨#[112, 105, 101, 99, 101, 115]⟩ : ByteArray).toList) = true := by rw [hx]; simp
        clear hx hp hq T2
        go_wp2_with fail
        refine (withPieces_own true w).mono ?_
        rintro e Z2 ⟨c, rfl, hc, hb⟩
        have E : Hid (Q (.returned c) Z2) := by
          rw [HQ.out]
          exact Lib.hid ⟨c, _, rfl, HP.out, hc, hb⟩
        clear hc hb
        go_wp2_with fail
        exact E.out
      · have HP : Hid (PartSets x.data.toList (.pieces false)) := Lib.hid (.inr (.inr ⟨hp, hq, false, rfl, ⟨fun e => (by cases e), fun e => absurd (bytes_one e) hx⟩⟩))
        have k1 : (x.toList == [112, 105, 101, 99, 101, 115]) = false := by
          have := texts_ne hx
          rw [show (⟨#[112, 105, 101, 99, 101, 115]⟩ : ByteArray).toList = [112, 105, 101, 99, 101, 115] by rw [ByteArray.toList_eq]] at this
          exact this
        have k2 := texts_ne hx
        clear hx hp hq T2
        go_wp2_with fail
        refine (withPieces_own false w).mono ?_
        rintro e Z2 ⟨c, rfl, hc, hb⟩
        have E : Hid (Q (.returned c) Z2) := by
          rw [HQ.out]
          exact Lib.hid ⟨c, _, rfl, HP.out, hc, hb⟩
        clear hc hb
        go_wp2_with fail
        exact E.out

end Go.Proofs.YtmgdhlodifkematDoor
namespace Go.Proofs.YtmgdhlodifkematDoor
open Go.RowKit

theorem inRange_yes (x a b : Int) (h0 : a ≤ x) (h1 : x ≤ b) (w : World) :
    Calls Tryd.prog 34 #[.int .i64 x, .int .i64 a, .int .i64 b] w fun e w' => e = .returned (.bool true) ∧ w' = w := by
  go_enter Tryd.func34, Tryd.ntmps34
  go_wp2
  go_ret
  exact ⟨rfl, rfl⟩

theorem inRange_no (x a b : Int) (h : x < a ∨ b < x) (w : World) :
    Calls Tryd.prog 34 #[.int .i64 x, .int .i64 a, .int .i64 b] w fun e w' => e = .returned (.bool false) ∧ w' = w := by
  by_cases hx : x < a
  · go_enter Tryd.func34, Tryd.ntmps34
    go_wp2
    go_ret
    exact ⟨rfl, rfl⟩
  · have h0 : a ≤ x := by omega
    have h1 : decide (x ≤ b) = false := decide_eq_false (by omega)
    clear h hx
    go_enter Tryd.func34, Tryd.ntmps34
    go_wp2
    go_ret
    exact ⟨rfl, rfl⟩

end Go.Proofs.YtmgdhlodifkematDoor
namespace Go.Proofs.YtmgdhlodifkematDoor
open Go.RowKit

/-- The beginning of a row that can be read. -/
theorem rows_take {α : Type} {e : TypeId} {A : Lay α} {w : World} {a : Option Addr} {n cap : Nat} {xs : List α} (h : (Lay.rows e A).rd w [.slice a n cap] xs) (j : Nat) (hj : j ≤ xs.length) : (Lay.rows e A).rd w [.slice a j cap] (xs.take j) := by
  obtain ⟨v', hv, h⟩ := h
  obtain rfl : Value.slice a n cap = v' := by simpa using hv
  have hl : (xs.take j).length = j := by rw [List.length_take]; omega
  rcases h with ⟨rfl, a', cap', h0, h1⟩ | ⟨g, off, cap', us, h0, hc, hg, hcell, hr⟩
  · simp only [List.length_nil, Nat.le_zero_eq] at hj
    subst hj
    simp only [Value.slice.injEq] at h0
    obtain ⟨rfl, -, rfl⟩ := h0
    exact ⟨_, rfl, .inl ⟨rfl, _, _, rfl, h1⟩⟩
  · simp only [Value.slice.injEq] at h0
    obtain ⟨rfl, -, rfl⟩ := h0
    have hs : ∀ {us : List Value} {xs : List α} (j : Nat), rdAll A w us xs → rdAll A w (us.take (j * A.k)) (xs.take j) := by
      intro us xs j hr
      induction xs generalizing us j with
      | nil => rw [show us = [] from hr]; simp [rdAll]
      | cons x xs ih =>
        obtain ⟨c, us', rfl, h1, h2⟩ := hr
        cases j with
        | zero => simp [rdAll]
        | succ j =>
          have hcl := A.len h1
          refine ⟨c, us'.take (j * A.k), ?_, h1, ih j h2⟩
          rw [List.take_append, hcl, List.take_of_length_le (by rw [hcl, Nat.add_mul, Nat.one_mul]; omega), Nat.add_mul, Nat.one_mul, Nat.add_sub_cancel]
    refine ⟨_, rfl, .inr ⟨g, off, cap, us.take (j * A.k), by rw [hl], by rw [hl]; omega, hg, fun i u hu => hcell i u ?_, hs j hr⟩⟩
    rw [List.getElem?_take] at hu
    split at hu
    · exact hu
    · cases hu

end Go.Proofs.YtmgdhlodifkematDoor
namespace Go.Proofs.YtmgdhlodifkematDoor
open Go.RowKit

/-- Texts that are not one. -/
theorem text_ne {a b : ByteArray} (h : ¬ a = b) : (a.toList == b.toList) = false := by
  rw [beq_eq_false_iff_ne]
  intro e
  refine h ?_
  rw [ByteArray.toList_eq, ByteArray.toList_eq] at e
  exact ByteArray.ext (Array.toList_inj.1 e)
theorem sign_facts (n : Nat) : (n < 48) ∨ (48 ≤ n ∧ n ≤ 57) ∨ (57 < n ∧ n < 97) ∨ (97 ≤ n ∧ n ≤ 122) ∨ 122 < n := by omega

set_option maxRecDepth 100000 in
set_option maxHeartbeats 1600000 in
theorem specWay_any (s : ByteArray) (b : Bool) (hb : b = true ↔ WayP s) (hs : s.size ≤ 100000000) (w : World) :
    Calls Tryd.prog 32 #[.string s] w fun e w' => e = .returned (.bool b) ∧ w' = w := by
  have HB := Lib.hid hb
  have hl : s.data.toList.length = s.size := by simp
  have HL := Lib.hid hl
  clear hb hl
  go_enter Tryd.func32, Tryd.ntmps32
  go_wp2_with fail
  go_loop [3] (fun c => ∃ j : Nat, j ≤ s.size ∧ c = .int .i64 j ∧ Hid (∀ i, (hi : i < s.size) → i < j → SignW s[i])) (fun c => s.size - (intOf c).toNat)
  case atStart => exact ⟨0, Nat.zero_le _, rfl, fun i _ h => absurd h (by omega)⟩
  case round =>
    obtain ⟨j, hj, rfl, HA⟩ := hrel
    by_cases hlt : j < s.size
    · have hlt' : (j : Int) < (s.size : Int) := by omega
      have HX : Hid (¬ SignW s[j] → b = false) := fun h => by
        cases b with
        | false => rfl
        | true => exact absurd ((HB.out.1 rfl).1 _ (by rw [show s[j] = s.data.toList[j]'(by rw [HL.out]; exact hlt) from rfl]; exact List.getElem_mem _)) h
      have HNX : Hid (SignW s[j] → ∀ i, (hi : i < s.size) → i < j + 1 → SignW s[i]) := fun hx i hi h => by
        rcases Nat.lt_or_ge i j with h2 | h2
        · exact HA.out i hi h2
        · have : i = j := by omega
          subst this
          exact hx
      generalize hc : s[j] = x at HX HNX
      have HC := Lib.hid hc
      rcases sign_facts x.toNat with h | h | h | h | h
      · obtain rfl := HX.out (by unfold SignW; omega)
        have k1 : ((x.toNat : Int) < 97) := by omega
        have k2 : ((x.toNat : Int) < 48) := by omega
        go_wp2_with fail
        go_ret
        exact ⟨rfl, rfl⟩
      · have HJ := Lib.hid (HNX.out (by unfold SignW; omega))
        have k1 : ((x.toNat : Int) < 97) := by omega
        have k2 : ¬ ((x.toNat : Int) < 48) := by omega
        have k3 : ¬ ((57 : Int) < (x.toNat : Int)) := by omega
        go_wp2_with fail
        go_round
        case rel => exact ⟨j + 1, by omega, by go_num, HJ⟩
        case measure => simp [intOf]; omega
      · obtain rfl := HX.out (by unfold SignW; omega)
        have k1 : ((x.toNat : Int) < 97) := by omega
        have k2 : ¬ ((x.toNat : Int) < 48) := by omega
        have k3 : ((57 : Int) < (x.toNat : Int)) := by omega
        go_wp2_with fail
        go_ret
        exact ⟨rfl, rfl⟩
      · have HJ := Lib.hid (HNX.out (by unfold SignW; omega))
        have k1 : ¬ ((x.toNat : Int) < 97) := by omega
        have k2 : ¬ ((122 : Int) < (x.toNat : Int)) := by omega
        go_wp2_with fail
        go_round
        case rel => exact ⟨j + 1, by omega, by go_num, HJ⟩
        case measure => simp [intOf]; omega
      · obtain rfl := HX.out (by unfold SignW; omega)
        have k1 : ¬ ((x.toNat : Int) < 97) := by omega
        have k2 : ((122 : Int) < (x.toNat : Int)) := by omega
        have k3 : ¬ ((x.toNat : Int) < 48) := by omega
        have k4 : ((57 : Int) < (x.toNat : Int)) := by omega
        go_wp2_with fail
        go_ret
        exact ⟨rfl, rfl⟩
    · have hlt' : ¬ ((j : Int) < (s.size : Int)) := by omega
      have HALL : Hid (∀ x ∈ s.data.toList, SignW x) := fun x hx => by
        obtain ⟨i, hi, rfl⟩ := List.getElem_of_mem hx
        rw [HL.out] at hi
        exact HA.out i hi (by omega)
      by_cases hin : 1 ≤ (s.size : Int) ∧ (s.size : Int) ≤ 8
      · obtain rfl : b = true := HB.out.2 ⟨HALL.out, by omega, by omega⟩
        have K := Lib.hid (inRange_yes (s.size : Int) 1 8 hin.1 hin.2 w)
        go_wp2_with fail
        refine (K.out).mono ?_
        rintro e Z9 ⟨rfl, rfl⟩
        go_wp2_with fail
        go_ret
        exact ⟨rfl, rfl⟩
      · obtain rfl : b = false := by
          cases b with
          | false => rfl
          | true => exact absurd (HB.out.1 rfl).2 (by omega)
        have K := Lib.hid (inRange_no (s.size : Int) 1 8 (by omega) w)
        go_wp2_with fail
        refine (K.out).mono ?_
        rintro e Z9 ⟨rfl, rfl⟩
        go_wp2_with fail
        go_ret
        exact ⟨rfl, rfl⟩

set_option maxRecDepth 100000 in
set_option maxHeartbeats 800000 in
theorem specHas_any (xs : List ByteArray) (x : ByteArray) (v : Value) (b : Bool) (hb : b = true ↔ x ∈ xs) (hl : xs.length ≤ 100000000) (w : World) (h : layStringS.rd w [v] xs) :
    Calls Tryd.prog 33 #[v, .string x] w fun e w' => e = .returned (.bool b) ∧ w' = w := by
  obtain ⟨ao, cp, rfl⟩ := rows_form h
  have HR := Lib.hid h
  have HB := Lib.hid hb
  clear h hb
  go_enter Tryd.func33, Tryd.ntmps33
  go_wp2_with fail
  go_loop [5] (fun c => ∃ j : Nat, j ≤ xs.length ∧ c = .int .i64 j ∧ Hid (∀ i, (hi : i < xs.length) → i < j → xs[i] ≠ x)) (fun c => xs.length - (intOf c).toNat)
  case atStart => exact ⟨0, Nat.zero_le _, rfl, fun i _ h => absurd h (by omega)⟩
  case round =>
    obtain ⟨j, hj, rfl, HA⟩ := hrel
    by_cases hlt : j < xs.length
    · have hlt' : (j : Int) < (xs.length : Int) := by omega
      have HX : Hid (xs[j] = x → b = true) := fun h => HB.out.2 (h ▸ List.getElem_mem hlt)
      have HNX : Hid (xs[j] ≠ x → ∀ i, (hi : i < xs.length) → i < j + 1 → xs[i] ≠ x) := fun hx i hi h => by
        rcases Nat.lt_or_ge i j with h2 | h2
        · exact HA.out i hi h2
        · have : i = j := by omega
          subst this
          exact hx
      obtain ⟨g, off, cs, rfl, hg, hr, hc⟩ := rows_elem HR.out j _ (List.getElem?_eq_getElem hlt)
      generalize xs[j] = y at hr HX HNX
      rw [layString_rd] at hr
      subst hr
      have c0 : w.cell? ⟨g, off + j, none⟩ = some (.string y) := (by have h9 := hc 0 _ rfl; rw [str_k] at h9; exact h9)
      clear hc
      by_cases hx : y = x
      · obtain rfl := HX.out hx
        have k1 : (y.toList == x.toList) = true := by rw [hx]; simp
        clear hx
        go_wp2_with fail
        go_ret
        exact ⟨rfl, rfl⟩
      · have HJ := Lib.hid (HNX.out hx)
        have k1 : (y.toList == x.toList) = false := text_ne hx
        clear hx
        go_wp2_with fail
        go_round
        case rel => exact ⟨j + 1, by omega, by go_num, HJ⟩
        case measure => simp [intOf]; omega
    · have hlt' : ¬ ((j : Int) < (xs.length : Int)) := by omega
      obtain rfl : b = false := by
        cases b with
        | false => rfl
        | true =>
          obtain ⟨i, hi, he⟩ := List.getElem_of_mem (HB.out.1 rfl)
          exact absurd he (HA.out i hi (by omega))
      go_wp2_with fail
      go_ret
      exact ⟨rfl, rfl⟩

end Go.Proofs.YtmgdhlodifkematDoor
