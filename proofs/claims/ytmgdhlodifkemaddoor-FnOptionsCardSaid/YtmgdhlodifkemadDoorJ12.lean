/-
  Rows of texts as they lie; the laws' own functions over them.
  Options as it lies; the laws' own functions over it and over rows of it.
  The given test of a range, by what it answers.
  The beginning of a row that can be read.
  The given OptionsOk, and what it calls.
  Rows and variables of different types lie apart; no program is spoken of here.
-/
import Derived.Test.YtmgdhlodifkemadDoorJ11
import Derived.Test.YtmgdhlodifkemadDoorRows
import Derived.Deep.RegionHeld3
import Derived.BigQuiet
import Derived.Deep.QuietTactic
import Derived.Deep.DeepCutAuto
import Derived.Test.YtmgdhlodifkemadDoorJ01
import Derived.Test.YtmgdhlodifkemadDoorJ08
namespace Go.Proofs.YtmgdhlodifkemadDoor
open Go.RowKit

abbrev StringD := ByteArray
abbrev StringT : TypeId := 9
def layString : Lay ByteArray := Lay.str
def layStringS : Lay (List ByteArray) := .rows StringT layString
theorem str_k (j : Nat) : j * layString.k = j := Nat.mul_one j
theorem layString_rd {w : World} {cs : List Value} {x : ByteArray} : layString.rd w cs x ↔ cs = [.string x] := Iff.rfl
theorem layString_own {w : World} {b : Nat} {f : List Nat} {cs : List Value} {x : ByteArray} : layString.own w b f cs x ↔ f = [] ∧ cs = [.string x] := Iff.rfl
theorem zeroString (w : World) (b : Nat) : layString.own w b [] [.string ⟨#[]⟩] ⟨#[]⟩ := ⟨rfl, rfl⟩
theorem zeroString_none (w : World) (b : Nat) (f : List Nat) (c : List Value) (h : layString.own w b f c ⟨#[]⟩) : f = [] := h.1
theorem flatString : Flat layString := ⟨fun _ _ _ _ h => layString_own.2 ⟨rfl, layString_rd.1 h⟩, fun _ _ _ _ _ h => (layString_own.1 h).1, fun _ _ _ _ h => layString_rd.2 (layString_rd.1 h)⟩
theorem infoString : (Tryd.prog.info? 9).map (fun i => (i.zero, i.size, i.bytes)) = some (some (.string ⟨#[]⟩), 1, 16) := by kernel_rfl
/-- Rows that are measured. -/
def FitsString (xs : List StringD) : Prop := xs.length ≤ 1048576 ∧ ∀ x ∈ xs, (x).size ≤ 1048576
def RoomString (xs : List StringD) : Prop := xs.length ≤ 9223372036854775807 ∧ ∀ x ∈ xs, (x).size ≤ 9223372036854775807
theorem markString_eq (q : Int) (x : StringD) : layString.mark q x = ((markTxt (q)), q + 1) := rfl
theorem marksString_num (k : Int) (xs : List StringD) : (layStringS.mark k xs).2 = k + 1 * (xs.length : Int) := by
  show (mkAll layString k xs).2 = _
  induction xs generalizing k with
  | nil => simp [mkAll]
  | cons x xs ih =>
    show (mkAll layString (layString.mark k x).2 xs).2 = _
    rw [ih, markString_eq]
    simp only [List.length_cons]
    omega
theorem marksString_next (k : Int) (xs : List StringD) (j : Nat) (x : StringD) (hx : xs[j]? = some x) : (layStringS.mark k (xs.take (j + 1))).1 = (layStringS.mark k (xs.take j)).1 ++ [(layString.mark (k + 1 * (j : Int)) x).1] := by
  have hj : j < xs.length := (List.getElem?_eq_some_iff.1 hx).1
  have e : xs.take (j + 1) = xs.take j ++ [x] := by rw [List.take_add_one, hx]; rfl
  have h2 := marksString_num k (xs.take j)
  show (mkAll layString k _).1 = (mkAll layString k _).1 ++ _
  rw [e, mkAll_append]
  have h3 : (mkAll layString k (xs.take j)).2 = k + 1 * (j : Int) := by
    have h4 : (mkAll layString k (xs.take j)).2 = _ := h2
    rw [h4, List.length_take, Nat.min_eq_left (by omega)]
  rw [h3]
  rfl
theorem marksString_get (k : Int) (xs : List StringD) (j : Nat) (x : StringD) (hx : xs[j]? = some x) : (layStringS.mark k xs).1[j]? = some (layString.mark (k + 1 * (j : Int)) x).1 := by
  have hj : j < xs.length := (List.getElem?_eq_some_iff.1 hx).1
  have h := marksString_next k xs j x hx
  have e : xs = xs.take (j + 1) ++ xs.drop (j + 1) := (List.take_append_drop _ _).symm
  have e2 : (layStringS.mark k xs).1 = (layStringS.mark k (xs.take (j + 1))).1 ++ (mkAll layString (layStringS.mark k (xs.take (j + 1))).2 (xs.drop (j + 1))).1 := by
    conv => lhs; rw [e]
    show (mkAll layString k _).1 = _
    rw [mkAll_append]
    rfl
  have hl : (layStringS.mark k (xs.take j)).1.length = j := by
    show (mkAll layString k _).1.length = j
    rw [mkAll_length, List.length_take]
    omega
  rw [e2, h, List.getElem?_append_left (by rw [List.length_append, hl]; simp), List.getElem?_append_right (by omega), hl, Nat.sub_self]
  rfl
end Go.Proofs.YtmgdhlodifkemadDoor
namespace Go.Proofs.YtmgdhlodifkemadDoor
open Go.RowKit

abbrev OptionsD := Int × (List ByteArray) × Bool
abbrev OptionsT : TypeId := 39
def layOptions : Lay OptionsD := Lay.pair Lay.int (Lay.pair layStringS Lay.bool)
def layOptionsS : Lay (List OptionsD) := .rows OptionsT layOptions

theorem layOptions_rd {w : World} {cs : List Value} {x : OptionsD} : layOptions.rd w cs x ↔ ∃ v1, cs = [.int .i64 x.1, v1, .bool x.2.2] ∧ layStringS.rd w [v1] x.2.1 := by
  constructor
  · rintro ⟨c100, d100, rfl, rfl, ⟨c102, d102, rfl, ⟨v101, rfl, h101⟩, rfl⟩⟩
    exact ⟨v101, rfl, ⟨v101, rfl, h101⟩⟩
  · rintro ⟨v1, rfl, H1⟩
    exact ⟨[_], [_, _], rfl, rfl, ⟨[_], [_], rfl, H1, rfl⟩⟩

theorem layOptions_own {w : World} {b : Nat} {f : List Nat} {cs : List Value} {x : OptionsD} : layOptions.own w b f cs x ↔ ∃ v1 f1, cs = [.int .i64 x.1, v1, .bool x.2.2] ∧ f = f1 ∧ layStringS.own w b f1 [v1] x.2.1 := by
  constructor
  · rintro ⟨f100, g100, c100, d100, rfl, rfl, ⟨rfl, rfl⟩, ⟨f102, g102, c102, d102, rfl, rfl, ⟨v101, rfl, h101⟩, ⟨rfl, rfl⟩⟩⟩
    exact ⟨v101, _, rfl, by simp, ⟨v101, rfl, h101⟩⟩
  · rintro ⟨v1, f1, rfl, hf, H1⟩
    have hf2 : f = ([] ++ (f1 ++ [])) := by simp [hf]
    rw [hf2]
    exact ⟨[], (f1 ++ []), [_], [_, _], rfl, rfl, ⟨rfl, rfl⟩, ⟨f1, [], [_], [_], rfl, rfl, H1, ⟨rfl, rfl⟩⟩⟩

def FitsOptions (r1 : List ByteArray) : Prop := FitsString r1
end Go.Proofs.YtmgdhlodifkemadDoor
namespace Go.Proofs.YtmgdhlodifkemadDoor
open Go.RowKit

theorem inRange_yes (x a b : Int) (h0 : a ≤ x) (h1 : x ≤ b) (w : World) :
    Calls Tryd.prog 32 #[.int .i64 x, .int .i64 a, .int .i64 b] w fun e w' => e = .returned (.bool true) ∧ w' = w := by
  go_enter Tryd.func32, Tryd.ntmps32
  go_wp2
  go_ret
  exact ⟨rfl, rfl⟩

theorem inRange_no (x a b : Int) (h : x < a ∨ b < x) (w : World) :
    Calls Tryd.prog 32 #[.int .i64 x, .int .i64 a, .int .i64 b] w fun e w' => e = .returned (.bool false) ∧ w' = w := by
  by_cases hx : x < a
  · go_enter Tryd.func32, Tryd.ntmps32
    go_wp2
    go_ret
    exact ⟨rfl, rfl⟩
  · have h0 : a ≤ x := by omega
    have h1 : decide (x ≤ b) = false := decide_eq_false (by omega)
    clear h hx
    go_enter Tryd.func32, Tryd.ntmps32
    go_wp2
    go_ret
    exact ⟨rfl, rfl⟩

end Go.Proofs.YtmgdhlodifkemadDoor
namespace Go.Proofs.YtmgdhlodifkemadDoor
open Go.RowKit

/-- The beginning of a row that can be read. -/
theorem rows_take {α : Type} {e : TypeId} {A : Lay α} {w : World} {a : Option Addr} {n cap : Nat} {xs : List α} (h : (Lay.rows e A).rd w [.slice a n cap] xs) (j : Nat) (hj : j ≤ xs.length) : (Lay.rows e A).rd w [.slice a j cap] (xs.take j) := by
  obtain ⟨v', hv, h⟩ := h
  obtain rfl : Value.slice a n cap = v' := by simpa using hv
  have hl : (xs.take j).length = j := by rw [List.length_take]; omega
  rcases h with ⟨rfl, a', cap', h0, h1⟩ | ⟨g, off, cap', us, h0, hc, hg, hcell, hr⟩
  · simp only [List.length_nil, Nat.le_zero_eq] at hj
    subst hj
    simp only [Value.slice.injEq] at h0
    obtain ⟨rfl, -, rfl⟩ := h0
    exact ⟨_, rfl, .inl ⟨rfl, _, _, rfl, h1⟩⟩
  · simp only [Value.slice.injEq] at h0
    obtain ⟨rfl, -, rfl⟩ := h0
    have hs : ∀ {us : List Value} {xs : List α} (j : Nat), rdAll A w us xs → rdAll A w (us.take (j * A.k)) (xs.take j) := by
      intro us xs j hr
      induction xs generalizing us j with
      | nil => rw [show us = [] from hr]; simp [rdAll]
      | cons x xs ih =>
        obtain ⟨c, us', rfl, h1, h2⟩ := hr
        cases j with
        | zero => simp [rdAll]
        | succ j =>
          have hcl := A.len h1
          refine ⟨c, us'.take (j * A.k), ?_, h1, ih j h2⟩
          rw [List.take_append, hcl, List.take_of_length_le (by rw [hcl, Nat.add_mul, Nat.one_mul]; omega), Nat.add_mul, Nat.one_mul, Nat.add_sub_cancel]
    refine ⟨_, rfl, .inr ⟨g, off, cap, us.take (j * A.k), by rw [hl], by rw [hl]; omega, hg, fun i u hu => hcell i u ?_, hs j hr⟩⟩
    rw [List.getElem?_take] at hu
    split at hu
    · exact hu
    · cases hu

end Go.Proofs.YtmgdhlodifkemadDoor
namespace Go.Proofs.YtmgdhlodifkemadDoor
open Go.RowKit

/-- Texts that are not one. -/
theorem text_ne {a b : ByteArray} (h : ¬ a = b) : (a.toList == b.toList) = false := by
  rw [beq_eq_false_iff_ne]
  intro e
  refine h ?_
  rw [ByteArray.toList_eq, ByteArray.toList_eq] at e
  exact ByteArray.ext (Array.toList_inj.1 e)
theorem sign_facts (n : Nat) : (n < 48) ∨ (48 ≤ n ∧ n ≤ 57) ∨ (57 < n ∧ n < 97) ∨ (97 ≤ n ∧ n ≤ 122) ∨ 122 < n := by omega

set_option maxRecDepth 100000 in
set_option maxHeartbeats 1600000 in
theorem specWay_any (s : ByteArray) (b : Bool) (hb : b = true ↔ WayP s) (hs : s.size ≤ 100000000) (w : World) :
    Calls Tryd.prog 92 #[.string s] w fun e w' => e = .returned (.bool b) ∧ w' = w := by
  have HB := Lib.hid hb
  have hl : s.data.toList.length = s.size := by simp
  have HL := Lib.hid hl
  clear hb hl
  go_enter Tryd.func92, Tryd.ntmps92
  go_wp2_with fail
  go_loop [3] (fun c => ∃ j : Nat, j ≤ s.size ∧ c = .int .i64 j ∧ Hid (∀ i, (hi : i < s.size) → i < j → SignW s[i])) (fun c => s.size - (intOf c).toNat)
  case atStart => exact ⟨0, Nat.zero_le _, rfl, fun i _ h => absurd h (by omega)⟩
  case round =>
    obtain ⟨j, hj, rfl, HA⟩ := hrel
    by_cases hlt : j < s.size
    · have hlt' : (j : Int) < (s.size : Int) := by omega
      have HX : Hid (¬ SignW s[j] → b = false) := fun h => by
        cases b with
        | false => rfl
        | true => exact absurd ((HB.out.1 rfl).1 _ (by rw [show s[j] = s.data.toList[j]'(by rw [HL.out]; exact hlt) from rfl]; exact List.getElem_mem _)) h
      have HNX : Hid (SignW s[j] → ∀ i, (hi : i < s.size) → i < j + 1 → SignW s[i]) := fun hx i hi h => by
        rcases Nat.lt_or_ge i j with h2 | h2
        · exact HA.out i hi h2
        · have : i = j := by omega
          subst this
          exact hx
      generalize hc : s[j] = x at HX HNX
      have HC := Lib.hid hc
      rcases sign_facts x.toNat with h | h | h | h | h
      · obtain rfl := HX.out (by unfold SignW; omega)
        have k1 : ((x.toNat : Int) < 97) := by omega
        have k2 : ((x.toNat : Int) < 48) := by omega
        go_wp2_with fail
        go_ret
        exact ⟨rfl, rfl⟩
      · have HJ := Lib.hid (HNX.out (by unfold SignW; omega))
        have k1 : ((x.toNat : Int) < 97) := by omega
        have k2 : ¬ ((x.toNat : Int) < 48) := by omega
        have k3 : ¬ ((57 : Int) < (x.toNat : Int)) := by omega
        go_wp2_with fail
        go_round
        case rel => exact ⟨j + 1, by omega, by go_num, HJ⟩
        case measure => simp [intOf]; omega
      · obtain rfl := HX.out (by unfold SignW; omega)
        have k1 : ((x.toNat : Int) < 97) := by omega
        have k2 : ¬ ((x.toNat : Int) < 48) := by omega
        have k3 : ((57 : Int) < (x.toNat : Int)) := by omega
        go_wp2_with fail
        go_ret
        exact ⟨rfl, rfl⟩
      · have HJ := Lib.hid (HNX.out (by unfold SignW; omega))
        have k1 : ¬ ((x.toNat : Int) < 97) := by omega
        have k2 : ¬ ((122 : Int) < (x.toNat : Int)) := by omega
        go_wp2_with fail
        go_round
        case rel => exact ⟨j + 1, by omega, by go_num, HJ⟩
        case measure => simp [intOf]; omega
      · obtain rfl := HX.out (by unfold SignW; omega)
        have k1 : ¬ ((x.toNat : Int) < 97) := by omega
        have k2 : ((122 : Int) < (x.toNat : Int)) := by omega
        have k3 : ¬ ((x.toNat : Int) < 48) := by omega
        have k4 : ((57 : Int) < (x.toNat : Int)) := by omega
        go_wp2_with fail
        go_ret
        exact ⟨rfl, rfl⟩
    · have hlt' : ¬ ((j : Int) < (s.size : Int)) := by omega
      have HALL : Hid (∀ x ∈ s.data.toList, SignW x) := fun x hx => by
        obtain ⟨i, hi, rfl⟩ := List.getElem_of_mem hx
        rw [HL.out] at hi
        exact HA.out i hi (by omega)
      by_cases hin : 1 ≤ (s.size : Int) ∧ (s.size : Int) ≤ 8
      · obtain rfl : b = true := HB.out.2 ⟨HALL.out, by omega, by omega⟩
        have K := Lib.hid (inRange_yes (s.size : Int) 1 8 hin.1 hin.2 w)
        go_wp2_with fail
        refine (K.out).mono ?_
        rintro e Z9 ⟨rfl, rfl⟩
        go_wp2_with fail
        go_ret
        exact ⟨rfl, rfl⟩
      · obtain rfl : b = false := by
          cases b with
          | false => rfl
          | true => exact absurd (HB.out.1 rfl).2 (by omega)
        have K := Lib.hid (inRange_no (s.size : Int) 1 8 (by omega) w)
        go_wp2_with fail
        refine (K.out).mono ?_
        rintro e Z9 ⟨rfl, rfl⟩
        go_wp2_with fail
        go_ret
        exact ⟨rfl, rfl⟩

set_option maxRecDepth 100000 in
set_option maxHeartbeats 800000 in
theorem specHas_any (xs : List ByteArray) (x : ByteArray) (v : Value) (b : Bool) (hb : b = true ↔ x ∈ xs) (hl : xs.length ≤ 100000000) (w : World) (h : layStringS.rd w [v] xs) :
    Calls Tryd.prog 58 #[v, .string x] w fun e w' => e = .returned (.bool b) ∧ w' = w := by
  obtain ⟨ao, cp, rfl⟩ := rows_form h
  have HR := Lib.hid h
  have HB := Lib.hid hb
  clear h hb
  go_enter Tryd.func58, Tryd.ntmps58
  go_wp2_with fail
  go_loop [5] (fun c => ∃ j : Nat, j ≤ xs.length ∧ c = .int .i64 j ∧ Hid (∀ i, (hi : i < xs.length) → i < j → xs[i] ≠ x)) (fun c => xs.length - (intOf c).toNat)
  case atStart => exact ⟨0, Nat.zero_le _, rfl, fun i _ h => absurd h (by omega)⟩
  case round =>
    obtain ⟨j, hj, rfl, HA⟩ := hrel
    by_cases hlt : j < xs.length
    · have hlt' : (j : Int) < (xs.length : Int) := by omega
      have HX : Hid (xs[j] = x → b = true) := fun h => HB.out.2 (h ▸ List.getElem_mem hlt)
      have HNX : Hid (xs[j] ≠ x → ∀ i, (hi : i < xs.length) → i < j + 1 → xs[i] ≠ x) := fun hx i hi h => by
        rcases Nat.lt_or_ge i j with h2 | h2
        · exact HA.out i hi h2
        · have : i = j := by omega
          subst this
          exact hx
      obtain ⟨g, off, cs, rfl, hg, hr, hc⟩ := rows_elem HR.out j _ (List.getElem?_eq_getElem hlt)
      generalize xs[j] = y at hr HX HNX
      rw [layString_rd] at hr
      subst hr
      have c0 : w.cell? ⟨g, off + j, none⟩ = some (.string y) := (by have h9 := hc 0 _ rfl; rw [str_k] at h9; exact h9)
      clear hc
      by_cases hx : y = x
      · obtain rfl := HX.out hx
        have k1 : (y.toList == x.toList) = true := by rw [hx]; simp
        clear hx
        go_wp2_with fail
        go_ret
        exact ⟨rfl, rfl⟩
      · have HJ := Lib.hid (HNX.out hx)
        have k1 : (y.toList == x.toList) = false := text_ne hx
        clear hx
        go_wp2_with fail
        go_round
        case rel => exact ⟨j + 1, by omega, by go_num, HJ⟩
        case measure => simp [intOf]; omega
    · have hlt' : ¬ ((j : Int) < (xs.length : Int)) := by omega
      obtain rfl : b = false := by
        cases b with
        | false => rfl
        | true =>
          obtain ⟨i, hi, he⟩ := List.getElem_of_mem (HB.out.1 rfl)
          exact absurd he (HA.out i hi (by omega))
      go_wp2_with fail
      go_ret
      exact ⟨rfl, rfl⟩

end Go.Proofs.YtmgdhlodifkemadDoor
namespace Go.Proofs.YtmgdhlodifkemadDoor
open Go.RowKit

/-- A flat row and a variable of another type lie apart. -/
theorem row_off {α : Type} {A : Lay α} (hf : Flat A) {e T : TypeId} {X : World} {b G : Nat} {f : List Nat} {v : Value} {xs : List α} {cs : Array Value} (h : (Lay.rows e A).own X b f [v] xs) (hv : VarA G T cs X) (hT : T ≠ e) : G ∉ f := by
  obtain ⟨us, ho, _, rfl⟩ := flat_inv hf h
  intro hm
  rcases ho.2 with ⟨rfl, _⟩ | ⟨g', cap, cur, rfl, _, hb, _⟩
  · simp [blk, Value.ownBlock] at hm
  · have : G = g' := by simpa [blk, Value.ownBlock] using hm
    subst this
    rw [hv.row] at hb
    injection hb with hb
    injection hb with _ hb
    exact hT hb
theorem rows_off {α β : Type} {A : Lay α} {B : Lay β} (hf : Flat A) (hf' : Flat B) {e e' : TypeId} {X : World} {b b' : Nat} {f f' : List Nat} {v v' : Value} {xs : List α} {ys : List β} (h : (Lay.rows e A).own X b f [v] xs) (h' : (Lay.rows e' B).own X b' f' [v'] ys) (he : e ≠ e') : ∀ g ∈ f, g ∉ f' := by
  obtain ⟨us, ho, _, rfl⟩ := flat_inv hf h
  obtain ⟨us', ho', _, rfl⟩ := flat_inv hf' h'
  intro g hg hg'
  rcases ho.2 with ⟨rfl, _⟩ | ⟨g1, cap, cur, rfl, _, hb, _⟩
  · simp [blk, Value.ownBlock] at hg
  · rcases ho'.2 with ⟨rfl, _⟩ | ⟨g2, cap2, cur2, rfl, _, hb2, _⟩
    · simp [blk, Value.ownBlock] at hg'
    · have e1 : g = g1 := by simpa [blk, Value.ownBlock] using hg
      have e2 : g = g2 := by simpa [blk, Value.ownBlock] using hg'
      subst e1
      subst e2
      rw [hb] at hb2
      injection hb2 with hb2
      injection hb2 with _ hb2
      exact he hb2

theorem VarA.next' {r : Nat} {t : TypeId} {cs : Array Value} {X Y : World} {b : Nat} (h : VarA r t cs X) (hb : Below b X Y) (hr : r < b) : VarA r t cs Y := ⟨(hb.block r hr).trans h.row⟩

end Go.Proofs.YtmgdhlodifkemadDoor
