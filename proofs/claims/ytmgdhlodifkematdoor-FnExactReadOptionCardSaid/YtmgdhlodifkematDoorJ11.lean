/-
  Plain mathematics of addresses and prefixes: texts cut at a sign and put together again, four numbers and one; no program is spoken of here.
  Options in plain words: a right way, right options, their text, what is agreed; no program is spoken of here.
-/
import Derived.Test.YtmgdhlodifkematDoorJ01
import Derived.Test.YtmgdhlodifkematDoorJ09
import Derived.Test.YtmgdhlodifkematDoorJ10
namespace Go.Proofs.YtmgdhlodifkematDoor
open Go.RowKit

/-- A text cut at every sign x; cur is what stands ahead. -/
def cutAt (x : UInt8) : List UInt8 → List UInt8 → List (List UInt8)
  | cur, [] => [cur]
  | cur, b :: l => if b = x then cur :: cutAt x [] l else cutAt x (cur ++ [b]) l
/-- Parts put together, x between. -/
def joinAt (x : UInt8) : List (List UInt8) → List UInt8
  | [] => []
  | p :: t => if t = [] then p else p ++ x :: joinAt x t
theorem joinAt_one (x : UInt8) (p : List UInt8) : joinAt x [p] = p := by simp [joinAt]
theorem joinAt_more (x : UInt8) (p : List UInt8) (t : List (List UInt8)) (h : t ≠ []) : joinAt x (p :: t) = p ++ x :: joinAt x t := by simp [joinAt, h]
theorem cutAt_ne (x : UInt8) : ∀ (l cur : List UInt8), cutAt x cur l ≠ []
  | [], cur => by simp [cutAt]
  | b :: l, cur => by
    unfold cutAt
    split
    · simp
    · exact cutAt_ne x l _
/-- What is cut, put together again, is what it was. -/
theorem joinAt_cut (x : UInt8) : ∀ (l cur : List UInt8), joinAt x (cutAt x cur l) = cur ++ l
  | [], cur => by simp [cutAt, joinAt_one]
  | b :: l, cur => by
    unfold cutAt
    split
    · next h => rw [joinAt_more x _ _ (cutAt_ne x l []), joinAt_cut x l [], h]; rfl
    · rw [joinAt_cut x l _, List.append_assoc]; rfl
theorem cutAt_last (x : UInt8) : ∀ (p cur : List UInt8), x ∉ p → cutAt x cur p = [cur ++ p]
  | [], cur, _ => by simp [cutAt]
  | b :: p, cur, h => by
    unfold cutAt
    rw [if_neg (fun e => h (by rw [e]; exact List.mem_cons_self)), cutAt_last x p _ (fun e => h (List.mem_cons_of_mem _ e)), List.append_assoc]
    rfl
theorem cutAt_cons (x b : UInt8) (l cur : List UInt8) : cutAt x cur (b :: l) = if b = x then cur :: cutAt x [] l else cutAt x (cur ++ [b]) l := rfl
theorem cutAt_part (x : UInt8) (r : List UInt8) : ∀ (p cur : List UInt8), x ∉ p → cutAt x cur (p ++ x :: r) = (cur ++ p) :: cutAt x [] r
  | [], cur, _ => by simp [cutAt]
  | b :: p, cur, h => by
    rw [List.cons_append, cutAt_cons, if_neg (fun e => h (by rw [e]; exact List.mem_cons_self)), cutAt_part x r p _ (fun e => h (List.mem_cons_of_mem _ e)), List.append_assoc]
    rfl
/-- Parts without x, put together and cut. -/
theorem cut_joinAt (x : UInt8) : ∀ (ps : List (List UInt8)), ps ≠ [] → (∀ p ∈ ps, x ∉ p) → cutAt x [] (joinAt x ps) = ps
  | [], h, _ => absurd rfl h
  | [p], _, hp => by rw [joinAt_one, cutAt_last x p [] (hp p (by simp))]; rfl
  | p :: q :: t, _, hp => by
    rw [joinAt_more x p (q :: t) (by simp), cutAt_part x _ p [] (hp p (by simp)), cut_joinAt x (q :: t) (by simp) (fun y hy => hp y (List.mem_cons_of_mem _ hy))]
    rfl
theorem cutAt_count (x : UInt8) : ∀ (l cur : List UInt8), (cutAt x cur l).length ≤ l.length + 1
  | [], cur => by simp [cutAt]
  | b :: l, cur => by
    unfold cutAt
    split
    · have := cutAt_count x l []
      simp
      omega
    · have := cutAt_count x l (cur ++ [b])
      simp
      omega
/-- What is still to come where a part began at b and i is looked at. -/
def remC (x : UInt8) (l : List UInt8) (b i : Nat) : List (List UInt8) := if i ≤ l.length then cutAt x (seg l b i) (l.drop i) else []
theorem remC_start (x : UInt8) (l : List UInt8) : remC x l 0 0 = cutAt x [] l := by simp [remC, seg]
theorem remC_more (x : UInt8) (l : List UInt8) (b i : Nat) (hb : b ≤ i) (h : i < l.length) (hne : l[i] ≠ x) : remC x l b i = remC x l b (i + 1) := by
  unfold remC
  rw [if_pos (by omega), if_pos (by omega), List.drop_eq_getElem_cons h, cutAt, if_neg hne, seg_snoc l b i hb h]
theorem remC_part (x : UInt8) (l : List UInt8) (b i : Nat) (h : i < l.length) (he : l[i] = x) : remC x l b i = seg l b i :: remC x l (i + 1) (i + 1) := by
  unfold remC
  rw [if_pos (by omega), if_pos (by omega), List.drop_eq_getElem_cons h, cutAt, if_pos he, seg_empty]
theorem remC_last (x : UInt8) (l : List UInt8) (b : Nat) : remC x l b l.length = [seg l b l.length] := by
  unfold remC
  rw [if_pos (Nat.le_refl _), List.drop_length]
  rfl
theorem remC_over (x : UInt8) (l : List UInt8) (b : Nat) : remC x l b (l.length + 1) = [] := by
  unfold remC
  rw [if_neg (by omega)]

/-- Figures are figures. -/
theorem dec_mem (m : Nat) (x : UInt8) (h : x ∈ Lib.decDigits m) : 48 ≤ x.toNat ∧ x.toNat ≤ 57 := by
  obtain ⟨qs, h1, _, h3, _⟩ := dec_back m m (Nat.le_refl _)
  rw [h3, List.mem_map] at h
  obtain ⟨q, hq, rfl⟩ := h
  have := h1 q hq
  rw [digit_toNat q this]
  omega
theorem dec_no46 (m : Nat) : (46 : UInt8) ∉ Lib.decDigits m := fun h => by have := dec_mem m _ h; revert this; decide
theorem dec_no47 (m : Nat) : (47 : UInt8) ∉ Lib.decDigits m := fun h => by have := dec_mem m _ h; revert this; decide
theorem dec_inj (a b : Nat) (h : Lib.decDigits a = Lib.decDigits b) : a = b := by
  obtain ⟨qs, h1, _, h3, h4⟩ := dec_back a a (Nat.le_refl _)
  obtain ⟨rs, k1, _, k3, k4⟩ := dec_back b b (Nat.le_refl _)
  have e : ∀ l : List Nat, (∀ q ∈ l, q < 10) → (l.map fig).map (fun x => x.toNat - 48) = l := by
    intro l hl
    rw [List.map_map]
    refine (List.map_congr_left (g := id) fun q hq => ?_).trans (List.map_id l)
    show (fig q).toNat - 48 = q
    rw [digit_toNat q (hl q hq)]
    omega
  have hq : qs = rs := by rw [← e qs h1, ← e rs k1, ← h3, ← k3, h]
  rw [← h4, ← k4, hq]
theorem dec_ne (m : Nat) : Lib.decDigits m ≠ [] := by
  obtain ⟨qs, _, h2, h3, _⟩ := dec_back m m (Nat.le_refl _)
  rw [h3]
  simpa using h2

/-- The four numbers of an address, and its text. -/
def addrL (a : Nat) : List UInt8 := joinAt 46 [Lib.decDigits (a / 16777216), Lib.decDigits (a / 65536 % 256), Lib.decDigits (a / 256 % 256), Lib.decDigits (a % 256)]
def addrP (a : Nat) : ByteArray := ⟨(addrL a).toArray⟩
theorem cut_addr (a : Nat) : cutAt 46 [] (addrL a) = [Lib.decDigits (a / 16777216), Lib.decDigits (a / 65536 % 256), Lib.decDigits (a / 256 % 256), Lib.decDigits (a % 256)] := by
  refine cut_joinAt 46 _ (by simp) fun p hp => ?_
  simp only [List.mem_cons, List.not_mem_nil, or_false] at hp
  rcases hp with rfl | rfl | rfl | rfl <;> exact dec_no46 _
theorem addr_of (n0 n1 n2 n3 : Nat) (h1 : n1 < 256) (h2 : n2 < 256) (h3 : n3 < 256) : addrL (256 * (256 * (256 * n0 + n1) + n2) + n3) = joinAt 46 [Lib.decDigits n0, Lib.decDigits n1, Lib.decDigits n2, Lib.decDigits n3] := by
  unfold addrL
  have e0 : (256 * (256 * (256 * n0 + n1) + n2) + n3) / 16777216 = n0 := by omega
  have e1 : (256 * (256 * (256 * n0 + n1) + n2) + n3) / 65536 % 256 = n1 := by omega
  have e2 : (256 * (256 * (256 * n0 + n1) + n2) + n3) / 256 % 256 = n2 := by omega
  have e3 : (256 * (256 * (256 * n0 + n1) + n2) + n3) % 256 = n3 := by omega
  rw [e0, e1, e2, e3]
theorem addr_four (a : Nat) : 256 * (256 * (256 * (a / 16777216) + a / 65536 % 256) + a / 256 % 256) + a % 256 = a := by omega
theorem addrL_inj (a b : Nat) (h : addrL a = addrL b) : a = b := by
  have e := cut_addr a
  rw [h, cut_addr b] at e
  simp only [List.cons.injEq, and_true] at e
  have e0 := dec_inj _ _ e.1
  have e1 := dec_inj _ _ e.2.1
  have e2 := dec_inj _ _ e.2.2.1
  have e3 := dec_inj _ _ e.2.2.2
  rw [← addr_four a, ← addr_four b, e0, e1, e2, e3]
theorem addrP_inj (a b : Nat) (h : addrP a = addrP b) : a = b := by
  refine addrL_inj a b ?_
  have := congrArg (fun t : ByteArray => t.data.toList) h
  simpa [addrP] using this
theorem joinAt_four (x : UInt8) (a b c d : List UInt8) : joinAt x [a, b, c, d] = a ++ x :: (b ++ x :: (c ++ x :: d)) := by
  rw [joinAt_more _ _ _ (by simp), joinAt_more _ _ _ (by simp), joinAt_more _ _ _ (by simp), joinAt_one]
theorem joinAt_two (x : UInt8) (a b : List UInt8) : joinAt x [a, b] = a ++ x :: b := by
  rw [joinAt_more _ _ _ (by simp), joinAt_one]
theorem addrL_length (a : Nat) (h : a ≤ 4294967295) : (addrL a).length ≤ 15 := by
  unfold addrL
  rw [joinAt_four]
  have h0 := dec_length 3 (a / 16777216) (by omega) (by omega)
  have h1 := dec_length 3 (a / 65536 % 256) (by omega) (by omega)
  have h2 := dec_length 3 (a / 256 % 256) (by omega) (by omega)
  have h3 := dec_length 3 (a % 256) (by omega) (by omega)
  simp
  omega
theorem addrP_size (a : Nat) (h : a ≤ 4294967295) : (addrP a).size ≤ 15 := by
  show (addrL a).toArray.size ≤ 15
  rw [List.size_toArray]
  exact addrL_length a h
theorem addr_no47 (a : Nat) : (47 : UInt8) ∉ addrL a := by
  unfold addrL
  rw [joinAt_four]
  have h := dec_no47
  simp [h]
/-- Four parts that are numbers of one byte each make an address; else there is none. -/
theorem addr_parts (l : List UInt8) (p0 p1 p2 p3 : List UInt8) (hc : cutAt 46 [] l = [p0, p1, p2, p3]) (n0 n1 n2 n3 : Nat) (h0 : n0 < 256) (h1 : n1 < 256) (h2 : n2 < 256) (h3 : n3 < 256) (e0 : Lib.decDigits n0 = p0) (e1 : Lib.decDigits n1 = p1) (e2 : Lib.decDigits n2 = p2) (e3 : Lib.decDigits n3 = p3) :
    ∃ a, a ≤ 4294967295 ∧ l = addrL a ∧ a = 256 * (256 * (256 * n0 + n1) + n2) + n3 := by
  refine ⟨_, ?_, ?_, rfl⟩
  · omega
  · rw [addr_of n0 n1 n2 n3 h1 h2 h3, e0, e1, e2, e3, ← hc, joinAt_cut]
    rfl

/-- A prefix' text. -/
def prefL (a n : Nat) : List UInt8 := joinAt 47 [addrL a, Lib.decDigits n]
def prefP (a n : Nat) : ByteArray := ⟨(prefL a n).toArray⟩
theorem cut_pref (a n : Nat) : cutAt 47 [] (prefL a n) = [addrL a, Lib.decDigits n] := by
  refine cut_joinAt 47 _ (by simp) fun p hp => ?_
  simp only [List.mem_cons, List.not_mem_nil, or_false] at hp
  rcases hp with rfl | rfl
  · exact addr_no47 a
  · exact dec_no47 n
theorem prefL_inj (a n b m : Nat) (h : prefL a n = prefL b m) : a = b ∧ n = m := by
  have e := cut_pref a n
  rw [h, cut_pref b m] at e
  simp only [List.cons.injEq, and_true] at e
  exact ⟨(addrL_inj _ _ e.1).symm, (dec_inj _ _ e.2).symm⟩
theorem prefP_list (a n : Nat) : prefP a n = addrP a ++ (⟨#[47]⟩ ++ ⟨(Lib.decDigits n).toArray⟩) := by
  unfold prefP prefL addrP
  rw [joinAt_two]
  apply ByteArray.ext
  apply Array.ext'
  simp
theorem prefP_size (a n : Nat) (ha : a ≤ 4294967295) (hn : n ≤ 32) : (prefP a n).size ≤ 20 := by
  show (prefL a n).toArray.size ≤ 20
  rw [List.size_toArray]
  unfold prefL
  rw [joinAt_two]
  have h0 := addrL_length a ha
  have h1 := dec_length 3 n (by omega) (by omega)
  simp
  omega
/-- How many addresses a prefix has. -/
def sizeP (n : Nat) : Nat := 2 ^ (32 - n)
theorem sizeP_pos (n : Nat) : 1 ≤ sizeP n := Nat.one_le_two_pow
theorem sizeP_le (n : Nat) : sizeP n ≤ 4294967296 := Nat.pow_le_pow_right (n := 2) (by omega) (show 32 - n ≤ 32 by omega)
/-- The first address of the prefix. -/
def firstP (a n : Nat) : Nat := a - a % sizeP n
theorem firstP_le (a n : Nat) : firstP a n ≤ a := Nat.sub_le _ _
theorem firstP_mod (a n : Nat) : firstP a n % sizeP n = 0 := by
  unfold firstP
  have h := Nat.div_add_mod a (sizeP n)
  have e : a - a % sizeP n = sizeP n * (a / sizeP n) := by omega
  rw [e]
  exact Nat.mul_mod_right _ _
theorem firstP_first (a n : Nat) : firstP (firstP a n) n = firstP a n := by
  have h := firstP_mod a n
  show firstP a n - firstP a n % sizeP n = _
  rw [h]
  rfl

end Go.Proofs.YtmgdhlodifkematDoor
namespace Go.Proofs.YtmgdhlodifkematDoor
open Go.RowKit

/-- A sign of a way. -/
def SignW (x : UInt8) : Prop := (97 ≤ x.toNat ∧ x.toNat ≤ 122) ∨ (48 ≤ x.toNat ∧ x.toNat ≤ 57)
def WayP (s : ByteArray) : Prop := (∀ x ∈ s.data.toList, SignW x) ∧ 1 ≤ s.size ∧ s.size ≤ 8
/-- Right options. -/
structure OptP (z : Int) (ws : List ByteArray) : Prop where
  sizeR : 20 ≤ z ∧ z ≤ 60
  some1 : 1 ≤ ws.length
  few : ws.length ≤ 4
  way : ∀ x ∈ ws, WayP x
  apart : ws.Nodup
/-- One behind another: each is a way and none ahead of it is like it. -/
def WaysTo (ws : List ByteArray) (j : Nat) : Prop := ∀ i, (hi : i < ws.length) → i < j → WayP ws[i] ∧ ws[i] ∉ ws.take i
theorem ways_all {ws : List ByteArray} (h : WaysTo ws ws.length) : (∀ x ∈ ws, WayP x) ∧ ws.Nodup := by
  refine ⟨fun x hx => ?_, ?_⟩
  · obtain ⟨i, hi, rfl⟩ := List.getElem_of_mem hx
    exact (h i hi hi).1
  · refine List.pairwise_iff_getElem.2 fun i j hi hj hij he => ?_
    refine (h j hj hj).2 ?_
    rw [← he]
    exact List.mem_take_iff_getElem.2 ⟨i, by omega, rfl⟩
theorem ways_of {ws : List ByteArray} (hw : ∀ x ∈ ws, WayP x) (hd : ws.Nodup) : WaysTo ws ws.length := by
  intro i hi _
  refine ⟨hw _ (List.getElem_mem hi), fun hm => ?_⟩
  obtain ⟨k, hk, he⟩ := List.mem_take_iff_getElem.1 hm
  exact List.pairwise_iff_getElem.1 hd k i (by omega) hi (by omega) he
theorem optP_iff {z : Int} {ws : List ByteArray} : OptP z ws ↔ WaysTo ws ws.length ∧ (20 ≤ z ∧ z ≤ 60) ∧ (1 ≤ (ws.length : Int) ∧ (ws.length : Int) ≤ 4) :=
  ⟨fun h => ⟨ways_of h.way h.apart, h.sizeR, by have := h.some1; omega, by have := h.few; omega⟩, fun ⟨h1, h2, h3⟩ => ⟨h2, by omega, by omega, (ways_all h1).1, (ways_all h1).2⟩⟩
theorem ways_next {ws : List ByteArray} {j : Nat} (hj : j < ws.length) (h : WaysTo ws j) (h1 : WayP ws[j]) (h2 : ws[j] ∉ ws.take j) : WaysTo ws (j + 1) := by
  intro i hi hij
  rcases Nat.lt_or_ge i j with h3 | h3
  · exact h i hi h3
  · obtain rfl : i = j := by omega
    exact ⟨h1, h2⟩

/-- What two agree on: the first way of the one that is one of the other one's. -/
def AgreeIs (za : Int) (wa : List ByteArray) (pa : Bool) (zb : Int) (wb : List ByteArray) (pb : Bool) (rz : Int) (rw : List ByteArray) (rp ok : Bool) : Prop :=
  (ok = true ∧ OptP za wa ∧ OptP zb wb ∧ (∃ i, ∃ hi : i < wa.length, wa[i] ∈ wb ∧ (∀ k, (hk : k < wa.length) → k < i → wa[k] ∉ wb) ∧ rw = [wa[i]]) ∧ rz = (if zb < za then zb else za) ∧ rp = (pa && pb)) ∨
    (ok = false ∧ (OptP za wa → OptP zb wb → ∀ x ∈ wa, x ∉ wb) ∧ rz = 0 ∧ rw = [] ∧ rp = false)
theorem first_in (wb : List ByteArray) : ∀ wa : List ByteArray, (∀ x ∈ wa, x ∉ wb) ∨ ∃ i, ∃ hi : i < wa.length, wa[i] ∈ wb ∧ ∀ k, (hk : k < wa.length) → k < i → wa[k] ∉ wb
  | [] => .inl (by simp)
  | x :: l => by
    by_cases hx : x ∈ wb
    · exact .inr ⟨0, by simp, hx, fun k _ h => absurd h (by omega)⟩
    · rcases first_in wb l with h | ⟨i, hi, h1, h2⟩
      · refine .inl fun y hy => ?_
        rcases List.mem_cons.1 hy with rfl | hy
        · exact hx
        · exact h y hy
      · refine .inr ⟨i + 1, by simpa using hi, by simpa using h1, fun k hk hki => ?_⟩
        cases k with
        | zero => exact hx
        | succ k => exact h2 k (by simpa using hk) (by omega)
theorem agree_is (za : Int) (wa : List ByteArray) (pa : Bool) (zb : Int) (wb : List ByteArray) (pb : Bool) : ∃ rz rw rp ok, AgreeIs za wa pa zb wb pb rz rw rp ok := by
  by_cases h : OptP za wa ∧ OptP zb wb
  · rcases first_in wb wa with h1 | ⟨i, hi, h1, h2⟩
    · exact ⟨0, [], false, false, .inr ⟨rfl, fun _ _ => h1, rfl, rfl, rfl⟩⟩
    · exact ⟨_, _, _, true, .inl ⟨rfl, h.1, h.2, ⟨i, hi, h1, h2, rfl⟩, rfl, rfl⟩⟩
  · exact ⟨0, [], false, false, .inr ⟨rfl, fun a b => absurd ⟨a, b⟩ h, rfl, rfl, rfl⟩⟩
theorem agree_few {za : Int} {wa : List ByteArray} {pa : Bool} {zb : Int} {wb : List ByteArray} {pb : Bool} {rz : Int} {rw : List ByteArray} {rp ok : Bool} (h : AgreeIs za wa pa zb wb pb rz rw rp ok) : rw.length ≤ 1 := by
  rcases h with ⟨_, _, _, ⟨i, hi, _, _, rfl⟩, _⟩ | ⟨_, _, _, rfl, _⟩ <;> simp

end Go.Proofs.YtmgdhlodifkematDoor
