/-
  Plain mathematics of the parts of a line; no program is spoken of here.
  Plain mathematics of addresses and prefixes: texts cut at a sign and put together again, four numbers and one; no program is spoken of here.
-/
import Derived.WalkKit
import Derived.Lib.Fields
import Derived.Test.YtmgdhlodifkemasJ01
import Derived.Test.YtmgdhlodifkemasJ02
namespace Go.Proofs.Ytmgdhlodifkemas

def Plain (b : UInt8) : Prop := 32 ≤ b.toNat ∧ b.toNat ≤ 126

/-- What stands from b on, up to i. -/
def seg (l : List UInt8) (b i : Nat) : List UInt8 := (l.drop b).take (i - b)

/-- What is still to come of the parts. -/
def rem (l : List UInt8) (b i : Nat) : List (List UInt8) := if i ≤ l.length then Lib.fieldsGo (seg l b i) (l.drop i) else []

theorem isSp_plain (b : UInt8) (h : Plain b) : Lib.isSp b = decide (b.toNat = 32) := by
  have hne : ∀ n : UInt8, n.toNat < 32 → (b == n) = false := by
    intro n hn
    rw [beq_eq_false_iff_ne]
    intro e
    have := h.1
    rw [e] at this
    omega
  unfold Lib.isSp
  rw [hne 9 (by decide), hne 10 (by decide), hne 11 (by decide), hne 12 (by decide), hne 13 (by decide)]
  simp only [Bool.false_or]
  by_cases e : b = 32
  · subst e; rfl
  · have h1 : (b == 32) = false := by rw [beq_eq_false_iff_ne]; exact e
    rw [h1, decide_eq_false]
    intro h2
    exact e (UInt8.toNat_inj.1 h2)

theorem rem_start (l : List UInt8) : rem l 0 0 = Lib.fields l := by
  unfold rem seg Lib.fields
  rw [if_pos (Nat.zero_le _)]
  simp

theorem seg_empty (l : List UInt8) (i : Nat) : seg l i i = [] := by simp [seg]

theorem seg_snoc (l : List UInt8) (b i : Nat) (hb : b ≤ i) (h : i < l.length) : seg l b (i + 1) = seg l b i ++ [l[i]] := by
  unfold seg
  have e : i + 1 - b = (i - b) + 1 := by omega
  have hl : i - b < (l.drop b).length := by simp; omega
  rw [e, List.take_succ_eq_append_getElem hl]
  have e2 : (l.drop b)[i - b] = l[i] := by
    rw [List.getElem_drop]
    congr 1
    omega
  rw [e2]

theorem seg_ne (l : List UInt8) (b i : Nat) (hb : b < i) (h : i ≤ l.length) : seg l b i ≠ [] := by
  intro e
  have := congrArg List.length e
  unfold seg at this
  simp at this
  omega

theorem rem_more (l : List UInt8) (b i : Nat) (hb : b ≤ i) (h : i < l.length) (hp : Plain l[i]) (hs : l[i].toNat ≠ 32) : rem l b i = rem l b (i + 1) := by
  unfold rem
  rw [if_pos (by omega), if_pos (by omega), List.drop_eq_getElem_cons h, Lib.fieldsGo_more _ _ _ (by rw [isSp_plain _ hp]; exact decide_eq_false hs), seg_snoc l b i hb h]

theorem rem_part (l : List UInt8) (b i : Nat) (hb : b < i) (h : i < l.length) (hp : Plain l[i]) (hs : l[i].toNat = 32) : rem l b i = seg l b i :: rem l (i + 1) (i + 1) := by
  unfold rem
  rw [if_pos (by omega), if_pos (by omega), List.drop_eq_getElem_cons h, Lib.fieldsGo_end _ _ _ (by rw [isSp_plain _ hp]; exact decide_eq_true hs) (seg_ne l b i hb (by omega)), seg_empty]

theorem rem_blank (l : List UInt8) (i : Nat) (h : i < l.length) (hp : Plain l[i]) (hs : l[i].toNat = 32) : rem l i i = rem l (i + 1) (i + 1) := by
  unfold rem
  rw [if_pos (by omega), if_pos (by omega), List.drop_eq_getElem_cons h, seg_empty, Lib.fieldsGo_sp _ _ (by rw [isSp_plain _ hp]; exact decide_eq_true hs), seg_empty]

theorem rem_last (l : List UInt8) (b : Nat) (hb : b < l.length) : rem l b l.length = [seg l b l.length] := by
  unfold rem
  rw [if_pos (Nat.le_refl _), List.drop_of_length_le (Nat.le_refl _)]
  have h := seg_ne l b l.length hb (Nat.le_refl _)
  unfold Lib.fieldsGo
  rw [if_neg (by rw [List.isEmpty_iff]; exact h)]

theorem rem_none (l : List UInt8) : rem l l.length l.length = [] := by
  unfold rem
  rw [if_pos (Nat.le_refl _), List.drop_of_length_le (Nat.le_refl _), seg_empty]
  rfl

theorem rem_over (l : List UInt8) (b : Nat) : rem l b (l.length + 1) = [] := by
  unfold rem
  rw [if_neg (by omega)]

theorem fieldsGo_le : ∀ (l cur : List UInt8), ∀ f ∈ Lib.fieldsGo cur l, f.length ≤ cur.length + l.length
  | [], cur, f, h => by
    unfold Lib.fieldsGo at h
    split at h
    · simp at h
    · simp at h
      subst h
      simp
  | b :: l, cur, f, h => by
    unfold Lib.fieldsGo at h
    split at h
    · split at h
      · have := fieldsGo_le l [] f h
        simp at this ⊢
        omega
      · rcases List.mem_cons.1 h with rfl | h
        · exact Nat.le_add_right _ _
        · have := fieldsGo_le l [] f h
          simp at this ⊢
          omega
    · have := fieldsGo_le l (cur ++ [b]) f h
      simp at this ⊢
      omega

theorem cnt_le : ∀ (l : List UInt8) (ws : Bool), Lib.cntF ws l ≤ l.length
  | [], _ => by simp [Lib.cntF]
  | b :: l, ws => by
    have := cnt_le l (Lib.isSp b)
    simp only [Lib.cntF, List.length_cons]
    split <;> omega

theorem fields_le (l : List UInt8) (i : Nat) : ((Lib.fields l).getD i []).length ≤ l.length := by
  by_cases h : i < (Lib.fields l).length
  · have h1 := fieldsGo_le l [] ((Lib.fields l)[i]) (List.getElem_mem h)
    have e : (Lib.fields l).getD i [] = (Lib.fields l)[i] := by simp [h]
    rw [e]
    simpa using h1
  · have e : (Lib.fields l).getD i [] = [] := by simp [List.getElem?_eq_none (by omega : (Lib.fields l).length ≤ i)]
    rw [e]
    simp

/-- All bytes are plain, or there is a first one that is not. -/
theorem plain_or (l : List UInt8) : (∀ i (h : i < l.length), Plain l[i]) ∨ ∃ J, ∃ hJ : J < l.length, (∀ i (h : i < J), Plain (l[i]'(by omega))) ∧ ¬ Plain l[J] := by
  induction l with
  | nil => left; intro i h; simp at h
  | cons b l ih =>
    by_cases hb : 32 ≤ b.toNat ∧ b.toNat ≤ 126
    · rcases ih with h | ⟨J, hJ, h1, h2⟩
      · left
        intro i hi
        cases i with
        | zero => exact hb
        | succ i => exact h i (by simpa using hi)
      · right
        refine ⟨J + 1, by simpa using hJ, ?_, h2⟩
        intro i hi
        cases i with
        | zero => exact hb
        | succ i => exact h1 i (by omega)
    · right
      exact ⟨0, by simp, by intro i hi; omega, hb⟩

end Go.Proofs.Ytmgdhlodifkemas
namespace Go.Proofs.Ytmgdhlodifkemas
open Go.RowKit

/-- A text cut at every sign x; cur is what stands ahead. -/
def cutAt (x : UInt8) : List UInt8 → List UInt8 → List (List UInt8)
  | cur, [] => [cur]
  | cur, b :: l => if b = x then cur :: cutAt x [] l else cutAt x (cur ++ [b]) l
/-- Parts put together, x between. -/
def joinAt (x : UInt8) : List (List UInt8) → List UInt8
  | [] => []
  | p :: t => if t = [] then p else p ++ x :: joinAt x t
theorem joinAt_one (x : UInt8) (p : List UInt8) : joinAt x [p] = p := by simp [joinAt]
theorem joinAt_more (x : UInt8) (p : List UInt8) (t : List (List UInt8)) (h : t ≠ []) : joinAt x (p :: t) = p ++ x :: joinAt x t := by simp [joinAt, h]
theorem cutAt_ne (x : UInt8) : ∀ (l cur : List UInt8), cutAt x cur l ≠ []
  | [], cur => by simp [cutAt]
  | b :: l, cur => by
    unfold cutAt
    split
    · simp
    · exact cutAt_ne x l _
/-- What is cut, put together again, is what it was. -/
theorem joinAt_cut (x : UInt8) : ∀ (l cur : List UInt8), joinAt x (cutAt x cur l) = cur ++ l
  | [], cur => by simp [cutAt, joinAt_one]
  | b :: l, cur => by
    unfold cutAt
    split
    · next h => rw [joinAt_more x _ _ (cutAt_ne x l []), joinAt_cut x l [], h]; rfl
    · rw [joinAt_cut x l _, List.append_assoc]; rfl
theorem cutAt_last (x : UInt8) : ∀ (p cur : List UInt8), x ∉ p → cutAt x cur p = [cur ++ p]
  | [], cur, _ => by simp [cutAt]
  | b :: p, cur, h => by
    unfold cutAt
    rw [if_neg (fun e => h (by rw [e]; exact List.mem_cons_self)), cutAt_last x p _ (fun e => h (List.mem_cons_of_mem _ e)), List.append_assoc]
    rfl
theorem cutAt_cons (x b : UInt8) (l cur : List UInt8) : cutAt x cur (b :: l) = if b = x then cur :: cutAt x [] l else cutAt x (cur ++ [b]) l := rfl
theorem cutAt_part (x : UInt8) (r : List UInt8) : ∀ (p cur : List UInt8), x ∉ p → cutAt x cur (p ++ x :: r) = (cur ++ p) :: cutAt x [] r
  | [], cur, _ => by simp [cutAt]
  | b :: p, cur, h => by
    rw [List.cons_append, cutAt_cons, if_neg (fun e => h (by rw [e]; exact List.mem_cons_self)), cutAt_part x r p _ (fun e => h (List.mem_cons_of_mem _ e)), List.append_assoc]
    rfl
/-- Parts without x, put together and cut. -/
theorem cut_joinAt (x : UInt8) : ∀ (ps : List (List UInt8)), ps ≠ [] → (∀ p ∈ ps, x ∉ p) → cutAt x [] (joinAt x ps) = ps
  | [], h, _ => absurd rfl h
  | [p], _, hp => by rw [joinAt_one, cutAt_last x p [] (hp p (by simp))]; rfl
  | p :: q :: t, _, hp => by
    rw [joinAt_more x p (q :: t) (by simp), cutAt_part x _ p [] (hp p (by simp)), cut_joinAt x (q :: t) (by simp) (fun y hy => hp y (List.mem_cons_of_mem _ hy))]
    rfl
theorem cutAt_count (x : UInt8) : ∀ (l cur : List UInt8), (cutAt x cur l).length ≤ l.length + 1
  | [], cur => by simp [cutAt]
  | b :: l, cur => by
    unfold cutAt
    split
    · have := cutAt_count x l []
      simp
      omega
    · have := cutAt_count x l (cur ++ [b])
      simp
      omega
/-- What is still to come where a part began at b and i is looked at. -/
def remC (x : UInt8) (l : List UInt8) (b i : Nat) : List (List UInt8) := if i ≤ l.length then cutAt x (seg l b i) (l.drop i) else []
theorem remC_start (x : UInt8) (l : List UInt8) : remC x l 0 0 = cutAt x [] l := by simp [remC, seg]
theorem remC_more (x : UInt8) (l : List UInt8) (b i : Nat) (hb : b ≤ i) (h : i < l.length) (hne : l[i] ≠ x) : remC x l b i = remC x l b (i + 1) := by
  unfold remC
  rw [if_pos (by omega), if_pos (by omega), List.drop_eq_getElem_cons h, cutAt, if_neg hne, seg_snoc l b i hb h]
theorem remC_part (x : UInt8) (l : List UInt8) (b i : Nat) (h : i < l.length) (he : l[i] = x) : remC x l b i = seg l b i :: remC x l (i + 1) (i + 1) := by
  unfold remC
  rw [if_pos (by omega), if_pos (by omega), List.drop_eq_getElem_cons h, cutAt, if_pos he, seg_empty]
theorem remC_last (x : UInt8) (l : List UInt8) (b : Nat) : remC x l b l.length = [seg l b l.length] := by
  unfold remC
  rw [if_pos (Nat.le_refl _), List.drop_length]
  rfl
theorem remC_over (x : UInt8) (l : List UInt8) (b : Nat) : remC x l b (l.length + 1) = [] := by
  unfold remC
  rw [if_neg (by omega)]

/-- Figures are figures. -/
theorem dec_mem (m : Nat) (x : UInt8) (h : x ∈ Lib.decDigits m) : 48 ≤ x.toNat ∧ x.toNat ≤ 57 := by
  obtain ⟨qs, h1, _, h3, _⟩ := dec_back m m (Nat.le_refl _)
  rw [h3, List.mem_map] at h
  obtain ⟨q, hq, rfl⟩ := h
  have := h1 q hq
  rw [digit_toNat q this]
  omega
theorem dec_no46 (m : Nat) : (46 : UInt8) ∉ Lib.decDigits m := fun h => by have := dec_mem m _ h; revert this; decide
theorem dec_no47 (m : Nat) : (47 : UInt8) ∉ Lib.decDigits m := fun h => by have := dec_mem m _ h; revert this; decide
theorem dec_inj (a b : Nat) (h : Lib.decDigits a = Lib.decDigits b) : a = b := by
  obtain ⟨qs, h1, _, h3, h4⟩ := dec_back a a (Nat.le_refl _)
  obtain ⟨rs, k1, _, k3, k4⟩ := dec_back b b (Nat.le_refl _)
  have e : ∀ l : List Nat, (∀ q ∈ l, q < 10) → (l.map fig).map (fun x => x.toNat - 48) = l := by
    intro l hl
    rw [List.map_map]
    refine (List.map_congr_left (g := id) fun q hq => ?_).trans (List.map_id l)
    show (fig q).toNat - 48 = q
    rw [digit_toNat q (hl q hq)]
    omega
  have hq : qs = rs := by rw [← e qs h1, ← e rs k1, ← h3, ← k3, h]
  rw [← h4, ← k4, hq]
theorem dec_ne (m : Nat) : Lib.decDigits m ≠ [] := by
  obtain ⟨qs, _, h2, h3, _⟩ := dec_back m m (Nat.le_refl _)
  rw [h3]
  simpa using h2

/-- The four numbers of an address, and its text. -/
def addrL (a : Nat) : List UInt8 := joinAt 46 [Lib.decDigits (a / 16777216), Lib.decDigits (a / 65536 % 256), Lib.decDigits (a / 256 % 256), Lib.decDigits (a % 256)]
def addrP (a : Nat) : ByteArray := ⟨(addrL a).toArray⟩
theorem cut_addr (a : Nat) : cutAt 46 [] (addrL a) = [Lib.decDigits (a / 16777216), Lib.decDigits (a / 65536 % 256), Lib.decDigits (a / 256 % 256), Lib.decDigits (a % 256)] := by
  refine cut_joinAt 46 _ (by simp) fun p hp => ?_
  simp only [List.mem_cons, List.not_mem_nil, or_false] at hp
  rcases hp with rfl | rfl | rfl | rfl <;> exact dec_no46 _
theorem addr_of (n0 n1 n2 n3 : Nat) (h1 : n1 < 256) (h2 : n2 < 256) (h3 : n3 < 256) : addrL (256 * (256 * (256 * n0 + n1) + n2) + n3) = joinAt 46 [Lib.decDigits n0, Lib.decDigits n1, Lib.decDigits n2, Lib.decDigits n3] := by
  unfold addrL
  have e0 : (256 * (256 * (256 * n0 + n1) + n2) + n3) / 16777216 = n0 := by omega
  have e1 : (256 * (256 * (256 * n0 + n1) + n2) + n3) / 65536 % 256 = n1 := by omega
  have e2 : (256 * (256 * (256 * n0 + n1) + n2) + n3) / 256 % 256 = n2 := by omega
  have e3 : (256 * (256 * (256 * n0 + n1) + n2) + n3) % 256 = n3 := by omega
  rw [e0, e1, e2, e3]
theorem addr_four (a : Nat) : 256 * (256 * (256 * (a / 16777216) + a / 65536 % 256) + a / 256 % 256) + a % 256 = a := by omega
theorem addrL_inj (a b : Nat) (h : addrL a = addrL b) : a = b := by
  have e := cut_addr a
  rw [h, cut_addr b] at e
  simp only [List.cons.injEq, and_true] at e
  have e0 := dec_inj _ _ e.1
  have e1 := dec_inj _ _ e.2.1
  have e2 := dec_inj _ _ e.2.2.1
  have e3 := dec_inj _ _ e.2.2.2
  rw [← addr_four a, ← addr_four b, e0, e1, e2, e3]
theorem addrP_inj (a b : Nat) (h : addrP a = addrP b) : a = b := by
  refine addrL_inj a b ?_
  have := congrArg (fun t : ByteArray => t.data.toList) h
  simpa [addrP] using this
theorem joinAt_four (x : UInt8) (a b c d : List UInt8) : joinAt x [a, b, c, d] = a ++ x :: (b ++ x :: (c ++ x :: d)) := by
  rw [joinAt_more _ _ _ (by simp), joinAt_more _ _ _ (by simp), joinAt_more _ _ _ (by simp), joinAt_one]
theorem joinAt_two (x : UInt8) (a b : List UInt8) : joinAt x [a, b] = a ++ x :: b := by
  rw [joinAt_more _ _ _ (by simp), joinAt_one]
theorem addrL_length (a : Nat) (h : a ≤ 4294967295) : (addrL a).length ≤ 15 := by
  unfold addrL
  rw [joinAt_four]
  have h0 := dec_length 3 (a / 16777216) (by omega) (by omega)
  have h1 := dec_length 3 (a / 65536 % 256) (by omega) (by omega)
  have h2 := dec_length 3 (a / 256 % 256) (by omega) (by omega)
  have h3 := dec_length 3 (a % 256) (by omega) (by omega)
  simp
  omega
theorem addrP_size (a : Nat) (h : a ≤ 4294967295) : (addrP a).size ≤ 15 := by
  show (addrL a).toArray.size ≤ 15
  rw [List.size_toArray]
  exact addrL_length a h
theorem addr_no47 (a : Nat) : (47 : UInt8) ∉ addrL a := by
  unfold addrL
  rw [joinAt_four]
  have h := dec_no47
  simp [h]
/-- Four parts that are numbers of one byte each make an address; else there is none. -/
theorem addr_parts (l : List UInt8) (p0 p1 p2 p3 : List UInt8) (hc : cutAt 46 [] l = [p0, p1, p2, p3]) (n0 n1 n2 n3 : Nat) (h0 : n0 < 256) (h1 : n1 < 256) (h2 : n2 < 256) (h3 : n3 < 256) (e0 : Lib.decDigits n0 = p0) (e1 : Lib.decDigits n1 = p1) (e2 : Lib.decDigits n2 = p2) (e3 : Lib.decDigits n3 = p3) :
    ∃ a, a ≤ 4294967295 ∧ l = addrL a ∧ a = 256 * (256 * (256 * n0 + n1) + n2) + n3 := by
  refine ⟨_, ?_, ?_, rfl⟩
  · omega
  · rw [addr_of n0 n1 n2 n3 h1 h2 h3, e0, e1, e2, e3, ← hc, joinAt_cut]
    rfl

/-- A prefix' text. -/
def prefL (a n : Nat) : List UInt8 := joinAt 47 [addrL a, Lib.decDigits n]
def prefP (a n : Nat) : ByteArray := ⟨(prefL a n).toArray⟩
theorem cut_pref (a n : Nat) : cutAt 47 [] (prefL a n) = [addrL a, Lib.decDigits n] := by
  refine cut_joinAt 47 _ (by simp) fun p hp => ?_
  simp only [List.mem_cons, List.not_mem_nil, or_false] at hp
  rcases hp with rfl | rfl
  · exact addr_no47 a
  · exact dec_no47 n
theorem prefL_inj (a n b m : Nat) (h : prefL a n = prefL b m) : a = b ∧ n = m := by
  have e := cut_pref a n
  rw [h, cut_pref b m] at e
  simp only [List.cons.injEq, and_true] at e
  exact ⟨(addrL_inj _ _ e.1).symm, (dec_inj _ _ e.2).symm⟩
theorem prefP_list (a n : Nat) : prefP a n = addrP a ++ (⟨#[47]⟩ ++ ⟨(Lib.decDigits n).toArray⟩) := by
  unfold prefP prefL addrP
  rw [joinAt_two]
  apply ByteArray.ext
  apply Array.ext'
  simp
theorem prefP_size (a n : Nat) (ha : a ≤ 4294967295) (hn : n ≤ 32) : (prefP a n).size ≤ 20 := by
  show (prefL a n).toArray.size ≤ 20
  rw [List.size_toArray]
  unfold prefL
  rw [joinAt_two]
  have h0 := addrL_length a ha
  have h1 := dec_length 3 n (by omega) (by omega)
  simp
  omega
/-- How many addresses a prefix has. -/
def sizeP (n : Nat) : Nat := 2 ^ (32 - n)
theorem sizeP_pos (n : Nat) : 1 ≤ sizeP n := Nat.one_le_two_pow
theorem sizeP_le (n : Nat) : sizeP n ≤ 4294967296 := Nat.pow_le_pow_right (n := 2) (by omega) (show 32 - n ≤ 32 by omega)
/-- The first address of the prefix. -/
def firstP (a n : Nat) : Nat := a - a % sizeP n
theorem firstP_le (a n : Nat) : firstP a n ≤ a := Nat.sub_le _ _
theorem firstP_mod (a n : Nat) : firstP a n % sizeP n = 0 := by
  unfold firstP
  have h := Nat.div_add_mod a (sizeP n)
  have e : a - a % sizeP n = sizeP n * (a / sizeP n) := by omega
  rw [e]
  exact Nat.mul_mod_right _ _
theorem firstP_first (a n : Nat) : firstP (firstP a n) n = firstP a n := by
  have h := firstP_mod a n
  show firstP a n - firstP a n % sizeP n = _
  rw [h]
  rfl

end Go.Proofs.Ytmgdhlodifkemas
