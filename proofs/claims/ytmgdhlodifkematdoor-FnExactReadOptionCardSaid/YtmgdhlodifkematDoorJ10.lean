/-
  Plain mathematics of figures taken two by two; no program is spoken of here.
  Plain mathematics: numbers and texts come back from their bytes and figures; no program is spoken of here.
  Plain mathematics of the parts of a line; no program is spoken of here.
-/
import Derived.Test.YtmgdhlodifkematDoorJ09
import Derived.WalkKit
import Derived.Lib.Fields
namespace Go.Proofs.YtmgdhlodifkematDoor

/-- What a byte is worth as a figure; -1 when it is none. -/
def worthI (x : UInt8) : Int := if 48 ≤ x.toNat ∧ x.toNat ≤ 57 then (x.toNat : Int) - 48 else if 97 ≤ x.toNat ∧ x.toNat ≤ 102 then (x.toNat : Int) - 87 else -1

theorem worthI_bd (x : UInt8) : -1 ≤ worthI x ∧ worthI x ≤ 15 := by
  unfold worthI
  split
  · omega
  · split <;> omega

theorem worthI_fig (q : Nat) (h : q < 16) : worthI (fig q) = q := by
  unfold worthI
  rw [fig_toNat q h]
  by_cases h1 : q < 10
  · rw [if_pos h1, if_pos (by omega)]; omega
  · rw [if_neg h1, if_neg (by omega), if_pos (by omega)]; omega

theorem fig_of (x : UInt8) (q : Nat) (h : q < 16) (e : (if q < 10 then 48 + q else 87 + q) = x.toNat) : fig q = x := by
  apply UInt8.toNat_inj.1
  rw [fig_toNat q h, e]

theorem worthI_none (x : UInt8) (h : ∀ q, q < 16 → fig q ≠ x) : worthI x = -1 := by
  unfold worthI
  by_cases h1 : 48 ≤ x.toNat ∧ x.toNat ≤ 57
  · exact absurd (fig_of x (x.toNat - 48) (by omega) (by rw [if_pos (by omega)]; omega)) (h _ (by omega))
  · rw [if_neg h1]
    by_cases h2 : 97 ≤ x.toNat ∧ x.toNat ≤ 102
    · exact absurd (fig_of x (x.toNat - 87) (by omega) (by rw [if_neg (by omega)]; omega)) (h _ (by omega))
    · rw [if_neg h2]

/-- The bytes that figures make, two by two. -/
def pairs : List Nat → List UInt8
  | a :: b :: r => UInt8.ofNat (16 * a + b) :: pairs r
  | _ => []

theorem pairs_snoc : ∀ (k : Nat) (qs : List Nat), 2 * k + 1 < qs.length → pairs (qs.take (2 * k + 2)) = pairs (qs.take (2 * k)) ++ [UInt8.ofNat (16 * qs.getD (2 * k) 0 + qs.getD (2 * k + 1) 0)]
  | 0, a :: b :: r, _ => rfl
  | 0, [], h => by simp at h
  | 0, [a], h => by simp at h
  | k + 1, [], h => by simp at h
  | k + 1, [a], h => by simp at h
  | k + 1, a :: b :: r, h => by
    have ih := pairs_snoc k r (by simp at h; omega)
    have e1 : 2 * (k + 1) + 2 = (2 * k + 2) + 1 + 1 := by omega
    have e2 : 2 * (k + 1) = 2 * k + 1 + 1 := by omega
    rw [e1, List.take_succ_cons, List.take_succ_cons]
    show UInt8.ofNat (16 * a + b) :: pairs (r.take (2 * k + 2)) = _
    rw [ih, e2, List.take_succ_cons, List.take_succ_cons]
    rfl

theorem pairs_length : ∀ (k : Nat) (qs : List Nat), 2 * k ≤ qs.length → (pairs (qs.take (2 * k))).length = k
  | 0, _, _ => by simp [pairs]
  | k + 1, qs, h => by
    have ih := pairs_length k qs (by omega)
    have := pairs_snoc k qs (by omega)
    have e : 2 * (k + 1) = 2 * k + 2 := by omega
    rw [e, this, List.length_append, ih]
    rfl

theorem pairs_next (qs : List Nat) (i : Nat) (he : i % 2 = 0) (h : i + 1 < qs.length) : pairs (qs.take (i + 2)) = pairs (qs.take i) ++ [UInt8.ofNat (16 * qs.getD i 0 + qs.getD (i + 1) 0)] := by
  have e : i = 2 * (i / 2) := by omega
  have := pairs_snoc (i / 2) qs (by omega)
  rw [← e] at this
  exact this

theorem pairs_le (qs : List Nat) (i : Nat) (he : i % 2 = 0) (h : i ≤ qs.length) : (pairs (qs.take i)).length ≤ i := by
  have e : i = 2 * (i / 2) := by omega
  have := pairs_length (i / 2) qs (by omega)
  rw [← e] at this
  omega

theorem getD_mem (qs : List Nat) (i : Nat) (h : i < qs.length) : qs.getD i 0 ∈ qs := by
  rw [List.getD_eq_getElem?_getD, List.getElem?_eq_getElem h]
  exact List.getElem_mem h

/-- The byte at a place of a text that is figures and then something else. -/
theorem worth_at (s : ByteArray) (qs : List Nat) (tail : List UInt8) (h1 : ∀ q ∈ qs, q < 16) (h2 : s.data.toList = qs.map fig ++ tail) (i : Nat) (hi : i < s.size) (h : i < qs.length) : worthI s[i] = qs.getD i 0 := by
  rw [byte_at s i hi _ (by rw [h2]; exact at_fig qs tail i h)]
  exact worthI_fig _ (h1 _ (getD_mem qs i h))

theorem worth_end (s : ByteArray) (qs : List Nat) (tail : List UInt8) (h2 : s.data.toList = qs.map fig ++ tail) (h3 : ∀ x r, tail = x :: r → ∀ q, q < 16 → fig q ≠ x) (hi : qs.length < s.size) : worthI (s[qs.length]'hi) = -1 := by
  have hl := congrArg List.length h2
  cases ht : tail with
  | nil => rw [ht] at hl; simp at hl; omega
  | cons x r =>
    rw [byte_at s qs.length hi x (by rw [h2, ht]; exact at_tail qs x r)]
    exact worthI_none x (h3 x r ht)

end Go.Proofs.YtmgdhlodifkematDoor
namespace Go.Proofs.YtmgdhlodifkematDoor

theorem var_formed : ∀ (f n : Nat), n ≤ f → ∃ (ys : List UInt8) (z : UInt8), var n = ys ++ [z] ∧ (∀ y ∈ ys, 128 ≤ y.toNat) ∧ z.toNat < 128 ∧ (ys = [] ∨ z.toNat ≠ 0) ∧ val (ys ++ [z]) = n
  | f, n, hf => by
    by_cases h : n ≤ 127
    · refine ⟨[], UInt8.ofNat n, by rw [var_small n h]; rfl, by simp, ?_, .inl rfl, ?_⟩
      · rw [UInt8.toNat_ofNat', Nat.mod_eq_of_lt (by omega)]; omega
      · simp only [List.nil_append, val, UInt8.toNat_ofNat']
        rw [Nat.mod_eq_of_lt (by omega : n < 2 ^ 8)]
        omega
    · match f, hf with
      | 0, hf => omega
      | f + 1, hf =>
        obtain ⟨ys, z, h1, h2, h3, h4, h5⟩ := var_formed f (n / 128) (by omega)
        have hb : (UInt8.ofNat (n % 128 + 128)).toNat = n % 128 + 128 := by rw [UInt8.toNat_ofNat', Nat.mod_eq_of_lt (by omega)]
        refine ⟨UInt8.ofNat (n % 128 + 128) :: ys, z, by rw [var_great n (by omega), h1]; rfl, ?_, h3, .inr ?_, ?_⟩
        · intro y hy
          rcases List.mem_cons.1 hy with rfl | hy
          · omega
          · exact h2 y hy
        · rcases h4 with rfl | h4
          · simp only [List.nil_append, val] at h5
            omega
          · exact h4
        · show (UInt8.ofNat (n % 128 + 128)).toNat % 128 + 128 * val (ys ++ [z]) = n
          rw [hb, h5]
          omega

theorem var_len : ∀ (m n : Nat), n < 128 ^ (m + 1) → (var n).length ≤ m + 1
  | 0, n, h => by rw [var_small n (by omega)]; simp
  | m + 1, n, h => by
    by_cases hs : n ≤ 127
    · rw [var_small n hs]; simp
    · rw [var_great n (by omega), List.length_cons]
      have := var_len m (n / 128) (by rw [Nat.div_lt_iff_lt_mul (by omega)]; rw [Nat.pow_succ] at h; exact h)
      omega

theorem low_of : ∀ (f : Nat) (ys : List UInt8) (z : UInt8) (r : List UInt8), (∀ y ∈ ys, 128 ≤ y.toNat) → z.toNat < 128 → ys.length < f → low f (ys ++ z :: r) = some ys.length
  | 0, _, _, _, _, _, h => by omega
  | f + 1, [], z, r, _, hz, _ => by simp [low, hz]
  | f + 1, y :: ys, z, r, hy, hz, hl => by
    have h1 := hy y (by simp)
    have h2 := low_of f ys z r (fun x hx => hy x (by simp [hx])) hz (by simp at hl; omega)
    show (if y.toNat < 128 then some 0 else (low f (ys ++ z :: r)).map (· + 1)) = _
    rw [if_neg (by omega), h2]
    rfl

/-- The bytes of a number, whatever follows them: where they end, and what they say. -/
theorem var_read (n : Nat) (h : n ≤ 1000000000) (r : List UInt8) : ∃ k, low 5 (var n ++ r) = some k ∧ k + 1 = (var n).length ∧ val ((var n ++ r).take (k + 1)) = n ∧ (k = 0 ∨ ((var n ++ r).getD k 0).toNat ≠ 0) := by
  obtain ⟨ys, z, h1, h2, h3, h4, h5⟩ := var_formed n n (Nat.le_refl _)
  have hl := var_len 4 n (by have : (128 : Nat) ^ 5 = 34359738368 := by decide
                             omega)
  rw [h1] at hl
  simp at hl
  refine ⟨ys.length, ?_, by rw [h1]; simp, ?_, ?_⟩
  · rw [h1, List.append_assoc]
    exact low_of 5 ys z r h2 h3 (by omega)
  · rw [List.take_append_of_le_length (by rw [h1]; simp), h1, List.take_of_length_le (by simp), h5]
  · rcases h4 with rfl | h4
    · exact .inl rfl
    · right
      rw [h1]
      simp
      exact fun e => h4 (by simp [e])

theorem hex_back : ∀ (l : List UInt8), ∃ qs : List Nat, (∀ q ∈ qs, q < 16) ∧ hexOf l = qs.map fig ∧ pairs qs = l
  | [] => ⟨[], by simp, rfl, rfl⟩
  | b :: l => by
    obtain ⟨qs, h1, h2, h3⟩ := hex_back l
    have hb := b.toNat_lt
    refine ⟨b.toNat / 16 :: b.toNat % 16 :: qs, ?_, ?_, ?_⟩
    · intro q hq
      rcases List.mem_cons.1 hq with rfl | hq
      · omega
      · rcases List.mem_cons.1 hq with rfl | hq
        · omega
        · exact h1 q hq
    · show fig (b.toNat / 16) :: fig (b.toNat % 16) :: hexOf l = _
      rw [h2]
      rfl
    · show UInt8.ofNat (16 * (b.toNat / 16) + b.toNat % 16) :: pairs qs = b :: l
      rw [h3, Nat.div_add_mod, ofNat_self]

theorem dec_back : ∀ (f m : Nat), m ≤ f → ∃ qs : List Nat, (∀ q ∈ qs, q < 10) ∧ qs ≠ [] ∧ Lib.decDigits m = qs.map fig ∧ valD qs = m
  | f, m, hf => by
    by_cases h : m < 10
    · refine ⟨[m], by simpa using h, by simp, ?_, by simp [valD, valR]⟩
      rw [Lib.decDigits_one h]
      simp [fig, h]
    · match f, hf with
      | 0, hf => omega
      | f + 1, hf =>
        obtain ⟨qs, h1, h2, h3, h4⟩ := dec_back f (m / 10) (by omega)
        refine ⟨qs ++ [m % 10], ?_, by simp, ?_, ?_⟩
        · intro q hq
          rcases List.mem_append.1 hq with hq | hq
          · exact h1 q hq
          · simp at hq
            omega
        · rw [← digs_pos m (by omega), digs_step m (by omega), digs_pos (m / 10) (by omega), h3]
          simp
        · rw [valD_snoc, h4]
          omega

end Go.Proofs.YtmgdhlodifkematDoor
namespace Go.Proofs.YtmgdhlodifkematDoor

def Plain (b : UInt8) : Prop := 32 ≤ b.toNat ∧ b.toNat ≤ 126

/-- What stands from b on, up to i. -/
def seg (l : List UInt8) (b i : Nat) : List UInt8 := (l.drop b).take (i - b)

/-- What is still to come of the parts. -/
def rem (l : List UInt8) (b i : Nat) : List (List UInt8) := if i ≤ l.length then Lib.fieldsGo (seg l b i) (l.drop i) else []

theorem isSp_plain (b : UInt8) (h : Plain b) : Lib.isSp b = decide (b.toNat = 32) := by
  have hne : ∀ n : UInt8, n.toNat < 32 → (b == n) = false := by
    intro n hn
    rw [beq_eq_false_iff_ne]
    intro e
    have := h.1
    rw [e] at this
    omega
  unfold Lib.isSp
  rw [hne 9 (by decide), hne 10 (by decide), hne 11 (by decide), hne 12 (by decide), hne 13 (by decide)]
  simp only [Bool.false_or]
  by_cases e : b = 32
  · subst e; rfl
  · have h1 : (b == 32) = false := by rw [beq_eq_false_iff_ne]; exact e
    rw [h1, decide_eq_false]
    intro h2
    exact e (UInt8.toNat_inj.1 h2)

theorem rem_start (l : List UInt8) : rem l 0 0 = Lib.fields l := by
  unfold rem seg Lib.fields
  rw [if_pos (Nat.zero_le _)]
  simp

theorem seg_empty (l : List UInt8) (i : Nat) : seg l i i = [] := by simp [seg]

theorem seg_snoc (l : List UInt8) (b i : Nat) (hb : b ≤ i) (h : i < l.length) : seg l b (i + 1) = seg l b i ++ [l[i]] := by
  unfold seg
  have e : i + 1 - b = (i - b) + 1 := by omega
  have hl : i - b < (l.drop b).length := by simp; omega
  rw [e, List.take_succ_eq_append_getElem hl]
  have e2 : (l.drop b)[i - b] = l[i] := by
    rw [List.getElem_drop]
    congr 1
    omega
  rw [e2]

theorem seg_ne (l : List UInt8) (b i : Nat) (hb : b < i) (h : i ≤ l.length) : seg l b i ≠ [] := by
  intro e
  have := congrArg List.length e
  unfold seg at this
  simp at this
  omega

theorem rem_more (l : List UInt8) (b i : Nat) (hb : b ≤ i) (h : i < l.length) (hp : Plain l[i]) (hs : l[i].toNat ≠ 32) : rem l b i = rem l b (i + 1) := by
  unfold rem
  rw [if_pos (by omega), if_pos (by omega), List.drop_eq_getElem_cons h, Lib.fieldsGo_more _ _ _ (by rw [isSp_plain _ hp]; exact decide_eq_false hs), seg_snoc l b i hb h]

theorem rem_part (l : List UInt8) (b i : Nat) (hb : b < i) (h : i < l.length) (hp : Plain l[i]) (hs : l[i].toNat = 32) : rem l b i = seg l b i :: rem l (i + 1) (i + 1) := by
  unfold rem
  rw [if_pos (by omega), if_pos (by omega), List.drop_eq_getElem_cons h, Lib.fieldsGo_end _ _ _ (by rw [isSp_plain _ hp]; exact decide_eq_true hs) (seg_ne l b i hb (by omega)), seg_empty]

theorem rem_blank (l : List UInt8) (i : Nat) (h : i < l.length) (hp : Plain l[i]) (hs : l[i].toNat = 32) : rem l i i = rem l (i + 1) (i + 1) := by
  unfold rem
  rw [if_pos (by omega), if_pos (by omega), List.drop_eq_getElem_cons h, seg_empty, Lib.fieldsGo_sp _ _ (by rw [isSp_plain _ hp]; exact decide_eq_true hs), seg_empty]

theorem rem_last (l : List UInt8) (b : Nat) (hb : b < l.length) : rem l b l.length = [seg l b l.length] := by
  unfold rem
  rw [if_pos (Nat.le_refl _), List.drop_of_length_le (Nat.le_refl _)]
  have h := seg_ne l b l.length hb (Nat.le_refl _)
  unfold Lib.fieldsGo
  rw [if_neg (by rw [List.isEmpty_iff]; exact h)]

theorem rem_none (l : List UInt8) : rem l l.length l.length = [] := by
  unfold rem
  rw [if_pos (Nat.le_refl _), List.drop_of_length_le (Nat.le_refl _), seg_empty]
  rfl

theorem rem_over (l : List UInt8) (b : Nat) : rem l b (l.length + 1) = [] := by
  unfold rem
  rw [if_neg (by omega)]

theorem fieldsGo_le : ∀ (l cur : List UInt8), ∀ f ∈ Lib.fieldsGo cur l, f.length ≤ cur.length + l.length
  | [], cur, f, h => by
    unfold Lib.fieldsGo at h
    split at h
    · simp at h
    · simp at h
      subst h
      simp
  | b :: l, cur, f, h => by
    unfold Lib.fieldsGo at h
    split at h
    · split at h
      · have := fieldsGo_le l [] f h
        simp at this ⊢
        omega
      · rcases List.mem_cons.1 h with rfl | h
        · exact Nat.le_add_right _ _
        · have := fieldsGo_le l [] f h
          simp at this ⊢
          omega
    · have := fieldsGo_le l (cur ++ [b]) f h
      simp at this ⊢
      omega

theorem cnt_le : ∀ (l : List UInt8) (ws : Bool), Lib.cntF ws l ≤ l.length
  | [], _ => by simp [Lib.cntF]
  | b :: l, ws => by
    have := cnt_le l (Lib.isSp b)
    simp only [Lib.cntF, List.length_cons]
    split <;> omega

theorem fields_le (l : List UInt8) (i : Nat) : ((Lib.fields l).getD i []).length ≤ l.length := by
  by_cases h : i < (Lib.fields l).length
  · have h1 := fieldsGo_le l [] ((Lib.fields l)[i]) (List.getElem_mem h)
    have e : (Lib.fields l).getD i [] = (Lib.fields l)[i] := by simp [h]
    rw [e]
    simpa using h1
  · have e : (Lib.fields l).getD i [] = [] := by simp [List.getElem?_eq_none (by omega : (Lib.fields l).length ≤ i)]
    rw [e]
    simp

/-- All bytes are plain, or there is a first one that is not. -/
theorem plain_or (l : List UInt8) : (∀ i (h : i < l.length), Plain l[i]) ∨ ∃ J, ∃ hJ : J < l.length, (∀ i (h : i < J), Plain (l[i]'(by omega))) ∧ ¬ Plain l[J] := by
  induction l with
  | nil => left; intro i h; simp at h
  | cons b l ih =>
    by_cases hb : 32 ≤ b.toNat ∧ b.toNat ≤ 126
    · rcases ih with h | ⟨J, hJ, h1, h2⟩
      · left
        intro i hi
        cases i with
        | zero => exact hb
        | succ i => exact h i (by simpa using hi)
      · right
        refine ⟨J + 1, by simpa using hJ, ?_, h2⟩
        intro i hi
        cases i with
        | zero => exact hb
        | succ i => exact h1 i (by omega)
    · right
      exact ⟨0, by simp, by intro i hi; omega, hb⟩

end Go.Proofs.YtmgdhlodifkematDoor
