/-
  Plain mathematics of the parts of a line; no program is spoken of here.
-/
import Derived.WalkKit
import Derived.Lib.Fields
namespace Go.Proofs.YtcnnmpenahihnaiDoor

def Plain (b : UInt8) : Prop := 32 ≤ b.toNat ∧ b.toNat ≤ 126

/-- What stands from b on, up to i. -/
def seg (l : List UInt8) (b i : Nat) : List UInt8 := (l.drop b).take (i - b)

/-- What is still to come of the parts. -/
def rem (l : List UInt8) (b i : Nat) : List (List UInt8) := if i ≤ l.length then Lib.fieldsGo (seg l b i) (l.drop i) else []

theorem isSp_plain (b : UInt8) (h : Plain b) : Lib.isSp b = decide (b.toNat = 32) := by
  have hne : ∀ n : UInt8, n.toNat < 32 → (b == n) = false := by
    intro n hn
    rw [beq_eq_false_iff_ne]
    intro e
    have := h.1
    rw [e] at this
    omega
  unfold Lib.isSp
  rw [hne 9 (by decide), hne 10 (by decide), hne 11 (by decide), hne 12 (by decide), hne 13 (by decide)]
  simp only [Bool.false_or]
  by_cases e : b = 32
  · subst e; rfl
  · have h1 : (b == 32) = false := by rw [beq_eq_false_iff_ne]; exact e
    rw [h1, decide_eq_false]
    intro h2
    exact e (UInt8.toNat_inj.1 h2)

theorem rem_start (l : List UInt8) : rem l 0 0 = Lib.fields l := by
  unfold rem seg Lib.fields
  rw [if_pos (Nat.zero_le _)]
  simp

theorem seg_empty (l : List UInt8) (i : Nat) : seg l i i = [] := by simp [seg]

theorem seg_snoc (l : List UInt8) (b i : Nat) (hb : b ≤ i) (h : i < l.length) : seg l b (i + 1) = seg l b i ++ [l[i]] := by
  unfold seg
  have e : i + 1 - b = (i - b) + 1 := by omega
  have hl : i - b < (l.drop b).length := by simp; omega
  rw [e, List.take_succ_eq_append_getElem hl]
  have e2 : (l.drop b)[i - b] = l[i] := by
    rw [List.getElem_drop]
    congr 1
    omega
  rw [e2]

theorem seg_ne (l : List UInt8) (b i : Nat) (hb : b < i) (h : i ≤ l.length) : seg l b i ≠ [] := by
  intro e
  have := congrArg List.length e
  unfold seg at this
  simp at this
  omega

theorem rem_more (l : List UInt8) (b i : Nat) (hb : b ≤ i) (h : i < l.length) (hp : Plain l[i]) (hs : l[i].toNat ≠ 32) : rem l b i = rem l b (i + 1) := by
  unfold rem
  rw [if_pos (by omega), if_pos (by omega), List.drop_eq_getElem_cons h, Lib.fieldsGo_more _ _ _ (by rw [isSp_plain _ hp]; exact decide_eq_false hs), seg_snoc l b i hb h]

theorem rem_part (l : List UInt8) (b i : Nat) (hb : b < i) (h : i < l.length) (hp : Plain l[i]) (hs : l[i].toNat = 32) : rem l b i = seg l b i :: rem l (i + 1) (i + 1) := by
  unfold rem
  rw [if_pos (by omega), if_pos (by omega), List.drop_eq_getElem_cons h, Lib.fieldsGo_end _ _ _ (by rw [isSp_plain _ hp]; exact decide_eq_true hs) (seg_ne l b i hb (by omega)), seg_empty]

theorem rem_blank (l : List UInt8) (i : Nat) (h : i < l.length) (hp : Plain l[i]) (hs : l[i].toNat = 32) : rem l i i = rem l (i + 1) (i + 1) := by
  unfold rem
  rw [if_pos (by omega), if_pos (by omega), List.drop_eq_getElem_cons h, seg_empty, Lib.fieldsGo_sp _ _ (by rw [isSp_plain _ hp]; exact decide_eq_true hs), seg_empty]

theorem rem_last (l : List UInt8) (b : Nat) (hb : b < l.length) : rem l b l.length = [seg l b l.length] := by
  unfold rem
  rw [if_pos (Nat.le_refl _), List.drop_of_length_le (Nat.le_refl _)]
  have h := seg_ne l b l.length hb (Nat.le_refl _)
  unfold Lib.fieldsGo
  rw [if_neg (by rw [List.isEmpty_iff]; exact h)]

theorem rem_none (l : List UInt8) : rem l l.length l.length = [] := by
  unfold rem
  rw [if_pos (Nat.le_refl _), List.drop_of_length_le (Nat.le_refl _), seg_empty]
  rfl

theorem rem_over (l : List UInt8) (b : Nat) : rem l b (l.length + 1) = [] := by
  unfold rem
  rw [if_neg (by omega)]

theorem fieldsGo_le : ∀ (l cur : List UInt8), ∀ f ∈ Lib.fieldsGo cur l, f.length ≤ cur.length + l.length
  | [], cur, f, h => by
    unfold Lib.fieldsGo at h
    split at h
    · simp at h
    · simp at h
      subst h
      simp
  | b :: l, cur, f, h => by
    unfold Lib.fieldsGo at h
    split at h
    · split at h
      · have := fieldsGo_le l [] f h
        simp at this ⊢
        omega
      · rcases List.mem_cons.1 h with rfl | h
        · exact Nat.le_add_right _ _
        · have := fieldsGo_le l [] f h
          simp at this ⊢
          omega
    · have := fieldsGo_le l (cur ++ [b]) f h
      simp at this ⊢
      omega

theorem cnt_le : ∀ (l : List UInt8) (ws : Bool), Lib.cntF ws l ≤ l.length
  | [], _ => by simp [Lib.cntF]
  | b :: l, ws => by
    have := cnt_le l (Lib.isSp b)
    simp only [Lib.cntF, List.length_cons]
    split <;> omega

theorem fields_le (l : List UInt8) (i : Nat) : ((Lib.fields l).getD i []).length ≤ l.length := by
  by_cases h : i < (Lib.fields l).length
  · have h1 := fieldsGo_le l [] ((Lib.fields l)[i]) (List.getElem_mem h)
    have e : (Lib.fields l).getD i [] = (Lib.fields l)[i] := by simp [h]
    rw [e]
    simpa using h1
  · have e : (Lib.fields l).getD i [] = [] := by simp [List.getElem?_eq_none (by omega : (Lib.fields l).length ≤ i)]
    rw [e]
    simp

/-- All bytes are plain, or there is a first one that is not. -/
theorem plain_or (l : List UInt8) : (∀ i (h : i < l.length), Plain l[i]) ∨ ∃ J, ∃ hJ : J < l.length, (∀ i (h : i < J), Plain (l[i]'(by omega))) ∧ ¬ Plain l[J] := by
  induction l with
  | nil => left; intro i h; simp at h
  | cons b l ih =>
    by_cases hb : 32 ≤ b.toNat ∧ b.toNat ≤ 126
    · rcases ih with h | ⟨J, hJ, h1, h2⟩
      · left
        intro i hi
        cases i with
        | zero => exact hb
        | succ i => exact h i (by simpa using hi)
      · right
        refine ⟨J + 1, by simpa using hJ, ?_, h2⟩
        intro i hi
        cases i with
        | zero => exact hb
        | succ i => exact h1 i (by omega)
    · right
      exact ⟨0, by simp, by intro i hi; omega, hb⟩

end Go.Proofs.YtcnnmpenahihnaiDoor
