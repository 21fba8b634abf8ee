/-
  Trees of bits as lists of twigs: what is put, what is found; no program is spoken of here.
  A right tree by counting: each twig but the root is one of just one other; no program is spoken of here.
-/
import Derived.Test.YtkfcoldjgijpcapPlainAll
namespace Go.Proofs.Ytkfcoldjgijpcap
open Go.RowKit

/-- A twig: two places, and whom it leads to. -/
abbrev Tw := Int × Int × Int
def tw0 : Tw := (0, 0, 0)
def kidOf (x : Tw) (b : Nat) : Int := if b = 1 then x.2.1 else x.1
def setKid (x : Tw) (b : Nat) (v : Int) : Tw := if b = 1 then (x.1, v, x.2.2) else (v, x.2.1, x.2.2)
def atT (l : List Tw) (k : Nat) : Tw := l.getD k tw0
theorem kid_set (x : Tw) (b c : Nat) (v : Int) : kidOf (setKid x b v) c = if (b = 1 ↔ c = 1) then v else kidOf x c := by
  unfold kidOf setKid
  by_cases h1 : b = 1 <;> by_cases h2 : c = 1 <;> simp [h1, h2]
theorem setKid_dest (x : Tw) (b : Nat) (v : Int) : (setKid x b v).2.2 = x.2.2 := by
  unfold setKid
  split <;> rfl
theorem kid_zero (b : Nat) : kidOf tw0 b = 0 := by unfold kidOf tw0; split <;> rfl
theorem atT_append (l : List Tw) (x : Tw) (k : Nat) : atT (l ++ [x]) k = if k < l.length then atT l k else if k = l.length then x else tw0 := by
  unfold atT
  simp only [List.getD_eq_getElem?_getD]
  by_cases h : k < l.length
  · rw [if_pos h, List.getElem?_append_left h]
  · rw [if_neg h, List.getElem?_append_right (by omega)]
    by_cases h2 : k = l.length
    · rw [if_pos h2, h2, Nat.sub_self]; rfl
    · rw [if_neg h2, List.getElem?_eq_none (by simp; omega)]; rfl
theorem atT_set (l : List Tw) (j : Nat) (x : Tw) (k : Nat) (hj : j < l.length) : atT (l.set j x) k = if k = j then x else atT l k := by
  unfold atT
  simp only [List.getD_eq_getElem?_getD, List.getElem?_set]
  by_cases h : j = k
  · subst h
    simp [hj]
  · rw [if_neg h, if_neg (fun e => h e.symm)]

/-- Where one comes from the place k along these bits. -/
def nodeT (l : List Tw) : Nat → List Nat → Option Nat
  | k, [] => some k
  | k, b :: bs => if kidOf (atT l k) b = 0 then none else nodeT l (kidOf (atT l k) b).toNat bs
/-- Whom the twig at the end of these bits leads to; 0 without one. -/
def toFrom (l : List Tw) (k : Nat) (bs : List Nat) : Int := match nodeT l k bs with | some m => (atT l m).2.2 | none => 0
def toAt (l : List Tw) (bs : List Nat) : Int := toFrom l 0 bs
theorem nodeT_append (l : List Tw) : ∀ (p q : List Nat) (k : Nat), nodeT l k (p ++ q) = (nodeT l k p).bind fun m => nodeT l m q
  | [], q, k => rfl
  | b :: p, q, k => by
    rw [List.cons_append, nodeT, nodeT]
    split
    · rfl
    · exact nodeT_append l p q _

/-- One step along a bit: where there is no twig a new one is put behind all others. -/
def stepT (l : List Tw) (k b : Nat) : List Tw × Nat :=
  if kidOf (atT l k) b = 0 then (l.set k (setKid (atT l k) b (l.length : Nat)) ++ [tw0], l.length) else (l, (kidOf (atT l k) b).toNat)
def goT : List Tw → Nat → List Nat → List Tw × Nat
  | l, k, [] => (l, k)
  | l, k, b :: bs => goT (stepT l k b).1 (stepT l k b).2 bs
theorem goT_snoc : ∀ (bs : List Nat) (l : List Tw) (k b : Nat), goT l k (bs ++ [b]) = stepT (goT l k bs).1 (goT l k bs).2 b
  | [], l, k, b => rfl
  | c :: bs, l, k, b => by
    rw [List.cons_append, goT, goT]
    exact goT_snoc bs _ _ b
def setTo (l : List Tw) (k : Nat) (to' : Int) : List Tw := l.set k ((atT l k).1, (atT l k).2.1, to')
def putT (l : List Tw) (bs : List Nat) (to' : Int) : List Tw := setTo (goT l 0 bs).1 (goT l 0 bs).2 to'
/-- What is found along these bits from the place k on, with what was found so far. -/
def findT (l : List Tw) : Nat → Int → List Nat → Int
  | _, cur, [] => cur
  | k, cur, b :: bs => if kidOf (atT l k) b = 0 then cur else findT l (kidOf (atT l k) b).toNat (if (atT l (kidOf (atT l k) b).toNat).2.2 = 0 then cur else (atT l (kidOf (atT l k) b).toNat).2.2) bs

/-- A tree that is right, but for how many twigs it may have. -/
structure TrieR (l : List Tw) : Prop where
  pos : 1 ≤ l.length
  kids : ∀ k, k < l.length → ∀ b, kidOf (atT l k) b = 0 ∨ ∃ m : Nat, kidOf (atT l k) b = (m : Int) ∧ k < m ∧ m < l.length
  only : ∀ k j, k < l.length → j < l.length → ∀ b c, kidOf (atT l k) b ≠ 0 → kidOf (atT l k) b = kidOf (atT l j) c → k = j ∧ (b = 1 ↔ c = 1)
  each : ∀ m, 1 ≤ m → m < l.length → ∃ k b, k < l.length ∧ kidOf (atT l k) b = (m : Nat)
  dest : ∀ k, k < l.length → 0 ≤ (atT l k).2.2 ∧ (atT l k).2.2 ≤ 99
theorem nodeT_lt {l : List Tw} (h : TrieR l) : ∀ (qs : List Nat) (k m : Nat), k < l.length → nodeT l k qs = some m → m < l.length ∧ k + qs.length ≤ m
  | [], k, m, hk, e => by
    cases e
    exact ⟨hk, Nat.le_refl _⟩
  | b :: qs, k, m, hk, e => by
    rw [nodeT] at e
    rcases h.kids k hk b with h0 | ⟨j, hj, h1, h2⟩
    · rw [if_pos h0] at e
      cases e
    · rw [if_neg (by omega), hj, Int.toNat_natCast] at e
      have := nodeT_lt h qs j m h2 e
      simp
      omega
/-- Bits. -/
def BitsL (bs : List Nat) : Prop := ∀ b ∈ bs, b < 2
theorem snocT {P : List Nat → Prop} (h0 : P []) (h1 : ∀ l x, P l → P (l ++ [x])) (l : List Nat) : P l := by
  have h : ∀ r : List Nat, P r.reverse := by
    intro r
    induction r with
    | nil => exact h0
    | cons x r ih => rw [List.reverse_cons]; exact h1 _ _ ih
  have := h l.reverse
  rwa [List.reverse_reverse] at this
theorem nodeT_snoc (l : List Tw) (p : List Nat) (b m : Nat) (h : nodeT l 0 (p ++ [b]) = some m) : ∃ k, nodeT l 0 p = some k ∧ kidOf (atT l k) b ≠ 0 ∧ (kidOf (atT l k) b).toNat = m := by
  rw [nodeT_append] at h
  cases hk : nodeT l 0 p with
  | none => rw [hk] at h; cases h
  | some k =>
    rw [hk] at h
    simp only [Option.bind_some, nodeT] at h
    split at h
    · cases h
    · exact ⟨k, rfl, by assumption, Option.some.inj h⟩
/-- Two ways that end at one twig are one. -/
theorem nodeT_inj {l : List Tw} (h : TrieR l) (p : List Nat) : ∀ (q : List Nat) (m : Nat), BitsL p → BitsL q → nodeT l 0 p = some m → nodeT l 0 q = some m → p = q := by
  have h0 := h.pos
  refine snocT (P := fun p => ∀ (q : List Nat) (m : Nat), BitsL p → BitsL q → nodeT l 0 p = some m → nodeT l 0 q = some m → p = q) ?_ ?_ p
  · intro q m _ _ e1 e2
    cases e1
    have := (nodeT_lt h q 0 0 (by omega) e2).2
    exact (List.length_eq_zero_iff.1 (by omega)).symm
  · intro p b ih q m hp hq e1 e2
    obtain ⟨k, k1, k2, k3⟩ := nodeT_snoc l p b m e1
    have hkl := (nodeT_lt h p 0 k (by omega) k1).1
    have hm1 := (nodeT_lt h _ 0 m (by omega) e1).2
    rcases List.eq_nil_or_concat q with rfl | ⟨q', c, rfl⟩
    · cases e2
      simp at hm1
    · obtain ⟨j, j1, j2, j3⟩ := nodeT_snoc l q' c m (by simpa using e2)
      have hjl := (nodeT_lt h q' 0 j (by omega) j1).1
      have he : kidOf (atT l k) b = kidOf (atT l j) c := by
        rcases h.kids k hkl b with g | ⟨x, g, _, _⟩
        · exact absurd g k2
        · rcases h.kids j hjl c with g' | ⟨y, g', _, _⟩
          · exact absurd g' j2
          · rw [g] at k3
            rw [g'] at j3
            simp at k3 j3
            rw [g, g', k3, j3]
      obtain ⟨rfl, hbc⟩ := h.only k j hkl hjl b c k2 he
      have hb2 : b < 2 := hp b (by simp)
      have hc2 : c < 2 := hq c (by simp)
      have hbc2 : b = c := by omega
      rw [ih q' k (fun x hx => hp x (by simp [hx])) (fun x hx => hq x (by simp [hx])) k1 j1, hbc2]
      simp

/-- What a step leaves: a right tree whose twigs lead where they led. -/
structure StepT (l : List Tw) (pre : List Nat) (l' : List Tw) (k' : Nat) : Prop where
  right : TrieR l'
  node : nodeT l' 0 pre = some k'
  more : l.length ≤ l'.length
  same : ∀ qs, toAt l' qs = toAt l qs
theorem step_right {l : List Tw} (h : TrieR l) (k b : Nat) (hk : k < l.length) (h0 : kidOf (atT l k) b = 0) :
    TrieR (l.set k (setKid (atT l k) b (l.length : Nat)) ++ [tw0]) ∧
    (∀ j, j < l.length → ∀ c, kidOf (atT (l.set k (setKid (atT l k) b (l.length : Nat)) ++ [tw0]) j) c = if j = k ∧ (b = 1 ↔ c = 1) then (l.length : Int) else kidOf (atT l j) c) ∧
    (∀ j, j < l.length → (atT (l.set k (setKid (atT l k) b (l.length : Nat)) ++ [tw0]) j).2.2 = (atT l j).2.2) ∧
    atT (l.set k (setKid (atT l k) b (l.length : Nat)) ++ [tw0]) l.length = tw0 := by
  have hlen : (l.set k (setKid (atT l k) b (l.length : Nat))).length = l.length := List.length_set
  have hat : ∀ j, j < l.length → atT (l.set k (setKid (atT l k) b (l.length : Nat)) ++ [tw0]) j = if j = k then setKid (atT l k) b (l.length : Nat) else atT l j := fun j hj => by
    rw [atT_append, hlen, if_pos hj, atT_set _ _ _ _ hk]
  have hnew : atT (l.set k (setKid (atT l k) b (l.length : Nat)) ++ [tw0]) l.length = tw0 := by
    rw [atT_append, hlen, if_neg (by omega), if_pos rfl]
  have hkid : ∀ j, j < l.length → ∀ c, kidOf (atT (l.set k (setKid (atT l k) b (l.length : Nat)) ++ [tw0]) j) c = if j = k ∧ (b = 1 ↔ c = 1) then (l.length : Int) else kidOf (atT l j) c := fun j hj c => by
    rw [hat j hj]
    by_cases hjk : j = k
    · subst hjk
      rw [if_pos rfl, kid_set]
      by_cases hbc : (b = 1 ↔ c = 1)
      · rw [if_pos hbc, if_pos ⟨rfl, hbc⟩]
      · rw [if_neg hbc, if_neg (fun e => hbc e.2)]
    · rw [if_neg hjk, if_neg (fun e => hjk e.1)]
  have hdest : ∀ j, j < l.length → (atT (l.set k (setKid (atT l k) b (l.length : Nat)) ++ [tw0]) j).2.2 = (atT l j).2.2 := fun j hj => by
    rw [hat j hj]
    split
    · next e => rw [setKid_dest, e]
    · rfl
  have hl2 : (l.set k (setKid (atT l k) b (l.length : Nat)) ++ [tw0]).length = l.length + 1 := by rw [List.length_append, hlen]; rfl
  generalize l.set k (setKid (atT l k) b (l.length : Nat)) ++ [tw0] = l' at *
  have hless : ∀ j, j < l.length → ∀ c, kidOf (atT l j) c ≠ (l.length : Int) := fun j hj c e => by
    rcases h.kids j hj c with g | ⟨m, g, _, g2⟩
    · have := h.pos; omega
    · omega
  refine ⟨⟨by omega, ?_, ?_, ?_, ?_⟩, hkid, hdest, hnew⟩
  · intro j hj c
    by_cases hjl : j < l.length
    · rw [hkid j hjl c]
      split
      · exact .inr ⟨l.length, rfl, hjl, by omega⟩
      · rcases h.kids j hjl c with g | ⟨m, g, g1, g2⟩
        · exact .inl g
        · exact .inr ⟨m, g, g1, by omega⟩
    · have e : j = l.length := by omega
      rw [e, hnew]
      exact .inl (kid_zero c)
  · intro i j hi hj c d hne heq
    have hil : i < l.length := by
      rcases Nat.lt_or_ge i l.length with g | g
      · exact g
      · have e : i = l.length := by omega
        rw [e, hnew, kid_zero] at hne
        exact absurd rfl hne
    have hjl : j < l.length := by
      rcases Nat.lt_or_ge j l.length with g | g
      · exact g
      · have e : j = l.length := by omega
        rw [heq, e, hnew, kid_zero] at hne
        exact absurd rfl hne
    rw [hkid i hil c] at hne heq
    rw [hkid j hjl d] at heq
    by_cases h1 : i = k ∧ (b = 1 ↔ c = 1) <;> by_cases h2 : j = k ∧ (b = 1 ↔ d = 1)
    · exact ⟨h1.1.trans h2.1.symm, by rw [← h1.2, h2.2]⟩
    · rw [if_pos h1, if_neg h2] at heq
      exact absurd heq.symm (hless j hjl d)
    · rw [if_neg h1, if_pos h2] at heq
      exact absurd heq (hless i hil c)
    · rw [if_neg h1, if_neg h2] at heq
      rw [if_neg h1] at hne
      exact h.only i j hil hjl c d hne heq
  · intro m h1 hm
    by_cases hml : m < l.length
    · obtain ⟨j, c, hj, hc⟩ := h.each m h1 hml
      refine ⟨j, c, by omega, ?_⟩
      rw [hkid j hj c, if_neg]
      · exact hc
      · rintro ⟨rfl, hbc⟩
        have : kidOf (atT l j) c = kidOf (atT l j) b := by unfold kidOf; by_cases g : b = 1 <;> simp_all
        omega
    · exact ⟨k, b, by omega, by rw [hkid k hk b, if_pos ⟨rfl, Iff.rfl⟩]; omega⟩
  · intro j hj
    by_cases hjl : j < l.length
    · rw [hdest j hjl]
      exact h.dest j hjl
    · have e : j = l.length := by omega
      rw [e, hnew]
      decide
theorem node_new (l' : List Tw) (n : Nat) (h : atT l' n = tw0) (qs : List Nat) : nodeT l' n qs = if qs = [] then some n else none := by
  cases qs with
  | nil => rfl
  | cons c qs => rw [nodeT, h, kid_zero]; simp
theorem step_node {l l' : List Tw} (h : TrieR l) (k b : Nat) (h0 : kidOf (atT l k) b = 0)
    (hkid : ∀ j, j < l.length → ∀ c, kidOf (atT l' j) c = if j = k ∧ (b = 1 ↔ c = 1) then (l.length : Int) else kidOf (atT l j) c) (hnew : atT l' l.length = tw0) :
    ∀ (qs : List Nat) (j : Nat), j < l.length → (∀ m, nodeT l j qs = some m → nodeT l' j qs = some m) ∧ (nodeT l j qs = none → nodeT l' j qs = none ∨ nodeT l' j qs = some l.length)
  | [], j, _ => ⟨fun m e => e, fun e => by cases e⟩
  | c :: qs, j, hj => by
    have hz : kidOf (atT l j) c ≠ 0 → ¬ (j = k ∧ (b = 1 ↔ c = 1)) := by
      rintro g ⟨rfl, hbc⟩
      have : kidOf (atT l j) c = kidOf (atT l j) b := by unfold kidOf; by_cases g : b = 1 <;> simp_all
      omega
    rcases h.kids j hj c with g | ⟨m, g, g1, g2⟩
    · refine ⟨fun m e => (by rw [nodeT, if_pos g] at e; cases e), fun _ => ?_⟩
      rw [nodeT, hkid j hj c]
      by_cases hs : j = k ∧ (b = 1 ↔ c = 1)
      · have := h.pos
        rw [if_pos hs, if_neg (by omega), Int.toNat_natCast, node_new l' _ hnew]
        by_cases hq : qs = []
        · exact .inr (by rw [if_pos hq])
        · exact .inl (by rw [if_neg hq])
      · rw [if_neg hs, if_pos g]
        exact .inl rfl
    · have ih := step_node h k b h0 hkid hnew qs m g2
      have e1 : nodeT l j (c :: qs) = nodeT l m qs := by rw [nodeT, if_neg (by omega), g, Int.toNat_natCast]
      have e2 : nodeT l' j (c :: qs) = nodeT l' m qs := by rw [nodeT, hkid j hj c, if_neg (hz (by omega)), if_neg (by omega), g, Int.toNat_natCast]
      rw [e1, e2]
      exact ih
theorem stepT_ok {l : List Tw} (h : TrieR l) (pre : List Nat) (k b : Nat) (hn : nodeT l 0 pre = some k) : StepT l (pre ++ [b]) (stepT l k b).1 (stepT l k b).2 ∧ (stepT l k b).1.length ≤ l.length + 1 := by
  have h1 := h.pos
  have hk := (nodeT_lt h pre 0 k (by omega) hn).1
  unfold stepT
  by_cases h0 : kidOf (atT l k) b = 0
  · rw [if_pos h0]
    obtain ⟨r1, r2, r3, r4⟩ := step_right h k b hk h0
    have hl2 : (l.set k (setKid (atT l k) b (l.length : Nat)) ++ [tw0]).length = l.length + 1 := by simp
    refine ⟨⟨r1, ?_, by simp, fun qs => ?_⟩, by simp⟩
    · have hs := step_node h k b h0 r2 r4 pre 0 (by omega)
      show nodeT (l.set k (setKid (atT l k) b (l.length : Nat)) ++ [tw0]) 0 (pre ++ [b]) = some l.length
      have e3 : kidOf (atT (l.set k (setKid (atT l k) b (l.length : Nat)) ++ [tw0]) k) b = (l.length : Int) := by rw [r2 k hk b, if_pos ⟨rfl, Iff.rfl⟩]
      rw [nodeT_append, hs.1 k hn, Option.bind_some, nodeT, e3, if_neg (by omega), Int.toNat_natCast]
      rfl
    · have hs := step_node h k b h0 r2 r4 qs 0 (by omega)
      unfold toAt toFrom
      cases hq : nodeT l 0 qs with
      | some m =>
        simp only [hs.1 m hq]
        exact r3 m (nodeT_lt h qs 0 m (by omega) hq).1
      | none =>
        rcases hs.2 hq with g | g
        · simp only [g]
        · simp only [g, r4]
          rfl
  · rw [if_neg h0]
    refine ⟨⟨h, ?_, Nat.le_refl _, fun _ => rfl⟩, by simp⟩
    show nodeT l 0 (pre ++ [b]) = some (kidOf (atT l k) b).toNat
    rw [nodeT_append, hn, Option.bind_some, nodeT, if_neg h0]
    rfl
theorem StepT.trans {l l1 l2 : List Tw} {p q : List Nat} {k1 k2 : Nat} (h1 : StepT l p l1 k1) (h2 : StepT l1 q l2 k2) : StepT l q l2 k2 := ⟨h2.right, h2.node, Nat.le_trans h1.more h2.more, fun qs => by rw [h2.same, h1.same]⟩
theorem goT_ok {l : List Tw} (h : TrieR l) (bs : List Nat) : StepT l bs (goT l 0 bs).1 (goT l 0 bs).2 ∧ (goT l 0 bs).1.length ≤ l.length + bs.length := by
  refine snocT (P := fun bs => StepT l bs (goT l 0 bs).1 (goT l 0 bs).2 ∧ (goT l 0 bs).1.length ≤ l.length + bs.length) ?_ ?_ bs
  · exact ⟨⟨h, rfl, Nat.le_refl _, fun _ => rfl⟩, Nat.le_refl _⟩
  · rintro bs b ⟨h1, h2⟩
    rw [goT_snoc]
    obtain ⟨s1, s2⟩ := stepT_ok h1.right bs _ b h1.node
    refine ⟨h1.trans s1, ?_⟩
    simp
    omega

theorem setTo_kids (l : List Tw) (k : Nat) (v : Int) (hk : k < l.length) (j c : Nat) : kidOf (atT (setTo l k v) j) c = kidOf (atT l j) c := by
  unfold setTo
  rw [atT_set _ _ _ _ hk]
  split
  · next e => subst e; rfl
  · rfl
theorem setTo_dest (l : List Tw) (k : Nat) (v : Int) (hk : k < l.length) (j : Nat) : (atT (setTo l k v) j).2.2 = if j = k then v else (atT l j).2.2 := by
  unfold setTo
  rw [atT_set _ _ _ _ hk]
  split <;> rfl
theorem setTo_node (l : List Tw) (k : Nat) (v : Int) (hk : k < l.length) : ∀ (qs : List Nat) (j : Nat), nodeT (setTo l k v) j qs = nodeT l j qs
  | [], j => rfl
  | c :: qs, j => by rw [nodeT, nodeT, setTo_kids l k v hk, setTo_node l k v hk qs]
theorem setTo_right {l : List Tw} (h : TrieR l) (k : Nat) (v : Int) (hk : k < l.length) (h0 : 0 ≤ v) (h1 : v ≤ 99) : TrieR (setTo l k v) := by
  have hl : (setTo l k v).length = l.length := by simp [setTo]
  refine ⟨by rw [hl]; exact h.pos, ?_, ?_, ?_, ?_⟩
  · intro j hj b
    rw [setTo_kids l k v hk, hl]
    exact h.kids j (by omega) b
  · intro i j hi hj b c
    rw [setTo_kids l k v hk, setTo_kids l k v hk]
    exact h.only i j (by omega) (by omega) b c
  · intro m h1 hm
    obtain ⟨j, b, hj, e⟩ := h.each m h1 (by omega)
    exact ⟨j, b, by omega, by rw [setTo_kids l k v hk]; exact e⟩
  · intro j hj
    rw [setTo_dest l k v hk]
    split
    · exact ⟨h0, h1⟩
    · exact h.dest j (by omega)
/-- What is put: the twig at the end of these bits leads there, all others where they led. -/
theorem putT_ok {l : List Tw} (h : TrieR l) (bs : List Nat) (hb : BitsL bs) (v : Int) (h0 : 0 ≤ v) (h1 : v ≤ 99) :
    TrieR (putT l bs v) ∧ (putT l bs v).length = (goT l 0 bs).1.length ∧ (∀ qs, BitsL qs → toAt (putT l bs v) qs = if qs = bs then v else toAt l qs) := by
  obtain ⟨hs, _⟩ := goT_ok h bs
  have hr := hs.right
  have hk := (nodeT_lt hr bs 0 _ (by have := hr.pos; omega) hs.node).1
  refine ⟨setTo_right hr _ v hk h0 h1, by simp [putT, setTo], fun qs hq => ?_⟩
  have hn : nodeT (putT l bs v) 0 qs = nodeT (goT l 0 bs).1 0 qs := setTo_node _ _ v hk qs 0
  have hsame := hs.same qs
  unfold toAt toFrom at hsame ⊢
  rw [hn]
  by_cases e : qs = bs
  · subst e
    rw [if_pos rfl, hs.node]
    show (atT (setTo _ _ v) _).2.2 = v
    rw [setTo_dest _ _ v hk, if_pos rfl]
  · rw [if_neg e, ← hsame]
    cases hq2 : nodeT (goT l 0 bs).1 0 qs with
    | none => rfl
    | some m =>
      show (atT (setTo _ _ v) m).2.2 = _
      rw [setTo_dest _ _ v hk, if_neg]
      rintro rfl
      exact e (nodeT_inj hr qs bs _ hq hb hq2 hs.node)

/-- What is found along the bits: the last that leads somewhere. -/
def LastIs (f : List Nat → Int) (bs : List Nat) (v : Int) : Prop :=
  (v = 0 ∧ ∀ j, j ≤ bs.length → f (bs.take j) = 0) ∨ ∃ j, j ≤ bs.length ∧ v = f (bs.take j) ∧ v ≠ 0 ∧ ∀ i, j < i → i ≤ bs.length → f (bs.take i) = 0
theorem LastIs.uniq {f : List Nat → Int} {bs : List Nat} {v u : Int} (h1 : LastIs f bs v) (h2 : LastIs f bs u) : v = u := by
  rcases h1 with ⟨rfl, h1⟩ | ⟨j, hj, e, hne, h1⟩ <;> rcases h2 with ⟨rfl, h2⟩ | ⟨i, hi, e2, hne2, h2⟩
  · rfl
  · exact absurd (e2.trans (h1 i hi)) hne2
  · exact absurd (e.trans (h2 j hj)) hne
  · rcases Nat.lt_trichotomy i j with g | g | g
    · exact absurd (e.trans (h2 j g hj)) hne
    · rw [e, e2, g]
    · exact absurd (e2.trans (h1 i g hi)) hne2
theorem LastIs.congr {f g : List Nat → Int} {bs : List Nat} {v : Int} (h : LastIs f bs v) (e : ∀ j, j ≤ bs.length → f (bs.take j) = g (bs.take j)) : LastIs g bs v := by
  rcases h with ⟨rfl, h1⟩ | ⟨j, hj, e1, hne, h1⟩
  · exact .inl ⟨rfl, fun j hj => by rw [← e j hj]; exact h1 j hj⟩
  · exact .inr ⟨j, hj, by rw [← e j hj]; exact e1, hne, fun i hi hil => by rw [← e i hil]; exact h1 i hi hil⟩
theorem findT_last (l : List Tw) : ∀ (bs : List Nat) (k : Nat) (cur : Int), (∃ j, 1 ≤ j ∧ j ≤ bs.length ∧ findT l k cur bs = toFrom l k (bs.take j) ∧ findT l k cur bs ≠ 0 ∧ ∀ i, j < i → i ≤ bs.length → toFrom l k (bs.take i) = 0) ∨ (findT l k cur bs = cur ∧ ∀ i, 1 ≤ i → i ≤ bs.length → toFrom l k (bs.take i) = 0)
  | [], k, cur => .inr ⟨rfl, fun i h1 h2 => by simp at h2; omega⟩
  | b :: bs, k, cur => by
    by_cases h0 : kidOf (atT l k) b = 0
    · refine .inr ⟨by rw [findT, if_pos h0], fun i h1 h2 => ?_⟩
      obtain ⟨i, rfl⟩ : ∃ m, i = m + 1 := ⟨i - 1, by omega⟩
      unfold toFrom
      rw [List.take_succ_cons, nodeT, if_pos h0]
    · have hf : ∀ i, toFrom l k ((b :: bs).take (i + 1)) = toFrom l (kidOf (atT l k) b).toNat (bs.take i) := fun i => by
        unfold toFrom
        rw [List.take_succ_cons, nodeT, if_neg h0]
      have he : findT l k cur (b :: bs) = findT l (kidOf (atT l k) b).toNat (if (atT l (kidOf (atT l k) b).toNat).2.2 = 0 then cur else (atT l (kidOf (atT l k) b).toNat).2.2) bs := by rw [findT, if_neg h0]
      have hz : toFrom l (kidOf (atT l k) b).toNat [] = (atT l (kidOf (atT l k) b).toNat).2.2 := rfl
      rw [he]
      generalize (kidOf (atT l k) b).toNat = m at *
      rcases findT_last l bs m (if (atT l m).2.2 = 0 then cur else (atT l m).2.2) with ⟨j, j1, j2, j3, j4, j5⟩ | ⟨j1, j2⟩
      · refine .inl ⟨j + 1, by omega, by simp; omega, by rw [hf, j3], j4, fun i hi hil => ?_⟩
        obtain ⟨i, rfl⟩ : ∃ m, i = m + 1 := ⟨i - 1, by omega⟩
        rw [hf]
        exact j5 i (by omega) (by simp at hil; omega)
      · by_cases hd : (atT l m).2.2 = 0
        · rw [if_pos hd] at j1 ⊢
          refine .inr ⟨j1, fun i h1 h2 => ?_⟩
          obtain ⟨i, rfl⟩ : ∃ m, i = m + 1 := ⟨i - 1, by omega⟩
          rw [hf]
          by_cases hi : i = 0
          · subst hi
            rw [List.take_zero, hz, hd]
          · exact j2 i (by omega) (by simp at h2; omega)
        · rw [if_neg hd] at j1 ⊢
          refine .inl ⟨1, by omega, by simp, ?_, by rw [j1]; exact hd, fun i hi hil => ?_⟩
          · rw [hf 0, List.take_zero, hz, j1]
          · obtain ⟨i, rfl⟩ : ∃ m, i = m + 1 := ⟨i - 1, by omega⟩
            rw [hf]
            exact j2 i (by omega) (by simp at hil; omega)
theorem find_last (l : List Tw) (bs : List Nat) : LastIs (toAt l) bs (findT l 0 (atT l 0).2.2 bs) := by
  have hz : toAt l [] = (atT l 0).2.2 := rfl
  rcases findT_last l bs 0 (atT l 0).2.2 with ⟨j, j1, j2, j3, j4, j5⟩ | ⟨j1, j2⟩
  · exact .inr ⟨j, j2, j3, j4, j5⟩
  · by_cases h0 : (atT l 0).2.2 = 0
    · refine .inl ⟨by rw [j1, h0], fun j hj => ?_⟩
      by_cases hj0 : j = 0
      · rw [hj0, List.take_zero, hz, h0]
      · exact j2 j (by omega) hj
    · refine .inr ⟨0, Nat.zero_le _, by rw [List.take_zero, hz, j1], by rw [j1]; exact h0, fun i hi hil => j2 i (by omega) hil⟩

end Go.Proofs.Ytkfcoldjgijpcap
namespace Go.Proofs.Ytkfcoldjgijpcap
open Go.RowKit

/-- How often a place stands among the places of a twig, of a list. -/
def kidCnt (x : Tw) (m : Int) : Int := (if x.1 = m then 1 else 0) + (if x.2.1 = m then 1 else 0)
def cntT : List Tw → Int → Int
  | [], _ => 0
  | x :: l, m => kidCnt x m + cntT l m
theorem cntT_append : ∀ (a b : List Tw) (m : Int), cntT (a ++ b) m = cntT a m + cntT b m
  | [], b, m => by simp [cntT]
  | x :: a, b, m => by
    show kidCnt x m + cntT (a ++ b) m = kidCnt x m + cntT a m + cntT b m
    rw [cntT_append a b m]
    omega
theorem kidCnt_nn (x : Tw) (m : Int) : 0 ≤ kidCnt x m := by unfold kidCnt; split <;> split <;> omega
theorem cntT_nn : ∀ (l : List Tw) (m : Int), 0 ≤ cntT l m
  | [], _ => Int.le_refl _
  | x :: l, m => by
    have h1 := kidCnt_nn x m
    have h2 := cntT_nn l m
    show 0 ≤ kidCnt x m + cntT l m
    omega
theorem kidCnt_kid (x : Tw) (b : Nat) (m : Int) (h : kidOf x b = m) : 1 ≤ kidCnt x m := by
  unfold kidOf at h
  unfold kidCnt
  split at h
  · rw [if_pos h]; split <;> omega
  · rw [if_pos h]; split <;> omega
theorem cntT_mem : ∀ (l : List Tw) (k b : Nat) (m : Int), k < l.length → kidOf (atT l k) b = m → 1 ≤ cntT l m
  | [], k, _, _, hk, _ => absurd hk (by simp)
  | x :: l, 0, b, m, _, h => by
    have h1 := kidCnt_kid x b m h
    have h2 := cntT_nn l m
    show 1 ≤ kidCnt x m + cntT l m
    omega
  | x :: l, k + 1, b, m, hk, h => by
    have h1 := cntT_mem l k b m (by simpa using hk) (by simpa [atT] using h)
    have h2 := kidCnt_nn x m
    show 1 ≤ kidCnt x m + cntT l m
    omega
theorem kidCnt_zero (x : Tw) (m : Int) (h : ∀ b, kidOf x b ≠ m) : kidCnt x m = 0 := by
  have h0 : ¬ x.1 = m := h 0
  have h1 : ¬ x.2.1 = m := h 1
  simp [kidCnt, h0, h1]
theorem cntT_zero : ∀ (l : List Tw) (m : Int), (∀ k, k < l.length → ∀ b, kidOf (atT l k) b ≠ m) → cntT l m = 0
  | [], _, _ => rfl
  | x :: l, m, h => by
    have h1 := kidCnt_zero x m (fun b => h 0 (by simp) b)
    have h2 := cntT_zero l m (fun k hk b => by simpa [atT] using h (k + 1) (by simpa using hk) b)
    show kidCnt x m + cntT l m = 0
    omega
theorem split_at (l : List Tw) (k : Nat) (hk : k < l.length) : l = l.take k ++ atT l k :: l.drop (k + 1) := by
  unfold atT
  rw [List.getD_eq_getElem?_getD, List.getElem?_eq_getElem hk]
  show l = l.take k ++ l[k] :: l.drop (k + 1)
  rw [List.getElem_cons_drop, List.take_append_drop]
theorem cnt_at (l : List Tw) (k : Nat) (hk : k < l.length) (m : Int) : cntT l m = cntT (l.take k) m + kidCnt (atT l k) m + cntT (l.drop (k + 1)) m := by
  conv => lhs; rw [split_at l k hk]
  rw [cntT_append]
  show _ + (kidCnt _ m + cntT _ m) = _
  omega
theorem atT_take (l : List Tw) (k j : Nat) (h : j < k) : atT (l.take k) j = atT l j := by
  unfold atT
  rw [List.getD_eq_getElem?_getD, List.getD_eq_getElem?_getD, List.getElem?_take, if_pos h]
theorem atT_drop (l : List Tw) (k j : Nat) : atT (l.drop k) j = atT l (k + j) := by
  unfold atT
  rw [List.getD_eq_getElem?_getD, List.getD_eq_getElem?_getD, List.getElem?_drop]
/-- One twig as it must be at its place. -/
def TwigOk (n i : Nat) (x : Tw) : Prop := (0 ≤ x.2.2 ∧ x.2.2 ≤ 99) ∧ (x.1 = 0 ∨ ((i : Int) + 1 ≤ x.1 ∧ x.1 ≤ (n : Int) - 1)) ∧ (x.2.1 = 0 ∨ ((i : Int) + 1 ≤ x.2.1 ∧ x.2.1 ≤ (n : Int) - 1))
theorem trieR_iff (l : List Tw) : TrieR l ↔ 1 ≤ l.length ∧ (∀ i, i < l.length → TwigOk l.length i (atT l i)) ∧ ∀ m : Nat, 1 ≤ m → m < l.length → cntT l m = 1 := by
  constructor
  · intro h
    refine ⟨h.pos, fun i hi => ⟨h.dest i hi, ?_, ?_⟩, fun m h1 hm => ?_⟩
    · rcases h.kids i hi 0 with g | ⟨m, g, g1, g2⟩
      · exact .inl g
      · have g' : (atT l i).1 = (m : Int) := g
        exact .inr (by omega)
    · rcases h.kids i hi 1 with g | ⟨m, g, g1, g2⟩
      · exact .inl g
      · have g' : (atT l i).2.1 = (m : Int) := g
        exact .inr (by omega)
    · obtain ⟨k, b, hk, hb⟩ := h.each m h1 hm
      have hne : kidOf (atT l k) b ≠ 0 := by omega
      have z1 : cntT (l.take k) m = 0 := cntT_zero _ _ fun j hj c e => by
        have hj' : j < k := by rw [List.length_take] at hj; omega
        rw [atT_take l k j hj'] at e
        have := (h.only k j hk (by omega) b c hne (by rw [hb, e])).1
        omega
      have z2 : cntT (l.drop (k + 1)) m = 0 := cntT_zero _ _ fun j hj c e => by
        rw [List.length_drop] at hj
        rw [atT_drop] at e
        have := (h.only k (k + 1 + j) hk (by omega) b c hne (by rw [hb, e])).1
        omega
      have z3 : kidCnt (atT l k) m = 1 := by
        have g0 := h.only k k hk hk b 0 hne
        have g1 := h.only k k hk hk b 1 hne
        rw [hb] at g0 g1
        have k0 : kidOf (atT l k) 0 = (atT l k).1 := rfl
        have k1 : kidOf (atT l k) 1 = (atT l k).2.1 := rfl
        rw [k0] at g0
        rw [k1] at g1
        unfold kidOf at hb
        unfold kidCnt
        by_cases hb1 : b = 1
        · rw [if_pos hb1] at hb
          rw [if_pos hb, if_neg (fun e => by have := (g0 e.symm).2; omega)]
          rfl
        · rw [if_neg hb1] at hb
          rw [if_pos hb, if_neg (fun e => by have := (g1 e.symm).2; omega)]
          rfl
      rw [cnt_at l k hk m, z1, z2, z3]
      rfl
  · rintro ⟨h1, h2, h3⟩
    have kid : ∀ i, i < l.length → ∀ b, kidOf (atT l i) b = 0 ∨ ∃ m : Nat, kidOf (atT l i) b = (m : Int) ∧ i < m ∧ m < l.length := fun i hi b => by
      obtain ⟨_, k0, k1⟩ := h2 i hi
      unfold kidOf
      split
      · rcases k1 with g | g
        · exact .inl g
        · exact .inr ⟨(atT l i).2.1.toNat, by omega, by omega, by omega⟩
      · rcases k0 with g | g
        · exact .inl g
        · exact .inr ⟨(atT l i).1.toNat, by omega, by omega, by omega⟩
    refine ⟨h1, kid, ?_, ?_, fun i hi => (h2 i hi).1⟩
    · have main : ∀ i j, i < j → i < l.length → j < l.length → ∀ b c, kidOf (atT l i) b ≠ 0 → kidOf (atT l i) b ≠ kidOf (atT l j) c := fun i j hij hi hj b c hne e => by
        rcases kid i hi b with g | ⟨m, g, g1, g2⟩
        · exact hne g
        · have hc := h3 m (by omega) g2
          have a1 := cntT_nn (l.take i) m
          have a2 := kidCnt_kid (atT l i) b m g
          have a3 := cntT_mem (l.drop (i + 1)) (j - (i + 1)) c m (by rw [List.length_drop]; omega) (by rw [atT_drop, show i + 1 + (j - (i + 1)) = j by omega, ← e, g])
          rw [cnt_at l i hi m] at hc
          omega
      intro i j hi hj b c hne e
      rcases Nat.lt_trichotomy i j with g | g | g
      · exact absurd e (main i j g hi hj b c hne)
      · refine ⟨g, ?_⟩
        subst g
        rcases kid i hi b with g | ⟨m, g, g1, g2⟩
        · exact absurd g hne
        · have hc := h3 m (by omega) g2
          have a1 := cntT_nn (l.take i) m
          have a3 := cntT_nn (l.drop (i + 1)) m
          rw [cnt_at l i hi m] at hc
          have hk2 : kidCnt (atT l i) m ≤ 1 := by omega
          rw [g] at e
          unfold kidOf at g e
          unfold kidCnt at hk2
          by_cases hb : b = 1 <;> by_cases hcc : c = 1
          · exact ⟨fun _ => hcc, fun _ => hb⟩
          · rw [if_pos hb] at g
            rw [if_neg hcc] at e
            rw [if_pos e.symm, if_pos g] at hk2
            omega
          · rw [if_neg hb] at g
            rw [if_pos hcc] at e
            rw [if_pos g, if_pos e.symm] at hk2
            omega
          · exact ⟨fun h => absurd h hb, fun h => absurd h hcc⟩
      · exact absurd e.symm (main j i g hj hi c b (by rw [← e]; exact hne))
    · intro m hm1 hm
      have hc := h3 m hm1 hm
      refine Classical.byContradiction fun hn => ?_
      have hz := cntT_zero l m (fun k hk b e => hn ⟨k, b, hk, e⟩)
      omega
/-- A right tree. -/
def TrieOkP (l : List Tw) : Prop := TrieR l ∧ l.length ≤ 400

end Go.Proofs.Ytkfcoldjgijpcap
