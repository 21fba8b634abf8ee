/-
  Heaps in plain words: keys that go up and down, places that are changed, what ascends; no program is spoken of here.
-/
import Derived.Test.YtphmomlgmnllkaqJ01
namespace Go.Proofs.Ytphmomlgmnllkaq

/-- Keys of which two have changed places. -/
def swp (k : Nat → Int) (i j : Nat) : Nat → Int := fun x => if x = i then k j else if x = j then k i else k x
theorem swp_l (k : Nat → Int) (i j : Nat) : swp k i j i = k j := if_pos rfl
theorem swp_r (k : Nat → Int) (i j : Nat) : swp k i j j = k i := by
  unfold swp
  by_cases h : j = i
  · rw [if_pos h, h]
  · rw [if_neg h, if_pos rfl]
theorem swp_o (k : Nat → Int) {i j x : Nat} (h : x ≠ i) (h2 : x ≠ j) : swp k i j x = k x := by unfold swp; rw [if_neg h, if_neg h2]

/-- Of the first n none is less than the one above it. -/
def HeapK (k : Nat → Int) (n : Nat) : Prop := ∀ c, 0 < c → c < n → k ((c - 1) / 2) ≤ k c
/-- The same but for the place i. -/
def ButK (k : Nat → Int) (n i : Nat) : Prop := (∀ c, 0 < c → c < n → c ≠ i → (c - 1) / 2 ≠ i → k ((c - 1) / 2) ≤ k c) ∧ ∀ c, 0 < c → c < n → (c - 1) / 2 = i → 0 < i → k ((i - 1) / 2) ≤ k c
/-- The same but for what is above j. -/
def UpK (k : Nat → Int) (n j : Nat) : Prop := (∀ c, 0 < c → c < n → c ≠ j → k ((c - 1) / 2) ≤ k c) ∧ ∀ c, 0 < c → c < n → (c - 1) / 2 = j → 0 < j → k ((j - 1) / 2) ≤ k c
/-- The same but for what is below i. -/
def DownK (k : Nat → Int) (n i : Nat) : Prop := ButK k n i ∧ (0 < i → k ((i - 1) / 2) ≤ k i)

theorem UpK.step {k : Nat → Int} {n j : Nat} (h : UpK k n j) (hj : 0 < j) (hn : j < n) (hlt : k j < k ((j - 1) / 2)) : UpK (swp k ((j - 1) / 2) j) n ((j - 1) / 2) := by
  obtain ⟨h1, h2⟩ := h
  have hij : (j - 1) / 2 < j := by omega
  constructor
  · intro c c0 cn ci
    by_cases hcj : c = j
    · subst hcj
      rw [swp_l, swp_r]
      omega
    · rw [swp_o k ci hcj]
      by_cases hp : (c - 1) / 2 = (j - 1) / 2
      · have := h1 c c0 cn hcj
        rw [hp] at this ⊢
        rw [swp_l]
        omega
      · by_cases hq : (c - 1) / 2 = j
        · have := h2 c c0 cn hq hj
          rw [hq, swp_r]
          exact this
        · rw [swp_o k hp hq]
          exact h1 c c0 cn hcj
  · intro c c0 cn hp hi
    have e1 : ((j - 1) / 2 - 1) / 2 ≠ (j - 1) / 2 := by omega
    have e2 : ((j - 1) / 2 - 1) / 2 ≠ j := by omega
    rw [swp_o k e1 e2]
    have h3 := h1 ((j - 1) / 2) hi (by omega) (by omega)
    by_cases hcj : c = j
    · subst hcj
      rw [swp_r]
      exact h3
    · rw [swp_o k (by omega) hcj]
      have h4 := h1 c c0 cn hcj
      rw [hp] at h4
      omega
theorem UpK.done {k : Nat → Int} {n j : Nat} (h : UpK k n j) (hj : j = 0 ∨ k ((j - 1) / 2) ≤ k j) : HeapK k n := by
  intro c c0 cn
  by_cases hc : c = j
  · subst hc
    rcases hj with hj | hj
    · omega
    · exact hj
  · exact h.1 c c0 cn hc
theorem HeapK.up {k : Nat → Int} {n : Nat} (h : HeapK k n) : UpK k (n + 1) n := ⟨fun c c0 cn hc => h c c0 (by omega), fun c c0 cn hp h0 => by omega⟩
theorem ButK.step {k : Nat → Int} {n i j : Nat} (h : ButK k n i) (hj : (j - 1) / 2 = i) (j0 : 0 < j) (hn : j < n) (hlt : k j < k i) (hm : ∀ c, 0 < c → c < n → (c - 1) / 2 = i → k j ≤ k c) : DownK (swp k i j) n j := by
  obtain ⟨h1, h2⟩ := h
  have hij : i < j := by omega
  refine ⟨⟨fun c c0 cn hcj hpj => ?_, fun c c0 cn hp _ => ?_⟩, fun _ => ?_⟩
  · by_cases hci : c = i
    · subst hci
      rw [swp_l, swp_o k (by omega) (by omega)]
      exact h2 j j0 hn hj c0
    · rw [swp_o k hci hcj]
      by_cases hp : (c - 1) / 2 = i
      · rw [hp, swp_l]
        exact hm c c0 cn hp
      · rw [swp_o k hp hpj]
        exact h1 c c0 cn hci hp
  · rw [hj, swp_l, swp_o k (by omega) (by omega)]
    have := h1 c c0 cn (by omega) (by omega)
    rw [hp] at this
    exact this
  · rw [hj, swp_l, swp_r]
    omega
theorem DownK.done {k : Nat → Int} {n i : Nat} (h : DownK k n i) (hm : ∀ c, 0 < c → c < n → (c - 1) / 2 = i → k i ≤ k c) : HeapK k n := by
  intro c c0 cn
  by_cases hp : (c - 1) / 2 = i
  · rw [hp]
    exact hm c c0 cn hp
  · by_cases hc : c = i
    · subst hc
      exact h.2 c0
    · exact h.1.1 c c0 cn hc hp
theorem ButK.done {k : Nat → Int} {n i : Nat} (h : ButK k n i) (hm : ∀ c, 0 < c → c < n → (c - 1) / 2 = i → k i ≤ k c) : UpK k n i := by
  refine ⟨fun c c0 cn hc => ?_, h.2⟩
  by_cases hp : (c - 1) / 2 = i
  · rw [hp]
    exact hm c c0 cn hp
  · exact h.1 c c0 cn hc hp
/-- The one at i is another one, the last one is left out. -/
theorem HeapK.but {k : Nat → Int} {n i : Nat} (h : HeapK k (n + 1)) (hi : i ≤ n) : ButK (swp k i n) n i := by
  refine ⟨fun c c0 cn hc hp => ?_, fun c c0 cn hp h0 => ?_⟩
  · rw [swp_o k hc (by omega), swp_o k hp (by omega)]
    exact h c c0 (by omega)
  · rw [swp_o k (by omega) (by omega), swp_o k (by omega) (by omega)]
    have h1 := h c c0 (by omega)
    have h2 := h i h0 (by omega)
    rw [hp] at h1
    omega
theorem HeapK.least {k : Nat → Int} {n : Nat} (h : HeapK k n) : ∀ c, c < n → k 0 ≤ k c := by
  intro c
  induction c using Nat.strongRecOn with
  | _ c ih =>
    intro hc
    by_cases h0 : c = 0
    · subst h0
      exact Int.le_refl _
    · have h1 := ih ((c - 1) / 2) (by omega) (by omega)
      have h2 := h c (by omega) hc
      omega
theorem HeapK.congr {k m : Nat → Int} {n : Nat} (h : HeapK k n) (e : ∀ c, c < n → k c = m c) : HeapK m n := fun c c0 cn => by
  rw [← e c cn, ← e ((c - 1) / 2) (by omega)]
  exact h c c0 cn

/-- Two places of a list are changed. -/
def swapL (ps : List Nat) (i j : Nat) : List Nat := (ps.set i (ps.getD j 0)).set j (ps.getD i 0)
def swapI (i j x : Nat) : Nat := if x = i then j else if x = j then i else x
theorem swapI_twice (i j x : Nat) : swapI i j (swapI i j x) = x := by
  unfold swapI
  by_cases h1 : x = i
  · subst h1
    rw [if_pos rfl]
    by_cases h2 : j = x
    · rw [if_pos h2, h2]
    · rw [if_neg h2, if_pos rfl]
  · rw [if_neg h1]
    by_cases h2 : x = j
    · rw [if_pos h2, if_pos rfl, h2]
    · rw [if_neg h2, if_neg h1, if_neg h2]
theorem swapL_length (ps : List Nat) (i j : Nat) : (swapL ps i j).length = ps.length := by unfold swapL; simp
theorem swapL_get (ps : List Nat) {i j : Nat} (hi : i < ps.length) (hj : j < ps.length) (x : Nat) : (swapL ps i j)[x]? = ps[swapI i j x]? := by
  have ei : ps[i]? = some (ps.getD i 0) := by rw [List.getD_eq_getElem?_getD, List.getElem?_eq_getElem hi]; rfl
  have ej : ps[j]? = some (ps.getD j 0) := by rw [List.getD_eq_getElem?_getD, List.getElem?_eq_getElem hj]; rfl
  unfold swapL swapI
  by_cases h2 : x = j
  · subst h2
    rw [List.getElem?_set_self (by simpa using hj)]
    by_cases h1 : x = i
    · rw [if_pos h1, ej, h1]
    · rw [if_neg h1, if_pos rfl, ei]
  · rw [List.getElem?_set_ne (fun e => h2 e.symm)]
    by_cases h1 : x = i
    · subst h1
      rw [List.getElem?_set_self hi, if_pos rfl, ej]
    · rw [List.getElem?_set_ne (fun e => h1 e.symm), if_neg h1, if_neg h2]
theorem swapL_mem (ps : List Nat) {i j : Nat} (hi : i < ps.length) (hj : j < ps.length) (x : Nat) : x ∈ swapL ps i j ↔ x ∈ ps := by
  rw [List.mem_iff_getElem?, List.mem_iff_getElem?]
  constructor
  · rintro ⟨m, hm⟩
    rw [swapL_get ps hi hj] at hm
    exact ⟨_, hm⟩
  · rintro ⟨m, hm⟩
    refine ⟨swapI i j m, ?_⟩
    rw [swapL_get ps hi hj, swapI_twice]
    exact hm
theorem nodup_get {ps : List Nat} : ps.Nodup ↔ ∀ (i j x : Nat), ps[i]? = some x → ps[j]? = some x → i = j := by
  constructor
  · intro h i j x hi hj
    obtain ⟨l1, e1⟩ := List.getElem?_eq_some_iff.1 hi
    obtain ⟨l2, e2⟩ := List.getElem?_eq_some_iff.1 hj
    rcases Nat.lt_trichotomy i j with h3 | h3 | h3
    · exact absurd (e1.trans e2.symm) (List.pairwise_iff_getElem.1 h i j l1 l2 h3)
    · exact h3
    · exact absurd (e2.trans e1.symm) (List.pairwise_iff_getElem.1 h j i l2 l1 h3)
  · intro h
    refine List.pairwise_iff_getElem.2 fun i j hi hj hij e => ?_
    have := h i j ps[i] (List.getElem?_eq_getElem hi) (by rw [e]; exact List.getElem?_eq_getElem hj)
    omega
theorem swapL_nodup {ps : List Nat} {i j : Nat} (hi : i < ps.length) (hj : j < ps.length) (h : ps.Nodup) : (swapL ps i j).Nodup := by
  rw [nodup_get] at h ⊢
  intro a b x ha hb
  rw [swapL_get ps hi hj] at ha hb
  have := congrArg (swapI i j) (h _ _ x ha hb)
  rwa [swapI_twice, swapI_twice] at this

/-- The keys of a list, by place. -/
def keyL (key : Nat → Int) (ps : List Nat) : Nat → Int := fun x => key (ps.getD x 0)
theorem keyL_swap (key : Nat → Int) (ps : List Nat) {i j : Nat} (hi : i < ps.length) (hj : j < ps.length) : keyL key (swapL ps i j) = swp (keyL key ps) i j := by
  funext x
  show key ((swapL ps i j).getD x 0) = if x = i then key (ps.getD j 0) else if x = j then key (ps.getD i 0) else key (ps.getD x 0)
  rw [List.getD_eq_getElem?_getD, swapL_get ps hi hj]
  unfold swapI
  by_cases h1 : x = i
  · rw [if_pos h1, if_pos h1, List.getD_eq_getElem?_getD]
  · rw [if_neg h1, if_neg h1]
    by_cases h2 : x = j
    · rw [if_pos h2, if_pos h2, List.getD_eq_getElem?_getD]
    · rw [if_neg h2, if_neg h2, List.getD_eq_getElem?_getD]

/-- The same ones at other places, behind n the same at the same. -/
structure Moved (ps qs : List Nat) (n : Nat) : Prop where
  len : qs.length = ps.length
  mem : ∀ x, x ∈ qs ↔ x ∈ ps
  dup : ps.Nodup → qs.Nodup
  rest : ∀ x, n ≤ x → qs[x]? = ps[x]?
theorem Moved.refl (ps : List Nat) (n : Nat) : Moved ps ps n := ⟨rfl, fun _ => Iff.rfl, id, fun _ _ => rfl⟩
theorem Moved.trans {ps qs rs : List Nat} {n : Nat} (h : Moved ps qs n) (k : Moved qs rs n) : Moved ps rs n :=
  ⟨k.len.trans h.len, fun x => (k.mem x).trans (h.mem x), fun d => k.dup (h.dup d), fun x hx => (k.rest x hx).trans (h.rest x hx)⟩
theorem Moved.swap {ps : List Nat} {i j n : Nat} (hi : i < ps.length) (hj : j < ps.length) (h1 : i < n) (h2 : j < n) : Moved ps (swapL ps i j) n :=
  ⟨swapL_length ps i j, swapL_mem ps hi hj, swapL_nodup hi hj, fun x hx => by rw [swapL_get ps hi hj]; unfold swapI; rw [if_neg (by omega), if_neg (by omega)]⟩
theorem Moved.more {ps qs : List Nat} {n m : Nat} (h : Moved ps qs n) (hm : n ≤ m) : Moved ps qs m := ⟨h.len, h.mem, h.dup, fun x hx => h.rest x (by omega)⟩

/-- All but the last one. -/
theorem take_last_mem {qs : List Nat} {n p : Nat} (hl : qs.length = n + 1) (hp : qs[n]? = some p) (hd : qs.Nodup) (x : Nat) : x ∈ qs.take n ↔ x ∈ qs ∧ x ≠ p := by
  rw [List.mem_iff_getElem?]
  constructor
  · rintro ⟨m, hm⟩
    have hlt := (List.getElem?_eq_some_iff.1 hm).1
    rw [List.length_take] at hlt
    rw [List.getElem?_take, if_pos (by omega)] at hm
    refine ⟨List.mem_of_getElem? hm, fun e => ?_⟩
    subst e
    have := nodup_get.1 hd m n x hm hp
    omega
  · rintro ⟨hx, hne⟩
    obtain ⟨m, hm⟩ := List.mem_iff_getElem?.1 hx
    have hlt := (List.getElem?_eq_some_iff.1 hm).1
    refine ⟨m, ?_⟩
    rw [List.getElem?_take, if_pos]
    · exact hm
    · rcases Nat.lt_or_ge m n with h | h
      · exact h
      · have : m = n := by omega
        subst this
        rw [hp] at hm
        exact absurd (Option.some.inj hm).symm hne
theorem take_nodup {qs : List Nat} (n : Nat) (hd : qs.Nodup) : (qs.take n).Nodup := List.Sublist.nodup (List.take_sublist n qs) hd
theorem keyL_take (key : Nat → Int) (qs : List Nat) {n c : Nat} (h : c < n) : keyL key (qs.take n) c = keyL key qs c := by
  unfold keyL
  rw [List.getD_eq_getElem?_getD, List.getD_eq_getElem?_getD, List.getElem?_take, if_pos h]
theorem keyL_append (key : Nat → Int) (qs rs : List Nat) {c : Nat} (h : c < qs.length) : keyL key (qs ++ rs) c = keyL key qs c := by
  unfold keyL
  rw [List.getD_eq_getElem?_getD, List.getD_eq_getElem?_getD, List.getElem?_append_left h]
theorem keyL_get (key : Nat → Int) {qs : List Nat} {c p : Nat} (h : qs[c]? = some p) : keyL key qs c = key p := by
  unfold keyL
  rw [List.getD_eq_getElem?_getD, h]
  rfl

/-- Two lists that ascend and hold the same are one. -/
theorem asc_one {α : Type} {R : α → α → Prop} (irr : ∀ x, ¬ R x x) (tr : ∀ {x y z}, R x y → R y z → R x z) : ∀ {l m : List α}, l.Pairwise R → m.Pairwise R → (∀ x, x ∈ l ↔ x ∈ m) → l = m
  | [], [], _, _, _ => rfl
  | [], y :: m, _, _, h => by cases (h y).2 List.mem_cons_self
  | x :: l, [], _, _, h => by cases (h x).1 List.mem_cons_self
  | x :: l, y :: m, hl, hm, h => by
    obtain ⟨l1, l2⟩ := List.pairwise_cons.1 hl
    obtain ⟨m1, m2⟩ := List.pairwise_cons.1 hm
    have hxy : x = y := by
      rcases List.mem_cons.1 ((h x).1 List.mem_cons_self) with e | hx
      · exact e
      · rcases List.mem_cons.1 ((h y).2 List.mem_cons_self) with e | hy
        · exact e.symm
        · exact absurd (tr (m1 x hx) (l1 y hy)) (irr y)
    subst hxy
    congr 1
    refine asc_one irr tr l2 m2 fun z => ?_
    constructor
    · intro hz
      rcases List.mem_cons.1 ((h z).1 (List.mem_cons_of_mem _ hz)) with e | h'
      · subst e
        exact absurd (l1 z hz) (irr z)
      · exact h'
    · intro hz
      rcases List.mem_cons.1 ((h z).2 (List.mem_cons_of_mem _ hz)) with e | h'
      · subst e
        exact absurd (m1 z hz) (irr z)
      · exact h'

end Go.Proofs.Ytphmomlgmnllkaq
