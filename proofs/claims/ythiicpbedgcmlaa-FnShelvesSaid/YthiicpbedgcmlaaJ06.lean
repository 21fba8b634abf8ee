/-
  What is held of long texts, in plain words; no program is spoken of here.
  The given test of a range, by what it answers.
-/
import Derived.Test.YthiicpbedgcmlaaJ05
import Derived.Test.YthiicpbedgcmlaaRows
import Derived.Test.YthiicpbedgcmlaaJ01
namespace Go.Proofs.Ythiicpbedgcmlaa

/-- From, Id, Count, Parts, Have, Until. -/
abbrev HeldV := Int × Int × Int × (List ByteArray) × (List Bool) × Int
/-- Right but for what is there. -/
def HeldQ (x : HeldV) : Prop :=
  (1 ≤ x.1 ∧ x.1 ≤ 99) ∧ (0 ≤ x.2.1 ∧ x.2.1 ≤ 255) ∧ (2 ≤ x.2.2.1 ∧ x.2.2.1 ≤ 15) ∧ (x.2.2.2.1.length : Int) = x.2.2.1 ∧ (x.2.2.2.2.1.length : Int) = x.2.2.1 ∧ (0 ≤ x.2.2.2.2.2 ∧ x.2.2.2.2.2 ≤ 1000000000) ∧
  ∀ (i : Nat) (p : ByteArray), x.2.2.2.1[i]? = some p → p.size ≤ 120 ∧ (x.2.2.2.2.1[i]? = some false → p = ⟨#[]⟩)
/-- Right ones. -/
def HeldP (x : HeldV) : Prop := HeldQ x ∧ true ∈ x.2.2.2.2.1 ∧ false ∈ x.2.2.2.2.1
/-- Of one From and Id. -/
abbrev SameV (a b : Int) (x : HeldV) : Prop := x.1 = a ∧ x.2.1 = b
/-- A right shelf. -/
def ShelfP (l : List HeldV) : Prop := l.length ≤ 3 ∧ (∀ x ∈ l, HeldP x) ∧ l.Pairwise (fun x y => ¬ (x.1 = y.1 ∧ x.2.1 = y.2.1))
/-- A part in its place; one that is there stays. -/
def setV (j : Nat) (p : ByteArray) (x : HeldV) : HeldV := if x.2.2.2.2.1[j]? = some true then x else (x.1, x.2.1, x.2.2.1, x.2.2.2.1.set j p, x.2.2.2.2.1.set j true, x.2.2.2.2.2)
/-- A new one. -/
def newV (a b c now : Int) : HeldV := (a, b, c, List.replicate c.toNat ⟨#[]⟩, List.replicate c.toNat false, now + 8)
/-- The one that is held under From, Id and Count, or a new one. -/
def gotV (l : List HeldV) (a b c now : Int) : HeldV := (l.find? (fun x => decide (SameV a b x ∧ x.2.2.1 = c))).getD (newV a b c now)
/-- All parts, one behind another. -/
def wholeV (l : List ByteArray) : ByteArray := l.foldl (· ++ ·) ⟨#[]⟩
/-- Without those of From and Id. -/
def restV (l : List HeldV) (a b : Int) : List HeldV := l.filter (fun x => decide (¬ SameV a b x))
/-- With another one in the place of those of From, Id and Count. -/
def placeV (l : List HeldV) (a b c : Int) (y : HeldV) : List HeldV := l.map (fun x => if SameV a b x ∧ x.2.2.1 = c then y else x)
/-- Whether it is among them. -/
def HasV (l : List HeldV) (a b c : Int) : Prop := ∃ x ∈ l, SameV a b x ∧ x.2.2.1 = c
/-- When a part is taken. -/
def AddP (l : List HeldV) (a : Int) (t : ByteArray) (now : Int) : Prop := ShelfP l ∧ (1 ≤ a ∧ a ≤ 99) ∧ PieceP t ∧ t.size ≤ 123 ∧ (0 ≤ now ∧ now ≤ 999999992)
/-- What AddPart tells of a part that is taken and not alone. -/
def AddMore (l : List HeldV) (a b c now : Int) (j : Nat) (p : ByteArray) (l' : List HeldV) (whole : ByteArray) (done : Bool) : Prop :=
  (false ∉ (setV j p (gotV l a b c now)).2.2.2.2.1 ∧ l' = restV l a b ∧ whole = wholeV (setV j p (gotV l a b c now)).2.2.2.1 ∧ done = true) ∨
  (false ∈ (setV j p (gotV l a b c now)).2.2.2.2.1 ∧ HasV l a b c ∧ l' = placeV l a b c (setV j p (gotV l a b c now)) ∧ whole = ⟨#[]⟩ ∧ done = false) ∨
  (false ∈ (setV j p (gotV l a b c now)).2.2.2.2.1 ∧ ¬ HasV l a b c ∧ l' = (if (restV l a b).length = 3 then (restV l a b).drop 1 else restV l a b) ++ [setV j p (gotV l a b c now)] ∧ whole = ⟨#[]⟩ ∧ done = false)
/-- What AddPart tells. -/
def AddIs (l : List HeldV) (a : Int) (t : ByteArray) (now : Int) (l' : List HeldV) (whole : ByteArray) (done : Bool) : Prop :=
  (AddP l a t now ∧ byteAt t 2 = 1 ∧ l' = l ∧ whole = t.extract 3 t.size ∧ done = true) ∨
  (AddP l a t now ∧ byteAt t 2 ≠ 1 ∧ AddMore l a (byteAt t 0 : Nat) (byteAt t 2 : Nat) now (byteAt t 1) (t.extract 3 t.size) l' whole done) ∨
  (¬ AddP l a t now ∧ l' = l ∧ whole = ⟨#[]⟩ ∧ done = false)
theorem add_is (l : List HeldV) (a : Int) (t : ByteArray) (now : Int) : ∃ l' whole done, AddIs l a t now l' whole done := by
  by_cases h : AddP l a t now
  · by_cases h1 : byteAt t 2 = 1
    · exact ⟨_, _, _, .inl ⟨h, h1, rfl, rfl, rfl⟩⟩
    · by_cases h2 : false ∈ (setV (byteAt t 1) (t.extract 3 t.size) (gotV l a (byteAt t 0 : Nat) (byteAt t 2 : Nat) now)).2.2.2.2.1
      · by_cases h3 : HasV l a (byteAt t 0 : Nat) (byteAt t 2 : Nat)
        · exact ⟨_, _, _, .inr (.inl ⟨h, h1, .inr (.inl ⟨h2, h3, rfl, rfl, rfl⟩)⟩)⟩
        · exact ⟨_, _, _, .inr (.inl ⟨h, h1, .inr (.inr ⟨h2, h3, rfl, rfl, rfl⟩)⟩)⟩
      · exact ⟨_, _, _, .inr (.inl ⟨h, h1, .inl ⟨h2, rfl, rfl, rfl⟩⟩)⟩
  · exact ⟨_, _, _, .inr (.inr ⟨h, rfl, rfl, rfl⟩)⟩
/-- What TidyShelf leaves. -/
def tidyV (l : List HeldV) (now : Int) : List HeldV := l.filter (fun x => decide (now < x.2.2.2.2.2))
theorem pairwise_filter {α : Type} {R : α → α → Prop} (p : α → Bool) {l : List α} (h : l.Pairwise R) : (l.filter p).Pairwise R := h.sublist List.filter_sublist
theorem tidy_right {l : List HeldV} (h : ShelfP l) (now : Int) : ShelfP (tidyV l now) :=
  ⟨Nat.le_trans (List.length_filter_le _ _) h.1, fun x hx => h.2.1 x (List.mem_filter.1 hx).1, pairwise_filter _ h.2.2⟩
theorem rest_right {l : List HeldV} (h : ShelfP l) (a b : Int) : ShelfP (restV l a b) :=
  ⟨Nat.le_trans (List.length_filter_le _ _) h.1, fun x hx => h.2.1 x (List.mem_filter.1 hx).1, pairwise_filter _ h.2.2⟩
/-- What is held under From, Id and Count is of these. -/
theorem got_of {l : List HeldV} {a b c now : Int} : SameV a b (gotV l a b c now) ∧ (gotV l a b c now).2.2.1 = c := by
  unfold gotV
  cases h : l.find? (fun x => decide (SameV a b x ∧ x.2.2.1 = c)) with
  | none => exact ⟨⟨rfl, rfl⟩, rfl⟩
  | some x =>
    have h2 := List.find?_some h
    exact of_decide_eq_true h2
theorem set_of {j : Nat} {p : ByteArray} {x : HeldV} : (setV j p x).1 = x.1 ∧ (setV j p x).2.1 = x.2.1 ∧ (setV j p x).2.2.1 = x.2.2.1 ∧ (setV j p x).2.2.2.2.2 = x.2.2.2.2.2 := by
  unfold setV
  split <;> exact ⟨rfl, rfl, rfl, rfl⟩

theorem new_q {a b c now : Int} (ha : 1 ≤ a ∧ a ≤ 99) (hb : 0 ≤ b ∧ b ≤ 255) (hc : 2 ≤ c ∧ c ≤ 15) (hn : 0 ≤ now ∧ now ≤ 999999992) : HeldQ (newV a b c now) := by
  refine ⟨ha, hb, hc, ?_, ?_, ⟨?_, ?_⟩, fun i p h => ?_⟩
  · show ((List.replicate c.toNat (⟨#[]⟩ : ByteArray)).length : Int) = c
    rw [List.length_replicate]
    omega
  · show ((List.replicate c.toNat false).length : Int) = c
    rw [List.length_replicate]
    omega
  · show 0 ≤ now + 8
    omega
  · show now + 8 ≤ 1000000000
    omega
  · have h2 : (List.replicate c.toNat (⟨#[]⟩ : ByteArray))[i]? = some p := h
    rw [List.getElem?_replicate] at h2
    split at h2
    · cases h2
      exact ⟨Nat.zero_le _, fun _ => rfl⟩
    · cases h2
theorem set_q {j : Nat} {p : ByteArray} {x : HeldV} (h : HeldQ x) (hj : (j : Int) < x.2.2.1) (hp : p.size ≤ 120) : HeldQ (setV j p x) ∧ true ∈ (setV j p x).2.2.2.2.1 := by
  obtain ⟨h1, h2, h3, h4, h5, h6, h7⟩ := h
  unfold setV
  by_cases e : x.2.2.2.2.1[j]? = some true
  · rw [if_pos e]
    exact ⟨⟨h1, h2, h3, h4, h5, h6, h7⟩, List.mem_of_getElem? e⟩
  · rw [if_neg e]
    refine ⟨⟨h1, h2, h3, ?_, ?_, h6, fun i q hq => ?_⟩, ?_⟩
    · show ((x.2.2.2.1.set j p).length : Int) = _
      rw [List.length_set]; exact h4
    · show ((x.2.2.2.2.1.set j true).length : Int) = _
      rw [List.length_set]; exact h5
    · have hq2 : (x.2.2.2.1.set j p)[i]? = some q := hq
      show q.size ≤ 120 ∧ ((x.2.2.2.2.1.set j true)[i]? = some false → q = ⟨#[]⟩)
      by_cases hij : j = i
      · subst hij
        rw [List.getElem?_set_self (by omega)] at hq2 ⊢
        cases hq2
        exact ⟨hp, fun hf => by cases hf⟩
      · rw [List.getElem?_set_ne hij] at hq2 ⊢
        exact h7 i q hq2
    · show true ∈ x.2.2.2.2.1.set j true
      exact List.mem_of_getElem? (i := j) (List.getElem?_set_self (by omega))
theorem got_q {l : List HeldV} (h : ShelfP l) {a b c now : Int} (ha : 1 ≤ a ∧ a ≤ 99) (hb : 0 ≤ b ∧ b ≤ 255) (hc : 2 ≤ c ∧ c ≤ 15) (hn : 0 ≤ now ∧ now ≤ 999999992) : HeldQ (gotV l a b c now) := by
  unfold gotV
  cases e : l.find? (fun x => decide (SameV a b x ∧ x.2.2.1 = c)) with
  | none => exact new_q ha hb hc hn
  | some x => exact (h.2.1 x (List.mem_of_find?_eq_some e)).1
/-- What comes of a part stays right. -/
theorem add_right {l l' : List HeldV} {a : Int} {t whole : ByteArray} {now : Int} {done : Bool} (hl : ShelfP l) (h : AddIs l a t now l' whole done) : ShelfP l' := by
  rcases h with ⟨_, _, rfl, _⟩ | ⟨⟨_, ha, hp, hz, hn⟩, hc1, h⟩ | ⟨_, rfl, _⟩
  · exact hl
  · have hb0 := byteAt_lt t 0
    have hb : (0 : Int) ≤ (byteAt t 0 : Nat) ∧ ((byteAt t 0 : Nat) : Int) ≤ 255 := ⟨by omega, by omega⟩
    have hc : (2 : Int) ≤ (byteAt t 2 : Nat) ∧ ((byteAt t 2 : Nat) : Int) ≤ 15 := ⟨by have := hp.2.1; omega, by have := hp.2.1; omega⟩
    have hg := got_of (l := l) (a := a) (b := (byteAt t 0 : Nat)) (c := (byteAt t 2 : Nat)) (now := now)
    have hq := set_q (j := byteAt t 1) (p := t.extract 3 t.size) (got_q hl ha hb hc hn) (by rw [hg.2]; have := hp.2.2; omega) (by rw [ByteArray.size_extract]; omega)
    have hs := set_of (j := byteAt t 1) (p := t.extract 3 t.size) (x := gotV l a (byteAt t 0 : Nat) (byteAt t 2 : Nat) now)
    unfold AddMore at h
    generalize setV (byteAt t 1) (t.extract 3 t.size) (gotV l a (byteAt t 0 : Nat) (byteAt t 2 : Nat) now) = y at *
    rw [hg.1.1, hg.1.2, hg.2] at hs
    have hr := rest_right hl a (byteAt t 0 : Nat)
    rcases h with ⟨_, rfl, _⟩ | ⟨hf, _, rfl, _⟩ | ⟨hf, _, rfl, _⟩
    · exact hr
    · refine ⟨by unfold placeV; rw [List.length_map]; exact hl.1, fun x hx => ?_, ?_⟩
      · obtain ⟨z, hz1, rfl⟩ := List.mem_map.1 hx
        split
        · exact ⟨hq.1, hq.2, hf⟩
        · exact hl.2.1 z hz1
      · unfold placeV
        rw [List.pairwise_map]
        refine hl.2.2.imp (fun {u v} huv => ?_)
        split <;> split
        · rename_i h1 h2
          exact absurd ⟨h1.1.1.trans h2.1.1.symm, h1.1.2.trans h2.1.2.symm⟩ huv
        · rename_i h1 h2
          rw [hs.1, hs.2.1]
          intro e
          exact huv ⟨h1.1.1.trans e.1, h1.1.2.trans e.2⟩
        · rename_i h1 h2
          rw [hs.1, hs.2.1]
          intro e
          exact huv ⟨e.1.trans h2.1.1.symm, e.2.trans h2.1.2.symm⟩
        · exact huv
    · have hno : ∀ x ∈ restV l a (byteAt t 0 : Nat), ¬ (x.1 = y.1 ∧ x.2.1 = y.2.1) := fun x hx e => by
        have h1 := of_decide_eq_true (List.mem_filter.1 hx).2
        rw [hs.1, hs.2.1] at e
        exact h1 e
      have key : ∀ m : List HeldV, m.Sublist (restV l a (byteAt t 0 : Nat)) → m.length ≤ 2 → ShelfP (m ++ [y]) := fun m hm hl2 => by
        refine ⟨by rw [List.length_append]; simp; omega, fun x hx => ?_, ?_⟩
        · rcases List.mem_append.1 hx with hx | hx
          · exact hr.2.1 x (hm.subset hx)
          · rw [List.mem_singleton.1 hx]
            exact ⟨hq.1, hq.2, hf⟩
        · refine List.pairwise_append.2 ⟨hr.2.2.sublist hm, List.pairwise_singleton _ _, fun x hx z hz => ?_⟩
          rw [List.mem_singleton.1 hz]
          exact hno x (hm.subset hx)
      have h3 := hr.1
      split
      · exact key _ (List.drop_sublist _ _) (by rw [List.length_drop]; omega)
      · rename_i h9
        exact key (restV l a (byteAt t 0 : Nat)) (List.Sublist.refl _) (by omega)
  · exact hl

end Go.Proofs.Ythiicpbedgcmlaa
namespace Go.Proofs.Ythiicpbedgcmlaa
open Go.RowKit

theorem inRange_yes (x a b : Int) (h0 : a ≤ x) (h1 : x ≤ b) (w : World) :
    Calls Try.prog 27 #[.int .i64 x, .int .i64 a, .int .i64 b] w fun e w' => e = .returned (.bool true) ∧ w' = w := by
  go_enter Try.func27, Try.ntmps27
  go_wp2
  go_ret
  exact ⟨rfl, rfl⟩

theorem inRange_no (x a b : Int) (h : x < a ∨ b < x) (w : World) :
    Calls Try.prog 27 #[.int .i64 x, .int .i64 a, .int .i64 b] w fun e w' => e = .returned (.bool false) ∧ w' = w := by
  by_cases hx : x < a
  · go_enter Try.func27, Try.ntmps27
    go_wp2
    go_ret
    exact ⟨rfl, rfl⟩
  · have h0 : a ≤ x := by omega
    have h1 : decide (x ≤ b) = false := decide_eq_false (by omega)
    clear h hx
    go_enter Try.func27, Try.ntmps27
    go_wp2
    go_ret
    exact ⟨rfl, rfl⟩

end Go.Proofs.Ythiicpbedgcmlaa
