/-
  One that is held among others, in plain words; no program is spoken of here.
  What placeFor leaves, against what AddPart is to tell.
-/
import Derived.Test.YthiicpbedgcmlaaJ06
import Derived.Test.YthiicpbedgcmlaaJ21
namespace Go.Proofs.Ythiicpbedgcmlaa

section
variable {X Y : List HeldV} {x y : HeldV} {a d c now : Int}
theorem filter_all {α : Type} {p : α → Bool} {l : List α} (h : ∀ z ∈ l, p z = true) : l.filter p = l := List.filter_eq_self.2 h
theorem rest_split (hx : SameV a d x) (h1 : ∀ z ∈ X, ¬ SameV a d z) (h2 : ∀ z ∈ Y, ¬ SameV a d z) : restV (X ++ x :: Y) a d = X ++ Y := by
  unfold restV
  rw [List.filter_append, List.filter_cons, if_neg (by simpa using hx), filter_all (fun z hz => decide_eq_true (h1 z hz)), filter_all (fun z hz => decide_eq_true (h2 z hz))]
theorem map_same {f : HeldV → HeldV} {l : List HeldV} (h : ∀ z ∈ l, f z = z) : l.map f = l := by
  induction l with
  | nil => rfl
  | cons z l ih => rw [List.map_cons, h z List.mem_cons_self, ih (fun q hq => h q (List.mem_cons_of_mem _ hq))]
theorem place_split (hx : SameV a d x) (hc : x.2.2.1 = c) (h1 : ∀ z ∈ X, ¬ SameV a d z) (h2 : ∀ z ∈ Y, ¬ SameV a d z) : placeV (X ++ x :: Y) a d c y = X ++ y :: Y := by
  unfold placeV
  rw [List.map_append, List.map_cons, if_pos ⟨hx, hc⟩, map_same (fun z hz => if_neg (fun h => h1 z hz h.1)), map_same (fun z hz => if_neg (fun h => h2 z hz h.1))]
theorem got_split (hx : SameV a d x) (hc : x.2.2.1 = c) (h1 : ∀ z ∈ X, ¬ SameV a d z) : gotV (X ++ x :: Y) a d c now = x := by
  unfold gotV
  have e : (X ++ x :: Y).find? (fun z => decide (SameV a d z ∧ z.2.2.1 = c)) = some x := by
    rw [List.find?_append, List.find?_eq_none.2 (fun z hz => by have := h1 z hz; simp only [decide_eq_true_eq]; exact fun h => this h.1), Option.none_or, List.find?_cons, decide_eq_true (show SameV a d x ∧ x.2.2.1 = c from ⟨hx, hc⟩)]
  rw [e]
  rfl
theorem has_split (hx : SameV a d x) (hc : x.2.2.1 = c) : HasV (X ++ x :: Y) a d c := ⟨x, by simp, hx, hc⟩
theorem got_other {l : List HeldV} (h : ∀ z ∈ l, ¬ (SameV a d z ∧ z.2.2.1 = c)) : gotV l a d c now = newV a d c now ∧ ¬ HasV l a d c := by
  refine ⟨?_, fun ⟨z, hz, h9⟩ => h z hz h9⟩
  unfold gotV
  rw [List.find?_eq_none.2 (fun z hz => by have := h z hz; simp only [decide_eq_true_eq]; exact this)]
  rfl
theorem rest_none {l : List HeldV} (h : ∀ z ∈ l, ¬ SameV a d z) : restV l a d = l := by
  unfold restV
  exact filter_all (fun z hz => decide_eq_true (h z hz))
/-- A right list, split at one of From and Id. -/
theorem shelf_split (hp : ShelfP (X ++ x :: Y)) (hx : SameV a d x) : (∀ z ∈ X, ¬ SameV a d z) ∧ ∀ z ∈ Y, ¬ SameV a d z := by
  have h9 := List.pairwise_append.1 hp.2.2
  have h8 := List.pairwise_cons.1 h9.2.1
  exact ⟨fun z hz h => h9.2.2 z hz x List.mem_cons_self ⟨h.1.trans hx.1.symm, h.2.trans hx.2.symm⟩, fun z hz h => h8.1 z hz ⟨hx.1.trans h.1.symm, hx.2.trans h.2.symm⟩⟩
/-- A new one of two parts or more is not whole with one. -/
theorem new_open {j : Nat} {p : ByteArray} {k : Nat} (hk : 2 ≤ k) : false ∈ (setV j p (newV a d (k : Nat) now)).2.2.2.2.1 := by
  have e : (newV a d ((k : Nat) : Int) now).2.2.2.2.1 = List.replicate k false := by
    show List.replicate ((k : Int).toNat) false = _
    rw [Int.toNat_natCast]
  have hno : ¬ ((newV a d ((k : Nat) : Int) now).2.2.2.2.1[j]? = some true) := by
    rw [e, List.getElem?_replicate]
    split <;> simp
  unfold setV
  rw [if_neg hno]
  show false ∈ (newV a d ((k : Nat) : Int) now).2.2.2.2.1.set j true
  rw [e]
  by_cases hj : j = 0
  · subst hj
    exact List.mem_of_getElem? (i := 1) (by rw [List.getElem?_set_ne (by omega), List.getElem?_replicate, if_pos (by omega)])
  · exact List.mem_of_getElem? (i := 0) (by rw [List.getElem?_set_ne hj, List.getElem?_replicate, if_pos (by omega)])
end

end Go.Proofs.Ythiicpbedgcmlaa
namespace Go.Proofs.Ythiicpbedgcmlaa
open Go.RowKit

theorem more_one {l : List HeldV} {a b c now : Int} {j : Nat} {p : ByteArray} {l1 l2 : List HeldV} {w1 w2 : ByteArray} {d1 d2 : Bool} (h : AddMore l a b c now j p l1 w1 d1) (k : AddMore l a b c now j p l2 w2 d2) : l1 = l2 ∧ w1 = w2 ∧ d1 = d2 := by
  unfold AddMore at h k
  rcases h with ⟨h0, rfl, rfl, rfl⟩ | ⟨h0, h1, rfl, rfl, rfl⟩ | ⟨h0, h1, rfl, rfl, rfl⟩ <;> rcases k with ⟨k0, rfl, rfl, rfl⟩ | ⟨k0, k1, rfl, rfl, rfl⟩ | ⟨k0, k1, rfl, rfl, rfl⟩
  · exact ⟨rfl, rfl, rfl⟩
  · exact absurd k0 h0
  · exact absurd k0 h0
  · exact absurd h0 k0
  · exact ⟨rfl, rfl, rfl⟩
  · exact absurd h1 k1
  · exact absurd h0 k0
  · exact absurd k1 h1
  · exact ⟨rfl, rfl, rfl⟩
theorem split_at {l : List HeldD} {i : Nat} (hi : i < l.length) : ∃ X x Z, l = X ++ x :: Z ∧ X.length = i ∧ l[i] = x ∧ l.eraseIdx i = X ++ Z := by
  have hs : l = l.take i ++ l[i] :: l.drop (i + 1) := by rw [List.getElem_cons_drop, List.take_append_drop]
  exact ⟨l.take i, l[i], l.drop (i + 1), hs, by rw [List.length_take]; omega, rfl, List.eraseIdx_eq_take_drop_succ l i⟩
/-- The list that placeFor leaves, opened at its place. -/
theorem place_out {l : List HeldD} {a d now r : Int} {c i : Nat} {zs : List HeldD} (hs : ShelfP l) (hr : PlaceIs l a d r) (hc : 2 ≤ c) (h : PlaceG l a d c now r i zs) :
    ∃ X x Z, zs = X ++ x :: Z ∧ X.length = i ∧ x = gotV l a d (c : Nat) now ∧ ∀ (j : Nat) (p : ByteArray), (false ∉ (setV j p x).2.2.2.2.1 → AddMore l a d (c : Nat) now j p (X ++ Z) (wholeV (setV j p x).2.2.2.1) true) ∧ (false ∈ (setV j p x).2.2.2.2.1 → AddMore l a d (c : Nat) now j p (X ++ setV j p x :: Z) ⟨#[]⟩ false) := by
  have hsame : ∀ k : Nat, r = (k : Int) → ∃ hk : k < l.length, SameV a d l[k] := fun k hk => by
    rcases hr with ⟨m, hm, h1, h2, _⟩ | ⟨h1, _⟩
    · obtain rfl : m = k := by omega
      exact ⟨hm, h2⟩
    · omega
  rcases h with ⟨⟨k, hk, hrk, hck⟩, hri, rfl⟩ | ⟨hnf, rfl, rfl⟩
  · obtain rfl : k = i := by omega
    obtain ⟨_, hsv⟩ := hsame k hrk
    obtain ⟨X, x, Z, hl, hX, hx, _⟩ := split_at hk
    rw [hx] at hsv hck
    have hsp := hs
    rw [hl] at hsp
    obtain ⟨n1, n2⟩ := shelf_split hsp hsv
    have hg : gotV (X ++ x :: Z) a d (c : Nat) now = x := got_split hsv hck n1
    have hrest := rest_split hsv n1 n2
    have hpl := fun y => place_split (y := y) hsv hck n1 n2
    have hhas : HasV (X ++ x :: Z) a d (c : Nat) := has_split hsv hck
    refine ⟨X, x, Z, hl, hX, by rw [hl, hg], fun j p => ⟨fun h9 => ?_, fun h9 => ?_⟩⟩
    · rw [hl]
      refine .inl ⟨by rw [hg]; exact h9, hrest.symm, by rw [hg], rfl⟩
    · rw [hl]
      refine .inr (.inl ⟨by rw [hg]; exact h9, hhas, by rw [hg, hpl], rfl, rfl⟩)
  · have hno : ∀ z ∈ l, ¬ (SameV a d z ∧ z.2.2.1 = ((c : Nat) : Int)) := fun z hz hzz => by
      rcases hr with ⟨m, hm, h1, h2, _⟩ | ⟨_, h1⟩
      · obtain ⟨X, x, Z, hl, hX, hx, _⟩ := split_at hm
        rw [hx] at h2
        have hsp := hs
        rw [hl] at hsp hz
        obtain ⟨n1, n2⟩ := shelf_split hsp h2
        rcases List.mem_append.1 hz with h9 | h9
        · exact n1 z h9 hzz.1
        · rcases List.mem_cons.1 h9 with rfl | h9
          · exact hnf ⟨m, hm, h1, by rw [hx]; exact hzz.2⟩
          · exact n2 z h9 hzz.1
      · exact h1 z hz hzz.1
    obtain ⟨hg, hnh⟩ := got_other (now := now) hno
    have hrest : restG l r = if (restV l a d).length = 3 then (restV l a d).drop 1 else restV l a d := by
      unfold restG
      rcases hr with ⟨m, hm, h1, h2, _⟩ | ⟨h1, h2⟩
      · obtain ⟨X, x, Z, hl, hX, hx, he⟩ := split_at hm
        rw [hx] at h2
        have hsp := hs
        rw [hl] at hsp
        obtain ⟨n1, n2⟩ := shelf_split hsp h2
        have hrv := rest_split h2 n1 n2
        rw [← hl] at hrv
        have hlen := hs.1
        rw [hl] at hlen
        have h8 : (X ++ x :: Z).length = X.length + 1 + Z.length := by simp; omega
        rw [hrv, if_pos (by omega), if_neg (by rw [List.length_append]; omega), show r.toNat = m by omega, he]
      · rw [if_neg (by omega), rest_none h2]
        split
        · cases l with
          | nil => rfl
          | cons z l => rfl
        · rfl
    refine ⟨restG l r, _, [], rfl, rfl, hg.symm, fun j p => ⟨fun h9 => absurd (new_open hc) h9, fun h9 => ?_⟩⟩
    refine .inr (.inr ⟨by rw [hg]; exact h9, hnh, ?_, rfl, rfl⟩)
    rw [hg, hrest]

end Go.Proofs.Ythiicpbedgcmlaa
