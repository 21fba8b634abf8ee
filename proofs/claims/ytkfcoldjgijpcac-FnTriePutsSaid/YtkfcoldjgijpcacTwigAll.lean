/-
  Twig as it lies; the laws' own functions over it and over rows of it.
  Trie as it lies; the laws' own functions over it and over rows of it.
  Rows of ints of the call's own; no program is spoken of here.
-/
import Derived.Test.YtkfcoldjgijpcacKitLay
import Derived.Test.YtkfcoldjgijpcacRows
import Derived.Deep.RegionHeld3
import Derived.BigQuiet
import Derived.Deep.QuietTactic
import Derived.Deep.DeepCutAuto
namespace Go.Proofs.Ytkfcoldjgijpcac
open Go.RowKit

abbrev TwigD := Int × Int × Int
abbrev TwigT : TypeId := 75
def layTwig : Lay TwigD := Lay.pair Lay.int (Lay.pair Lay.int Lay.int)
def layTwigS : Lay (List TwigD) := .rows TwigT layTwig

theorem layTwig_rd {w : World} {cs : List Value} {x : TwigD} : layTwig.rd w cs x ↔ cs = [.int .i64 x.1, .int .i64 x.2.1, .int .i64 x.2.2] := by
  constructor
  · rintro ⟨c0, d0, rfl, rfl, ⟨c1, d1, rfl, rfl, rfl⟩⟩
    rfl
  · rintro rfl
    exact ⟨[_], [_, _], rfl, rfl, ⟨[_], [_], rfl, rfl, rfl⟩⟩

theorem layTwig_own {w : World} {b : Nat} {f : List Nat} {cs : List Value} {x : TwigD} : layTwig.own w b f cs x ↔ f = [] ∧ cs = [.int .i64 x.1, .int .i64 x.2.1, .int .i64 x.2.2] := by
  constructor
  · rintro ⟨f0, g0, c0, d0, rfl, rfl, ⟨rfl, rfl⟩, ⟨f1, g1, c1, d1, rfl, rfl, ⟨rfl, rfl⟩, ⟨rfl, rfl⟩⟩⟩
    exact ⟨rfl, rfl⟩
  · rintro ⟨rfl, rfl⟩
    exact ⟨[], ([] ++ []), [_], [_, _], rfl, rfl, ⟨rfl, rfl⟩, ⟨[], [], [_], [_], rfl, rfl, ⟨rfl, rfl⟩, ⟨rfl, rfl⟩⟩⟩

theorem zeroTwig (w : World) (b : Nat) : layTwig.own w b [] [.int .i64 0, .int .i64 0, .int .i64 0] (0, 0, 0) := layTwig_own.2 ⟨rfl, rfl⟩
theorem zeroTwig_none (w : World) (b : Nat) (f : List Nat) (c : List Value) (h : layTwig.own w b f c (0, 0, 0)) : f = [] := (layTwig_own.1 h).1
theorem flatTwig : Flat layTwig := ⟨fun _ _ _ _ h => layTwig_own.2 ⟨rfl, layTwig_rd.1 h⟩, fun _ _ _ _ _ h => (layTwig_own.1 h).1, fun _ _ _ _ h => layTwig_rd.2 (layTwig_rd.1 h)⟩

theorem infoTwig : (Try.prog.info? 75).map (fun i => (i.zero, i.size, i.bytes)) = some (some (.agg #[.int .i64 0, .int .i64 0, .int .i64 0]), 3, 24) := by kernel_rfl

theorem markTwig_eq (q : Int) (x : TwigD) : layTwig.mark q x = ((q, q + 1, q + 1 + 1), q + 1 + 1 + 1) := rfl
theorem marksTwig_num (k : Int) (xs : List TwigD) : (layTwigS.mark k xs).2 = k + 3 * (xs.length : Int) := by
  show (mkAll layTwig k xs).2 = _
  induction xs generalizing k with
  | nil => simp [mkAll]
  | cons x xs ih =>
    show (mkAll layTwig (layTwig.mark k x).2 xs).2 = _
    rw [ih, markTwig_eq]
    simp only [List.length_cons]
    omega
theorem marksTwig_next (k : Int) (xs : List TwigD) (j : Nat) (x : TwigD) (hx : xs[j]? = some x) : (layTwigS.mark k (xs.take (j + 1))).1 = (layTwigS.mark k (xs.take j)).1 ++ [(layTwig.mark (k + 3 * (j : Int)) x).1] := by
  have hj : j < xs.length := (List.getElem?_eq_some_iff.1 hx).1
  have e : xs.take (j + 1) = xs.take j ++ [x] := by rw [List.take_add_one, hx]; rfl
  have h2 := marksTwig_num k (xs.take j)
  show (mkAll layTwig k _).1 = (mkAll layTwig k _).1 ++ _
  rw [e, mkAll_append]
  have h3 : (mkAll layTwig k (xs.take j)).2 = k + 3 * (j : Int) := by
    have h4 : (mkAll layTwig k (xs.take j)).2 = _ := h2
    rw [h4, List.length_take, Nat.min_eq_left (by omega)]
  rw [h3]
  rfl
theorem marksTwig_get (k : Int) (xs : List TwigD) (j : Nat) (x : TwigD) (hx : xs[j]? = some x) : (layTwigS.mark k xs).1[j]? = some (layTwig.mark (k + 3 * (j : Int)) x).1 := by
  have hj : j < xs.length := (List.getElem?_eq_some_iff.1 hx).1
  have h := marksTwig_next k xs j x hx
  have e : xs = xs.take (j + 1) ++ xs.drop (j + 1) := (List.take_append_drop _ _).symm
  have e2 : (layTwigS.mark k xs).1 = (layTwigS.mark k (xs.take (j + 1))).1 ++ (mkAll layTwig (layTwigS.mark k (xs.take (j + 1))).2 (xs.drop (j + 1))).1 := by
    conv => lhs; rw [e]
    show (mkAll layTwig k _).1 = _
    rw [mkAll_append]
    rfl
  have hl : (layTwigS.mark k (xs.take j)).1.length = j := by
    show (mkAll layTwig k _).1.length = j
    rw [mkAll_length, List.length_take]
    omega
  rw [e2, h, List.getElem?_append_left (by rw [List.length_append, hl]; simp), List.getElem?_append_right (by omega), hl, Nat.sub_self]
  rfl
end Go.Proofs.Ytkfcoldjgijpcac
namespace Go.Proofs.Ytkfcoldjgijpcac
open Go.RowKit

abbrev TrieD := (List TwigD)
abbrev TrieT : TypeId := 44
def layTrie : Lay TrieD := layTwigS
def layTrieS : Lay (List TrieD) := .rows TrieT layTrie

theorem layTrie_rd {w : World} {cs : List Value} {x : TrieD} : layTrie.rd w cs x ↔ ∃ v0, cs = [v0] ∧ layTwigS.rd w [v0] x := by
  constructor
  · rintro ⟨v100, rfl, h100⟩
    exact ⟨v100, rfl, ⟨v100, rfl, h100⟩⟩
  · rintro ⟨v0, rfl, H0⟩
    exact H0

theorem layTrie_own {w : World} {b : Nat} {f : List Nat} {cs : List Value} {x : TrieD} : layTrie.own w b f cs x ↔ ∃ v0 f0, cs = [v0] ∧ f = f0 ∧ layTwigS.own w b f0 [v0] x := by
  constructor
  · rintro ⟨v100, rfl, h100⟩
    exact ⟨v100, _, rfl, by simp, ⟨v100, rfl, h100⟩⟩
  · rintro ⟨v0, f0, rfl, hf, H0⟩
    have hf2 : f = f0 := by simp [hf]
    rw [hf2]
    exact H0

end Go.Proofs.Ytkfcoldjgijpcac
namespace Go.Proofs.Ytkfcoldjgijpcac
open Go.RowKit

def layIntS : Lay (List Int) := .rows 3 .int
theorem int_own {w : World} {b : Nat} {f : List Nat} {cs : List Value} {x : Int} : Lay.int.own w b f cs x ↔ f = [] ∧ cs = [.int .i64 x] := Iff.rfl
theorem int_rd {w : World} {cs : List Value} {x : Int} : Lay.int.rd w cs x ↔ cs = [.int .i64 x] := Iff.rfl
theorem zeroInt_none (w : World) (b : Nat) (f : List Nat) (c : List Value) (h : Lay.int.own w b f c 0) : f = [] := h.1
theorem infoInt : (Try.prog.info? 3).map (fun i => (i.zero, i.size, i.bytes)) = some (some (.int .i64 0), 1, 8) := by kernel_rfl
/-- One number of a row that can be read. -/
theorem ints_get {w : World} {v : Value} {xs : List Int} (h : layIntS.rd w [v] xs) (m : Nat) (hm : m < xs.length) : ∃ g off cap, v = .slice (some ⟨g, off, none⟩) xs.length cap ∧ g < w.heap.size ∧ w.cell? ⟨g, off + m, none⟩ = some (.int .i64 xs[m]) := by
  obtain ⟨a, cap, rfl⟩ := rows_form h
  obtain ⟨g, off, c, rfl, hg, hr, hc⟩ := rows_elem h m _ (List.getElem?_eq_getElem hm)
  rw [int_rd] at hr
  subst hr
  refine ⟨g, off, cap, rfl, hg, ?_⟩
  have := hc 0 _ rfl
  rw [show Lay.int.k = 1 from rfl, Nat.mul_one] at this
  exact this
/-- One number of a row is read and written. -/
theorem ints_put {w : World} {b : Nat} {fp : List Nat} {v : Value} {xs : List Int} (h : layIntS.own w b fp [v] xs) (hd : fp.Nodup) (m : Nat) (hm : m < xs.length) (y : Int) :
    ∃ g cap, v = .slice (some ⟨g, 0, none⟩) xs.length cap ∧ b ≤ g ∧ g < w.heap.size ∧ g ∈ fp ∧ w.cell? ⟨g, m, none⟩ = some (.int .i64 xs[m]) ∧ w.frozen? ⟨g, m, none⟩ = false ∧
      layIntS.own (w.setCell ⟨g, m, none⟩ (.int .i64 y)) b fp [v] (xs.set m y) ∧ Chg fp w (w.setCell ⟨g, m, none⟩ (.int .i64 y)) := by
  have e : xs = xs.take m ++ xs[m] :: xs.drop (m + 1) := by rw [List.getElem_cons_drop, List.take_append_drop]
  have es : xs.set m y = xs.take m ++ y :: xs.drop (m + 1) := by rw [List.set_eq_take_append_cons_drop, if_pos hm]
  have hl : (xs.take m ++ xs[m] :: xs.drop (m + 1)).length = xs.length := by rw [← e]
  have h2 := h
  rw [e] at h2
  obtain ⟨g, cap, f1, f2, f3, u1, c, u3, hv, rfl, Z⟩ := rows_open h2 hd
  rw [hl] at hv
  obtain ⟨rfl, rfl⟩ := int_own.1 Z.mid
  have hml : (xs.take m).length = m := by rw [List.length_take]; omega
  have hc := Z.cell 0 _ rfl
  rw [show Lay.int.k = 1 from rfl, Nat.mul_one, hml] at hc
  have hs := Z.store [.int .i64 y] 0 (by simp) [] y (int_own.2 ⟨rfl, rfl⟩) Z.dup
  rw [show Lay.int.k = 1 from rfl, Nat.mul_one, hml] at hs
  refine ⟨g, cap, hv, Z.lt.1, Z.lt.2, by simp, hc.1, hc.2, ?_, hs.2.sub (by simp)⟩
  have h3 := hs.1.shut
  have e4 : (xs.take m ++ y :: xs.drop (m + 1)).length = xs.length := by rw [← es, List.length_set]
  rw [e4] at h3
  rw [es, hv]
  exact h3

end Go.Proofs.Ytkfcoldjgijpcac
