/-
  Leases in plain words: who holds an address, for whom one is fixed, what is right; no program is spoken of here.
  Prefix as it lies; the laws' own functions over it and over rows of it.
  Lease as it lies; the laws' own functions over it and over rows of it.
  Fixed as it lies; the laws' own functions over it and over rows of it.
  Pool as it lies; the laws' own functions over it and over rows of it.
-/
import Derived.Test.YtphmomlgmnllkadJ17
import Derived.Test.YtphmomlgmnllkadJ07
import Derived.Test.YtphmomlgmnllkadRows
import Derived.Deep.RegionHeld3
import Derived.BigQuiet
import Derived.Deep.QuietTactic
import Derived.Deep.DeepCutAuto
namespace Go.Proofs.Ytphmomlgmnllkad

/-- A lease: address, whose, until; a fixed one: whose, address. -/
abbrev Ls := Int × Int × Int
abbrev Fx := Int × Int

def holderP : List Ls → Int → Int
  | [], _ => 0
  | l :: ls, a => if l.1 = a then l.2.1 else holderP ls a
def fixedP : List Fx → Int → Int
  | [], _ => 0
  | f :: fs, a => if f.2 = a then f.1 else fixedP fs a
/-- Whose fixed address is which; 0 without one. -/
def ownP : List Fx → Int → Option Int
  | [], _ => none
  | f :: fs, w => if f.1 = w then some f.2 else ownP fs w
def insideP (pa pn a : Int) : Bool := inB pa pn a && (a != pa) && (a != pa + (sizeP pn.toNat : Nat) - 1)

theorem holder_drop (ls : List Ls) (a : Int) (k : Nat) (h : k < ls.length) (hn : ∀ j, j < k → ∀ l, ls[j]? = some l → l.1 ≠ a) : holderP ls a = holderP (ls.drop k) a := by
  induction k generalizing ls with
  | zero => rfl
  | succ k ih =>
    cases ls with
    | nil => simp at h
    | cons l ls =>
      rw [holderP, if_neg (hn 0 (by omega) l rfl), List.drop_succ_cons]
      exact ih ls (by simp at h; omega) (fun j hj x hx => hn (j + 1) (by omega) x (by simpa using hx))
theorem holder_at (ls : List Ls) (a : Int) (k : Nat) (l : Ls) (hk : ls[k]? = some l) (hn : ∀ j, j < k → ∀ x, ls[j]? = some x → x.1 ≠ a) (hl : l.1 = a) : holderP ls a = l.2.1 := by
  have h := (List.getElem?_eq_some_iff.1 hk).1
  rw [holder_drop ls a k h hn, List.drop_eq_getElem_cons h, holderP]
  have : ls[k] = l := by rw [List.getElem?_eq_getElem h] at hk; exact Option.some.inj hk
  rw [this, if_pos hl]
theorem holder_none (ls : List Ls) (a : Int) (hn : ∀ (j : Nat) (x : Ls), ls[j]? = some x → x.1 ≠ a) : holderP ls a = 0 := by
  induction ls with
  | nil => rfl
  | cons l ls ih =>
    rw [holderP, if_neg (hn 0 l rfl)]
    exact ih fun j x hx => hn (j + 1) x (by simpa using hx)
theorem fixed_at (fs : List Fx) (a : Int) : ∀ (k : Nat) (f : Fx), fs[k]? = some f → (∀ j, j < k → ∀ x, fs[j]? = some x → x.2 ≠ a) → f.2 = a → fixedP fs a = f.1 := by
  induction fs with
  | nil => intro k f h; simp at h
  | cons g fs ih =>
    intro k f hk hn hf
    cases k with
    | zero =>
      simp at hk
      subst hk
      rw [fixedP, if_pos hf]
    | succ k =>
      rw [fixedP, if_neg (hn 0 (by omega) g rfl)]
      exact ih k f (by simpa using hk) (fun j hj x hx => hn (j + 1) (by omega) x (by simpa using hx)) hf
theorem fixed_none (fs : List Fx) (a : Int) (hn : ∀ (j : Nat) (x : Fx), fs[j]? = some x → x.2 ≠ a) : fixedP fs a = 0 := by
  induction fs with
  | nil => rfl
  | cons g fs ih =>
    rw [fixedP, if_neg (hn 0 g rfl)]
    exact ih fun j x hx => hn (j + 1) x (by simpa using hx)

/-- What is right at one place. -/
def FixOk (pa pn : Int) (fs : List Fx) (i : Nat) (f : Fx) : Prop := (1 ≤ f.1 ∧ f.1 ≤ 99) ∧ insideP pa pn f.2 = true ∧ (∀ g, 0 < i → fs[i - 1]? = some g → g.1 < f.1) ∧ fixedP fs f.2 = f.1
def LeaseOk (pa pn : Int) (ls : List Ls) (fs : List Fx) (i : Nat) (l : Ls) : Prop :=
  insideP pa pn l.1 = true ∧ (1 ≤ l.2.1 ∧ l.2.1 ≤ 99) ∧ (0 ≤ l.2.2 ∧ l.2.2 ≤ 1000000000) ∧ (∀ g, 0 < i → ls[i - 1]? = some g → g.1 < l.1) ∧ (fixedP fs l.1 = 0 ∨ fixedP fs l.1 = l.2.1) ∧ ∀ j, j < i → ∀ x, ls[j]? = some x → x.2.1 ≠ l.2.1
/-- A pool that is right. -/
def PoolOkP (pa pn : Int) (ls : List Ls) (fs : List Fx) : Prop :=
  (PrefOk pa pn ∧ 24 ≤ pn ∧ pn ≤ 30 ∧ ls.length ≤ 6 ∧ fs.length ≤ 4) ∧ (∀ i f, fs[i]? = some f → FixOk pa pn fs i f) ∧ ∀ i l, ls[i]? = some l → LeaseOk pa pn ls fs i l

end Go.Proofs.Ytphmomlgmnllkad
namespace Go.Proofs.Ytphmomlgmnllkad
open Go.RowKit

abbrev PrefixD := Int × Int
abbrev PrefixT : TypeId := 25
def layPrefix : Lay PrefixD := Lay.pair Lay.int Lay.int
def layPrefixS : Lay (List PrefixD) := .rows PrefixT layPrefix

theorem layPrefix_rd {w : World} {cs : List Value} {x : PrefixD} : layPrefix.rd w cs x ↔ cs = [.int .i64 x.1, .int .i64 x.2] := by
  constructor
  · rintro ⟨c0, d0, rfl, rfl, rfl⟩
    rfl
  · rintro rfl
    exact ⟨[_], [_], rfl, rfl, rfl⟩

theorem layPrefix_own {w : World} {b : Nat} {f : List Nat} {cs : List Value} {x : PrefixD} : layPrefix.own w b f cs x ↔ f = [] ∧ cs = [.int .i64 x.1, .int .i64 x.2] := by
  constructor
  · rintro ⟨f0, g0, c0, d0, rfl, rfl, ⟨rfl, rfl⟩, ⟨rfl, rfl⟩⟩
    exact ⟨rfl, rfl⟩
  · rintro ⟨rfl, rfl⟩
    exact ⟨[], [], [_], [_], rfl, rfl, ⟨rfl, rfl⟩, ⟨rfl, rfl⟩⟩

theorem zeroPrefix (w : World) (b : Nat) : layPrefix.own w b [] [.int .i64 0, .int .i64 0] (0, 0) := layPrefix_own.2 ⟨rfl, rfl⟩
theorem zeroPrefix_none (w : World) (b : Nat) (f : List Nat) (c : List Value) (h : layPrefix.own w b f c (0, 0)) : f = [] := (layPrefix_own.1 h).1
theorem flatPrefix : Flat layPrefix := ⟨fun _ _ _ _ h => layPrefix_own.2 ⟨rfl, layPrefix_rd.1 h⟩, fun _ _ _ _ _ h => (layPrefix_own.1 h).1, fun _ _ _ _ h => layPrefix_rd.2 (layPrefix_rd.1 h)⟩

end Go.Proofs.Ytphmomlgmnllkad
namespace Go.Proofs.Ytphmomlgmnllkad
open Go.RowKit

abbrev LeaseD := Int × Int × Int
abbrev LeaseT : TypeId := 37
def layLease : Lay LeaseD := Lay.pair Lay.int (Lay.pair Lay.int Lay.int)
def layLeaseS : Lay (List LeaseD) := .rows LeaseT layLease

theorem layLease_rd {w : World} {cs : List Value} {x : LeaseD} : layLease.rd w cs x ↔ cs = [.int .i64 x.1, .int .i64 x.2.1, .int .i64 x.2.2] := by
  constructor
  · rintro ⟨c0, d0, rfl, rfl, ⟨c1, d1, rfl, rfl, rfl⟩⟩
    rfl
  · rintro rfl
    exact ⟨[_], [_, _], rfl, rfl, ⟨[_], [_], rfl, rfl, rfl⟩⟩

theorem layLease_own {w : World} {b : Nat} {f : List Nat} {cs : List Value} {x : LeaseD} : layLease.own w b f cs x ↔ f = [] ∧ cs = [.int .i64 x.1, .int .i64 x.2.1, .int .i64 x.2.2] := by
  constructor
  · rintro ⟨f0, g0, c0, d0, rfl, rfl, ⟨rfl, rfl⟩, ⟨f1, g1, c1, d1, rfl, rfl, ⟨rfl, rfl⟩, ⟨rfl, rfl⟩⟩⟩
    exact ⟨rfl, rfl⟩
  · rintro ⟨rfl, rfl⟩
    exact ⟨[], ([] ++ []), [_], [_, _], rfl, rfl, ⟨rfl, rfl⟩, ⟨[], [], [_], [_], rfl, rfl, ⟨rfl, rfl⟩, ⟨rfl, rfl⟩⟩⟩

theorem zeroLease (w : World) (b : Nat) : layLease.own w b [] [.int .i64 0, .int .i64 0, .int .i64 0] (0, 0, 0) := layLease_own.2 ⟨rfl, rfl⟩
theorem zeroLease_none (w : World) (b : Nat) (f : List Nat) (c : List Value) (h : layLease.own w b f c (0, 0, 0)) : f = [] := (layLease_own.1 h).1
theorem flatLease : Flat layLease := ⟨fun _ _ _ _ h => layLease_own.2 ⟨rfl, layLease_rd.1 h⟩, fun _ _ _ _ _ h => (layLease_own.1 h).1, fun _ _ _ _ h => layLease_rd.2 (layLease_rd.1 h)⟩

theorem infoLease : (Try.prog.info? 37).map (fun i => (i.zero, i.size, i.bytes)) = some (some (.agg #[.int .i64 0, .int .i64 0, .int .i64 0]), 3, 24) := by kernel_rfl

theorem markLease_eq (q : Int) (x : LeaseD) : layLease.mark q x = ((q, q + 1, q + 1 + 1), q + 1 + 1 + 1) := rfl
theorem marksLease_num (k : Int) (xs : List LeaseD) : (layLeaseS.mark k xs).2 = k + 3 * (xs.length : Int) := by
  show (mkAll layLease k xs).2 = _
  induction xs generalizing k with
  | nil => simp [mkAll]
  | cons x xs ih =>
    show (mkAll layLease (layLease.mark k x).2 xs).2 = _
    rw [ih, markLease_eq]
    simp only [List.length_cons]
    omega
theorem marksLease_next (k : Int) (xs : List LeaseD) (j : Nat) (x : LeaseD) (hx : xs[j]? = some x) : (layLeaseS.mark k (xs.take (j + 1))).1 = (layLeaseS.mark k (xs.take j)).1 ++ [(layLease.mark (k + 3 * (j : Int)) x).1] := by
  have hj : j < xs.length := (List.getElem?_eq_some_iff.1 hx).1
  have e : xs.take (j + 1) = xs.take j ++ [x] := by rw [List.take_add_one, hx]; rfl
  have h2 := marksLease_num k (xs.take j)
  show (mkAll layLease k _).1 = (mkAll layLease k _).1 ++ _
  rw [e, mkAll_append]
  have h3 : (mkAll layLease k (xs.take j)).2 = k + 3 * (j : Int) := by
    have h4 : (mkAll layLease k (xs.take j)).2 = _ := h2
    rw [h4, List.length_take, Nat.min_eq_left (by omega)]
  rw [h3]
  rfl
theorem marksLease_get (k : Int) (xs : List LeaseD) (j : Nat) (x : LeaseD) (hx : xs[j]? = some x) : (layLeaseS.mark k xs).1[j]? = some (layLease.mark (k + 3 * (j : Int)) x).1 := by
  have hj : j < xs.length := (List.getElem?_eq_some_iff.1 hx).1
  have h := marksLease_next k xs j x hx
  have e : xs = xs.take (j + 1) ++ xs.drop (j + 1) := (List.take_append_drop _ _).symm
  have e2 : (layLeaseS.mark k xs).1 = (layLeaseS.mark k (xs.take (j + 1))).1 ++ (mkAll layLease (layLeaseS.mark k (xs.take (j + 1))).2 (xs.drop (j + 1))).1 := by
    conv => lhs; rw [e]
    show (mkAll layLease k _).1 = _
    rw [mkAll_append]
    rfl
  have hl : (layLeaseS.mark k (xs.take j)).1.length = j := by
    show (mkAll layLease k _).1.length = j
    rw [mkAll_length, List.length_take]
    omega
  rw [e2, h, List.getElem?_append_left (by rw [List.length_append, hl]; simp), List.getElem?_append_right (by omega), hl, Nat.sub_self]
  rfl
end Go.Proofs.Ytphmomlgmnllkad
namespace Go.Proofs.Ytphmomlgmnllkad
open Go.RowKit

abbrev FixedD := Int × Int
abbrev FixedT : TypeId := 57
def layFixed : Lay FixedD := Lay.pair Lay.int Lay.int
def layFixedS : Lay (List FixedD) := .rows FixedT layFixed

theorem layFixed_rd {w : World} {cs : List Value} {x : FixedD} : layFixed.rd w cs x ↔ cs = [.int .i64 x.1, .int .i64 x.2] := by
  constructor
  · rintro ⟨c0, d0, rfl, rfl, rfl⟩
    rfl
  · rintro rfl
    exact ⟨[_], [_], rfl, rfl, rfl⟩

theorem layFixed_own {w : World} {b : Nat} {f : List Nat} {cs : List Value} {x : FixedD} : layFixed.own w b f cs x ↔ f = [] ∧ cs = [.int .i64 x.1, .int .i64 x.2] := by
  constructor
  · rintro ⟨f0, g0, c0, d0, rfl, rfl, ⟨rfl, rfl⟩, ⟨rfl, rfl⟩⟩
    exact ⟨rfl, rfl⟩
  · rintro ⟨rfl, rfl⟩
    exact ⟨[], [], [_], [_], rfl, rfl, ⟨rfl, rfl⟩, ⟨rfl, rfl⟩⟩

theorem zeroFixed (w : World) (b : Nat) : layFixed.own w b [] [.int .i64 0, .int .i64 0] (0, 0) := layFixed_own.2 ⟨rfl, rfl⟩
theorem zeroFixed_none (w : World) (b : Nat) (f : List Nat) (c : List Value) (h : layFixed.own w b f c (0, 0)) : f = [] := (layFixed_own.1 h).1
theorem flatFixed : Flat layFixed := ⟨fun _ _ _ _ h => layFixed_own.2 ⟨rfl, layFixed_rd.1 h⟩, fun _ _ _ _ _ h => (layFixed_own.1 h).1, fun _ _ _ _ h => layFixed_rd.2 (layFixed_rd.1 h)⟩

theorem infoFixed : (Try.prog.info? 57).map (fun i => (i.zero, i.size, i.bytes)) = some (some (.agg #[.int .i64 0, .int .i64 0]), 2, 16) := by kernel_rfl

theorem markFixed_eq (q : Int) (x : FixedD) : layFixed.mark q x = ((q, q + 1), q + 1 + 1) := rfl
theorem marksFixed_num (k : Int) (xs : List FixedD) : (layFixedS.mark k xs).2 = k + 2 * (xs.length : Int) := by
  show (mkAll layFixed k xs).2 = _
  induction xs generalizing k with
  | nil => simp [mkAll]
  | cons x xs ih =>
    show (mkAll layFixed (layFixed.mark k x).2 xs).2 = _
    rw [ih, markFixed_eq]
    simp only [List.length_cons]
    omega
theorem marksFixed_next (k : Int) (xs : List FixedD) (j : Nat) (x : FixedD) (hx : xs[j]? = some x) : (layFixedS.mark k (xs.take (j + 1))).1 = (layFixedS.mark k (xs.take j)).1 ++ [(layFixed.mark (k + 2 * (j : Int)) x).1] := by
  have hj : j < xs.length := (List.getElem?_eq_some_iff.1 hx).1
  have e : xs.take (j + 1) = xs.take j ++ [x] := by rw [List.take_add_one, hx]; rfl
  have h2 := marksFixed_num k (xs.take j)
  show (mkAll layFixed k _).1 = (mkAll layFixed k _).1 ++ _
  rw [e, mkAll_append]
  have h3 : (mkAll layFixed k (xs.take j)).2 = k + 2 * (j : Int) := by
    have h4 : (mkAll layFixed k (xs.take j)).2 = _ := h2
    rw [h4, List.length_take, Nat.min_eq_left (by omega)]
  rw [h3]
  rfl
theorem marksFixed_get (k : Int) (xs : List FixedD) (j : Nat) (x : FixedD) (hx : xs[j]? = some x) : (layFixedS.mark k xs).1[j]? = some (layFixed.mark (k + 2 * (j : Int)) x).1 := by
  have hj : j < xs.length := (List.getElem?_eq_some_iff.1 hx).1
  have h := marksFixed_next k xs j x hx
  have e : xs = xs.take (j + 1) ++ xs.drop (j + 1) := (List.take_append_drop _ _).symm
  have e2 : (layFixedS.mark k xs).1 = (layFixedS.mark k (xs.take (j + 1))).1 ++ (mkAll layFixed (layFixedS.mark k (xs.take (j + 1))).2 (xs.drop (j + 1))).1 := by
    conv => lhs; rw [e]
    show (mkAll layFixed k _).1 = _
    rw [mkAll_append]
    rfl
  have hl : (layFixedS.mark k (xs.take j)).1.length = j := by
    show (mkAll layFixed k _).1.length = j
    rw [mkAll_length, List.length_take]
    omega
  rw [e2, h, List.getElem?_append_left (by rw [List.length_append, hl]; simp), List.getElem?_append_right (by omega), hl, Nat.sub_self]
  rfl
end Go.Proofs.Ytphmomlgmnllkad
namespace Go.Proofs.Ytphmomlgmnllkad
open Go.RowKit

abbrev PoolD := PrefixD × (List LeaseD) × (List FixedD)
abbrev PoolT : TypeId := 29
def layPool : Lay PoolD := Lay.pair layPrefix (Lay.pair layLeaseS layFixedS)
def layPoolS : Lay (List PoolD) := .rows PoolT layPool

theorem layPool_rd {w : World} {cs : List Value} {x : PoolD} : layPool.rd w cs x ↔ ∃ v2 v3, cs = [.int .i64 x.1.1, .int .i64 x.1.2, v2, v3] ∧ layLeaseS.rd w [v2] x.2.1 ∧ layFixedS.rd w [v3] x.2.2 := by
  constructor
  · rintro ⟨c101, d101, rfl, ⟨c100, d100, rfl, rfl, rfl⟩, ⟨c103, d103, rfl, ⟨v102, rfl, h102⟩, ⟨v104, rfl, h104⟩⟩⟩
    exact ⟨v102, v104, rfl, ⟨v102, rfl, h102⟩, ⟨v104, rfl, h104⟩⟩
  · rintro ⟨v2, v3, rfl, H2, H3⟩
    exact ⟨[_, _], [_, _], rfl, ⟨[_], [_], rfl, rfl, rfl⟩, ⟨[_], [_], rfl, H2, H3⟩⟩

theorem layPool_own {w : World} {b : Nat} {f : List Nat} {cs : List Value} {x : PoolD} : layPool.own w b f cs x ↔ ∃ v2 v3 f2 f3, cs = [.int .i64 x.1.1, .int .i64 x.1.2, v2, v3] ∧ f = f2 ++ f3 ∧ layLeaseS.own w b f2 [v2] x.2.1 ∧ layFixedS.own w b f3 [v3] x.2.2 := by
  constructor
  · rintro ⟨f101, g101, c101, d101, rfl, rfl, ⟨f100, g100, c100, d100, rfl, rfl, ⟨rfl, rfl⟩, ⟨rfl, rfl⟩⟩, ⟨f103, g103, c103, d103, rfl, rfl, ⟨v102, rfl, h102⟩, ⟨v104, rfl, h104⟩⟩⟩
    exact ⟨v102, v104, _, _, rfl, by simp, ⟨v102, rfl, h102⟩, ⟨v104, rfl, h104⟩⟩
  · rintro ⟨v2, v3, f2, f3, rfl, hf, H2, H3⟩
    have hf2 : f = (([] ++ []) ++ (f2 ++ f3)) := by simp [hf]
    rw [hf2]
    exact ⟨([] ++ []), (f2 ++ f3), [_, _], [_, _], rfl, rfl, ⟨[], [], [_], [_], rfl, rfl, ⟨rfl, rfl⟩, ⟨rfl, rfl⟩⟩, ⟨f2, f3, [_], [_], rfl, rfl, H2, H3⟩⟩

end Go.Proofs.Ytphmomlgmnllkad
