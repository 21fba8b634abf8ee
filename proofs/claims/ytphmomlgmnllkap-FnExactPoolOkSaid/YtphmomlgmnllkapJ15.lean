/-
  Leases in plain words: who holds an address, for whom one is fixed, what is right; no program is spoken of here.
  Prefix as it lies; the laws' own functions over it and over rows of it.
-/
import Derived.Test.YtphmomlgmnllkapJ14
import Derived.Test.YtphmomlgmnllkapJ07
import Derived.Test.YtphmomlgmnllkapRows
import Derived.Deep.RegionHeld3
import Derived.BigQuiet
import Derived.Deep.QuietTactic
import Derived.Deep.DeepCutAuto
namespace Go.Proofs.Ytphmomlgmnllkap

/-- A lease: address, whose, until; a fixed one: whose, address. -/
abbrev Ls := Int × Int × Int
abbrev Fx := Int × Int

def holderP : List Ls → Int → Int
  | [], _ => 0
  | l :: ls, a => if l.1 = a then l.2.1 else holderP ls a
def fixedP : List Fx → Int → Int
  | [], _ => 0
  | f :: fs, a => if f.2 = a then f.1 else fixedP fs a
/-- Whose fixed address is which; 0 without one. -/
def ownP : List Fx → Int → Option Int
  | [], _ => none
  | f :: fs, w => if f.1 = w then some f.2 else ownP fs w
def insideP (pa pn a : Int) : Bool := inB pa pn a && (a != pa) && (a != pa + (sizeP pn.toNat : Nat) - 1)

theorem holder_drop (ls : List Ls) (a : Int) (k : Nat) (h : k < ls.length) (hn : ∀ j, j < k → ∀ l, ls[j]? = some l → l.1 ≠ a) : holderP ls a = holderP (ls.drop k) a := by
  induction k generalizing ls with
  | zero => rfl
  | succ k ih =>
    cases ls with
    | nil => simp at h
    | cons l ls =>
      rw [holderP, if_neg (hn 0 (by omega) l rfl), List.drop_succ_cons]
      exact ih ls (by simp at h; omega) (fun j hj x hx => hn (j + 1) (by omega) x (by simpa using hx))
theorem holder_at (ls : List Ls) (a : Int) (k : Nat) (l : Ls) (hk : ls[k]? = some l) (hn : ∀ j, j < k → ∀ x, ls[j]? = some x → x.1 ≠ a) (hl : l.1 = a) : holderP ls a = l.2.1 := by
  have h := (List.getElem?_eq_some_iff.1 hk).1
  rw [holder_drop ls a k h hn, List.drop_eq_getElem_cons h, holderP]
  have : ls[k] = l := by rw [List.getElem?_eq_getElem h] at hk; exact Option.some.inj hk
  rw [this, if_pos hl]
theorem holder_none (ls : List Ls) (a : Int) (hn : ∀ (j : Nat) (x : Ls), ls[j]? = some x → x.1 ≠ a) : holderP ls a = 0 := by
  induction ls with
  | nil => rfl
  | cons l ls ih =>
    rw [holderP, if_neg (hn 0 l rfl)]
    exact ih fun j x hx => hn (j + 1) x (by simpa using hx)
theorem fixed_at (fs : List Fx) (a : Int) : ∀ (k : Nat) (f : Fx), fs[k]? = some f → (∀ j, j < k → ∀ x, fs[j]? = some x → x.2 ≠ a) → f.2 = a → fixedP fs a = f.1 := by
  induction fs with
  | nil => intro k f h; simp at h
  | cons g fs ih =>
    intro k f hk hn hf
    cases k with
    | zero =>
      simp at hk
      subst hk
      rw [fixedP, if_pos hf]
    | succ k =>
      rw [fixedP, if_neg (hn 0 (by omega) g rfl)]
      exact ih k f (by simpa using hk) (fun j hj x hx => hn (j + 1) (by omega) x (by simpa using hx)) hf
theorem fixed_none (fs : List Fx) (a : Int) (hn : ∀ (j : Nat) (x : Fx), fs[j]? = some x → x.2 ≠ a) : fixedP fs a = 0 := by
  induction fs with
  | nil => rfl
  | cons g fs ih =>
    rw [fixedP, if_neg (hn 0 g rfl)]
    exact ih fun j x hx => hn (j + 1) x (by simpa using hx)

/-- What is right at one place. -/
def FixOk (pa pn : Int) (fs : List Fx) (i : Nat) (f : Fx) : Prop := (1 ≤ f.1 ∧ f.1 ≤ 99) ∧ insideP pa pn f.2 = true ∧ (∀ g, 0 < i → fs[i - 1]? = some g → g.1 < f.1) ∧ fixedP fs f.2 = f.1
def LeaseOk (pa pn : Int) (ls : List Ls) (fs : List Fx) (i : Nat) (l : Ls) : Prop :=
  insideP pa pn l.1 = true ∧ (1 ≤ l.2.1 ∧ l.2.1 ≤ 99) ∧ (0 ≤ l.2.2 ∧ l.2.2 ≤ 1000000000) ∧ (∀ g, 0 < i → ls[i - 1]? = some g → g.1 < l.1) ∧ (fixedP fs l.1 = 0 ∨ fixedP fs l.1 = l.2.1) ∧ ∀ j, j < i → ∀ x, ls[j]? = some x → x.2.1 ≠ l.2.1
/-- A pool that is right. -/
def PoolOkP (pa pn : Int) (ls : List Ls) (fs : List Fx) : Prop :=
  (PrefOk pa pn ∧ 24 ≤ pn ∧ pn ≤ 30 ∧ ls.length ≤ 6 ∧ fs.length ≤ 4) ∧ (∀ i f, fs[i]? = some f → FixOk pa pn fs i f) ∧ ∀ i l, ls[i]? = some l → LeaseOk pa pn ls fs i l

end Go.Proofs.Ytphmomlgmnllkap
namespace Go.Proofs.Ytphmomlgmnllkap
open Go.RowKit

abbrev PrefixD := Int × Int
abbrev PrefixT : TypeId := 40
def layPrefix : Lay PrefixD := Lay.pair Lay.int Lay.int
def layPrefixS : Lay (List PrefixD) := .rows PrefixT layPrefix

theorem layPrefix_rd {w : World} {cs : List Value} {x : PrefixD} : layPrefix.rd w cs x ↔ cs = [.int .i64 x.1, .int .i64 x.2] := by
  constructor
  · rintro ⟨c0, d0, rfl, rfl, rfl⟩
    rfl
  · rintro rfl
    exact ⟨[_], [_], rfl, rfl, rfl⟩

theorem layPrefix_own {w : World} {b : Nat} {f : List Nat} {cs : List Value} {x : PrefixD} : layPrefix.own w b f cs x ↔ f = [] ∧ cs = [.int .i64 x.1, .int .i64 x.2] := by
  constructor
  · rintro ⟨f0, g0, c0, d0, rfl, rfl, ⟨rfl, rfl⟩, ⟨rfl, rfl⟩⟩
    exact ⟨rfl, rfl⟩
  · rintro ⟨rfl, rfl⟩
    exact ⟨[], [], [_], [_], rfl, rfl, ⟨rfl, rfl⟩, ⟨rfl, rfl⟩⟩

theorem zeroPrefix (w : World) (b : Nat) : layPrefix.own w b [] [.int .i64 0, .int .i64 0] (0, 0) := layPrefix_own.2 ⟨rfl, rfl⟩
theorem zeroPrefix_none (w : World) (b : Nat) (f : List Nat) (c : List Value) (h : layPrefix.own w b f c (0, 0)) : f = [] := (layPrefix_own.1 h).1
theorem flatPrefix : Flat layPrefix := ⟨fun _ _ _ _ h => layPrefix_own.2 ⟨rfl, layPrefix_rd.1 h⟩, fun _ _ _ _ _ h => (layPrefix_own.1 h).1, fun _ _ _ _ h => layPrefix_rd.2 (layPrefix_rd.1 h)⟩

set_option maxRecDepth 100000 in
set_option maxHeartbeats 400000 in
theorem toPrefix_any (x0 : Int) (x1 : Int) (w : World) :
    Calls Try.prog 18 #[.agg #[.int .i64 x0, .int .i64 x1]] w fun e w' => e = .returned (.agg #[.int .i64 x0, .int .i64 x1]) ∧ Below w.heap.size w w' := by
  go_enter Try.func18, Try.ntmps18
  go_wp2_with fail
  refine bodyPost_ret (v := .agg #[.int .i64 x0, .int .i64 x1]) (by simp [results, Try.results18, go_sem]) rfl ⟨rfl, ?_⟩
  exact (((Below.refl w.heap.size w).alloc (Nat.le_refl _) _).alloc (by simp) _).alloc (by simp; omega) _

set_option maxRecDepth 100000 in
set_option maxHeartbeats 400000 in
theorem eqPrefix_same (x0 : Int) (x1 : Int) (w : World) :
    Calls Try.prog 53 #[.agg #[.int .i64 x0, .int .i64 x1], .agg #[.int .i64 x0, .int .i64 x1]] w fun e w' => e = .returned (.bool true) ∧ Below w.heap.size w w' := by
  go_enter Try.func53, Try.ntmps53
  go_wp2_with fail
  go_ret
  exact ⟨rfl, ((Below.refl _ _).alloc (Nat.le_refl _) _).alloc (by simp) _⟩

end Go.Proofs.Ytphmomlgmnllkap
