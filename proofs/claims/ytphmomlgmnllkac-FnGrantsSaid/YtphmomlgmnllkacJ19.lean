/-
  The given LookUp.
  Leases in plain words: who holds an address, for whom one is fixed, what is right; no program is spoken of here.
  Prefix as it lies; the laws' own functions over it and over rows of it.
  Lease as it lies; the laws' own functions over it and over rows of it.
-/
import Derived.Test.YtphmomlgmnllkacJ17
import Derived.Test.YtphmomlgmnllkacJ18
import Derived.Test.YtphmomlgmnllkacJ07
import Derived.Test.YtphmomlgmnllkacRows
import Derived.Deep.RegionHeld3
import Derived.BigQuiet
import Derived.Deep.QuietTactic
import Derived.Deep.DeepCutAuto
namespace Go.Proofs.Ytphmomlgmnllkac
open Go.RowKit

def prefB (a n : Int) : Bool := decide (0 ≤ a) && decide (a ≤ 4294967295) && decide (0 ≤ n) && decide (n ≤ 32) && (a.toNat % sizeP n.toNat == 0)
theorem prefB_iff (a n : Int) : prefB a n = true ↔ PrefOk a n := by simp [prefB, PrefOk, and_assoc]
def inB (a n x : Int) : Bool := prefB a n && decide (0 ≤ x) && decide (x ≤ 4294967295) && ((firstP x.toNat n.toNat : Int) == a)
theorem inB_iff (a n x : Int) : inB a n x = true ↔ InPref a n x := by
  unfold inB InPref
  rw [Bool.and_eq_true, Bool.and_eq_true, Bool.and_eq_true, prefB_iff, decide_eq_true_eq, decide_eq_true_eq, beq_iff_eq]
  constructor
  · rintro ⟨⟨⟨h1, h2⟩, h3⟩, h4⟩
    exact ⟨h1, ⟨h2, h3⟩, h4⟩
  · rintro ⟨h1, ⟨h2, h3⟩, h4⟩
    exact ⟨⟨⟨h1, h2⟩, h3⟩, h4⟩
theorem specInPrefix_any (a n x : Int) (X : World) : Calls Try.prog 19 #[.agg #[.int .i64 a, .int .i64 n], .int .i64 x] X fun e w' => e = .returned (.bool (inB a n x)) ∧ Below X.heap.size X w' := by
  by_cases h : InPref a n x
  · rw [(inB_iff a n x).2 h]
    exact specInPrefix_yes a n x h X
  · rw [Bool.eq_false_iff.2 (fun e => h ((inB_iff a n x).1 e))]
    exact specInPrefix_no a n x h X
/-- The longest so far, and whom it leads to. -/
def lookStep (x : Int) (s : Int × Int) (r : Rt) : Int × Int := if (inB r.1 r.2.1 x && decide (s.1 < r.2.1)) = true then (r.2.1, r.2.2) else s
def lookTo (x : Int) (xs : List Rt) : Int × Int := xs.foldl (lookStep x) (-1, 0)
theorem lookTo_take (x : Int) (xs : List Rt) (k : Nat) (h : k < xs.length) : lookTo x (xs.take (k + 1)) = lookStep x (lookTo x (xs.take k)) xs[k] := by
  unfold lookTo
  rw [List.take_add_one, List.getElem?_eq_getElem h, List.foldl_append]
  rfl

set_option maxRecDepth 100000 in
set_option maxHeartbeats 800000 in
theorem specLookUp_wrong (v : Value) (xs : List Rt) (x : Int) (hl : xs.length ≤ 2000000) (w : World) (hr : RowR rtRec w v xs) (h : ¬ RoutesP xs) :
    Calls Try.prog 16 #[v, .int .i64 x] w fun e w' => e = .returned (.int .i64 0) ∧ Below w.heap.size w w' := by
  have HE := Lib.hid (specRoutesOk_any v xs (by omega) w hr)
  have HN := Lib.hid h
  clear hr h
  go_enter Try.func16, Try.ntmps16
  go_wp2_with fail
  refine (HE.out).mono ?_
  rintro e w1 ⟨⟨h1, rfl⟩ | ⟨h1, rfl⟩, hb1⟩
  · exact absurd h1 HN.out
  · go_wp2_with fail
    go_ret
    exact ⟨rfl, hb1⟩

set_option maxRecDepth 100000 in
set_option maxHeartbeats 800000 in
theorem specLookUp_right (v : Value) (xs : List Rt) (x : Int) (hl : xs.length ≤ 2000000) (w : World) (hr : RowR rtRec w v xs) (h : RoutesP xs) :
    Calls Try.prog 16 #[v, .int .i64 x] w fun e w' => e = .returned (.int .i64 (lookTo x xs).2) ∧ Below w.heap.size w w' := by
  have HE := Lib.hid (specRoutesOk_any v xs (by omega) w hr)
  have HN := Lib.hid h
  obtain ⟨ao, cp, rfl, hf⟩ := hr.form
  clear hr h
  go_enter Try.func16, Try.ntmps16
  go_wp2_with fail
  refine (HE.out).mono ?_
  rintro e w1 ⟨⟨h1, rfl⟩ | ⟨h1, rfl⟩, hb1⟩
  · clear h1
    have HB1 := Lib.hid hb1
    clear hb1 HE
    go_wp2_with fail
    go_loopw [5, 6, 7] (fun b t c wr => ∃ k : Nat, k ≤ xs.length ∧ c = .int .i64 k ∧ b = .int .i64 (lookTo x (xs.take k)).1 ∧ t = .int .i64 (lookTo x (xs.take k)).2 ∧ Below w.heap.size w wr) (fun _ _ c _ => xs.length - (intOf c).toNat)
    case atStart => exact ⟨0, Nat.zero_le _, rfl, rfl, rfl, HB1.out⟩
    case round =>
      obtain ⟨k, hk, rfl, rfl, rfl, hnx⟩ := hrel
      by_cases hlt : k < xs.length
      · have hlt' : (k : Int) < (xs.length : Int) := by omega
        obtain ⟨g, rfl, hg, hcell⟩ := hf (by omega)
        have hxk : xs[k]? = some xs[k] := List.getElem?_eq_getElem hlt
        obtain ⟨c0, c1, c2⟩ := row_three hcell k xs[k] hxk
        rw [← hnx.cell (p := ⟨g, k * 3, none⟩) hg] at c0
        rw [← hnx.cell (p := ⟨g, k * 3 + 1, none⟩) hg] at c1
        rw [← hnx.cell (p := ⟨g, k * 3 + 2, none⟩) hg] at c2
        have hst := lookTo_take x xs k hlt
        generalize xs[k] = r at hxk c0 c1 c2 hst
        obtain ⟨ra, rn, rt⟩ := r
        obtain ⟨⟨s1, s2⟩, hs⟩ : ∃ s, lookTo x (xs.take k) = s := ⟨_, rfl⟩
        rw [hs] at hst ⊢
        have hin := specInPrefix_any ra rn x
        obtain ⟨b, hbe⟩ : ∃ b, inB ra rn x = b := ⟨_, rfl⟩
        unfold lookStep at hst
        simp only [hbe] at hst
        rw [hbe] at hin
        have HI := Lib.hid hin
        have HST := Lib.hid hst
        have HN2 := Lib.hid hnx
        have hgw : g < wr.heap.size := Nat.lt_of_lt_of_le hg hnx.size
        clear hin hst hbe hs hcell hxk hnx
        cases b
        · go_wp2_with fail
          refine (HI.out _).mono ?_
          rintro e w2 ⟨rfl, hb2⟩
          have HB2 := Lib.hid (HN2.out.trans (hb2.mono HN2.out.size))
          clear hb2
          go_wp2_with fail
          go_roundw
          case rel => exact ⟨k + 1, by omega, by go_num, by rw [HST.out]; rfl, by rw [HST.out]; rfl, HB2.out⟩
          case measure => simp [intOf]; omega
        · go_wp2_with fail
          refine (HI.out _).mono ?_
          rintro e w2 ⟨rfl, hb2⟩
          rw [← hb2.cell (p := ⟨g, k * 3 + 1, none⟩) hgw] at c1
          rw [← hb2.cell (p := ⟨g, k * 3 + 2, none⟩) hgw] at c2
          have HB2 := Lib.hid (HN2.out.trans (hb2.mono HN2.out.size))
          clear hb2
          by_cases hd : s1 < rn
          · have hd1 : decide (s1 < rn) = true := decide_eq_true hd
            have HF : Hid (lookTo x (xs.take (k + 1)) = (rn, rt)) := by show _ = _; rw [HST.out, hd1]; rfl
            clear HST
            go_wp2_with fail
            go_roundw
            case rel => exact ⟨k + 1, by omega, by go_num, by rw [HF.out], by rw [HF.out], HB2.out⟩
            case measure => simp [intOf]; omega
          · have hd1 : decide (s1 < rn) = false := decide_eq_false hd
            have HF : Hid (lookTo x (xs.take (k + 1)) = (s1, s2)) := by show _ = _; rw [HST.out, hd1]; rfl
            clear HST
            go_wp2_with fail
            go_roundw
            case rel => exact ⟨k + 1, by omega, by go_num, by rw [HF.out], by rw [HF.out], HB2.out⟩
            case measure => simp [intOf]; omega
      · have hlt' : ¬ ((k : Int) < (xs.length : Int)) := by omega
        have hke : k = xs.length := by omega
        subst hke
        rw [List.take_length]
        go_wp2_with fail
        go_ret
        exact ⟨rfl, hnx⟩
  · exact absurd HN.out h1

end Go.Proofs.Ytphmomlgmnllkac
namespace Go.Proofs.Ytphmomlgmnllkac

/-- A lease: address, whose, until; a fixed one: whose, address. -/
abbrev Ls := Int × Int × Int
abbrev Fx := Int × Int

def holderP : List Ls → Int → Int
  | [], _ => 0
  | l :: ls, a => if l.1 = a then l.2.1 else holderP ls a
def fixedP : List Fx → Int → Int
  | [], _ => 0
  | f :: fs, a => if f.2 = a then f.1 else fixedP fs a
/-- Whose fixed address is which; 0 without one. -/
def ownP : List Fx → Int → Option Int
  | [], _ => none
  | f :: fs, w => if f.1 = w then some f.2 else ownP fs w
def insideP (pa pn a : Int) : Bool := inB pa pn a && (a != pa) && (a != pa + (sizeP pn.toNat : Nat) - 1)

theorem holder_drop (ls : List Ls) (a : Int) (k : Nat) (h : k < ls.length) (hn : ∀ j, j < k → ∀ l, ls[j]? = some l → l.1 ≠ a) : holderP ls a = holderP (ls.drop k) a := by
  induction k generalizing ls with
  | zero => rfl
  | succ k ih =>
    cases ls with
    | nil => simp at h
    | cons l ls =>
      rw [holderP, if_neg (hn 0 (by omega) l rfl), List.drop_succ_cons]
      exact ih ls (by simp at h; omega) (fun j hj x hx => hn (j + 1) (by omega) x (by simpa using hx))
theorem holder_at (ls : List Ls) (a : Int) (k : Nat) (l : Ls) (hk : ls[k]? = some l) (hn : ∀ j, j < k → ∀ x, ls[j]? = some x → x.1 ≠ a) (hl : l.1 = a) : holderP ls a = l.2.1 := by
  have h := (List.getElem?_eq_some_iff.1 hk).1
  rw [holder_drop ls a k h hn, List.drop_eq_getElem_cons h, holderP]
  have : ls[k] = l := by rw [List.getElem?_eq_getElem h] at hk; exact Option.some.inj hk
  rw [this, if_pos hl]
theorem holder_none (ls : List Ls) (a : Int) (hn : ∀ (j : Nat) (x : Ls), ls[j]? = some x → x.1 ≠ a) : holderP ls a = 0 := by
  induction ls with
  | nil => rfl
  | cons l ls ih =>
    rw [holderP, if_neg (hn 0 l rfl)]
    exact ih fun j x hx => hn (j + 1) x (by simpa using hx)
theorem fixed_at (fs : List Fx) (a : Int) : ∀ (k : Nat) (f : Fx), fs[k]? = some f → (∀ j, j < k → ∀ x, fs[j]? = some x → x.2 ≠ a) → f.2 = a → fixedP fs a = f.1 := by
  induction fs with
  | nil => intro k f h; simp at h
  | cons g fs ih =>
    intro k f hk hn hf
    cases k with
    | zero =>
      simp at hk
      subst hk
      rw [fixedP, if_pos hf]
    | succ k =>
      rw [fixedP, if_neg (hn 0 (by omega) g rfl)]
      exact ih k f (by simpa using hk) (fun j hj x hx => hn (j + 1) (by omega) x (by simpa using hx)) hf
theorem fixed_none (fs : List Fx) (a : Int) (hn : ∀ (j : Nat) (x : Fx), fs[j]? = some x → x.2 ≠ a) : fixedP fs a = 0 := by
  induction fs with
  | nil => rfl
  | cons g fs ih =>
    rw [fixedP, if_neg (hn 0 g rfl)]
    exact ih fun j x hx => hn (j + 1) x (by simpa using hx)

/-- What is right at one place. -/
def FixOk (pa pn : Int) (fs : List Fx) (i : Nat) (f : Fx) : Prop := (1 ≤ f.1 ∧ f.1 ≤ 99) ∧ insideP pa pn f.2 = true ∧ (∀ g, 0 < i → fs[i - 1]? = some g → g.1 < f.1) ∧ fixedP fs f.2 = f.1
def LeaseOk (pa pn : Int) (ls : List Ls) (fs : List Fx) (i : Nat) (l : Ls) : Prop :=
  insideP pa pn l.1 = true ∧ (1 ≤ l.2.1 ∧ l.2.1 ≤ 99) ∧ (0 ≤ l.2.2 ∧ l.2.2 ≤ 1000000000) ∧ (∀ g, 0 < i → ls[i - 1]? = some g → g.1 < l.1) ∧ (fixedP fs l.1 = 0 ∨ fixedP fs l.1 = l.2.1) ∧ ∀ j, j < i → ∀ x, ls[j]? = some x → x.2.1 ≠ l.2.1
/-- A pool that is right. -/
def PoolOkP (pa pn : Int) (ls : List Ls) (fs : List Fx) : Prop :=
  (PrefOk pa pn ∧ 24 ≤ pn ∧ pn ≤ 30 ∧ ls.length ≤ 6 ∧ fs.length ≤ 4) ∧ (∀ i f, fs[i]? = some f → FixOk pa pn fs i f) ∧ ∀ i l, ls[i]? = some l → LeaseOk pa pn ls fs i l

end Go.Proofs.Ytphmomlgmnllkac
namespace Go.Proofs.Ytphmomlgmnllkac
open Go.RowKit

abbrev PrefixD := Int × Int
abbrev PrefixT : TypeId := 29
def layPrefix : Lay PrefixD := Lay.pair Lay.int Lay.int
def layPrefixS : Lay (List PrefixD) := .rows PrefixT layPrefix

theorem layPrefix_rd {w : World} {cs : List Value} {x : PrefixD} : layPrefix.rd w cs x ↔ cs = [.int .i64 x.1, .int .i64 x.2] := by
  constructor
  · rintro ⟨c0, d0, rfl, rfl, rfl⟩
    rfl
  · rintro rfl
    exact ⟨[_], [_], rfl, rfl, rfl⟩

theorem layPrefix_own {w : World} {b : Nat} {f : List Nat} {cs : List Value} {x : PrefixD} : layPrefix.own w b f cs x ↔ f = [] ∧ cs = [.int .i64 x.1, .int .i64 x.2] := by
  constructor
  · rintro ⟨f0, g0, c0, d0, rfl, rfl, ⟨rfl, rfl⟩, ⟨rfl, rfl⟩⟩
    exact ⟨rfl, rfl⟩
  · rintro ⟨rfl, rfl⟩
    exact ⟨[], [], [_], [_], rfl, rfl, ⟨rfl, rfl⟩, ⟨rfl, rfl⟩⟩

theorem zeroPrefix (w : World) (b : Nat) : layPrefix.own w b [] [.int .i64 0, .int .i64 0] (0, 0) := layPrefix_own.2 ⟨rfl, rfl⟩
theorem zeroPrefix_none (w : World) (b : Nat) (f : List Nat) (c : List Value) (h : layPrefix.own w b f c (0, 0)) : f = [] := (layPrefix_own.1 h).1
theorem flatPrefix : Flat layPrefix := ⟨fun _ _ _ _ h => layPrefix_own.2 ⟨rfl, layPrefix_rd.1 h⟩, fun _ _ _ _ _ h => (layPrefix_own.1 h).1, fun _ _ _ _ h => layPrefix_rd.2 (layPrefix_rd.1 h)⟩

end Go.Proofs.Ytphmomlgmnllkac
namespace Go.Proofs.Ytphmomlgmnllkac
open Go.RowKit

abbrev LeaseD := Int × Int × Int
abbrev LeaseT : TypeId := 64
def layLease : Lay LeaseD := Lay.pair Lay.int (Lay.pair Lay.int Lay.int)
def layLeaseS : Lay (List LeaseD) := .rows LeaseT layLease

theorem layLease_rd {w : World} {cs : List Value} {x : LeaseD} : layLease.rd w cs x ↔ cs = [.int .i64 x.1, .int .i64 x.2.1, .int .i64 x.2.2] := by
  constructor
  · rintro ⟨c0, d0, rfl, rfl, ⟨c1, d1, rfl, rfl, rfl⟩⟩
    rfl
  · rintro rfl
    exact ⟨[_], [_, _], rfl, rfl, ⟨[_], [_], rfl, rfl, rfl⟩⟩

theorem layLease_own {w : World} {b : Nat} {f : List Nat} {cs : List Value} {x : LeaseD} : layLease.own w b f cs x ↔ f = [] ∧ cs = [.int .i64 x.1, .int .i64 x.2.1, .int .i64 x.2.2] := by
  constructor
  · rintro ⟨f0, g0, c0, d0, rfl, rfl, ⟨rfl, rfl⟩, ⟨f1, g1, c1, d1, rfl, rfl, ⟨rfl, rfl⟩, ⟨rfl, rfl⟩⟩⟩
    exact ⟨rfl, rfl⟩
  · rintro ⟨rfl, rfl⟩
    exact ⟨[], ([] ++ []), [_], [_, _], rfl, rfl, ⟨rfl, rfl⟩, ⟨[], [], [_], [_], rfl, rfl, ⟨rfl, rfl⟩, ⟨rfl, rfl⟩⟩⟩

theorem zeroLease (w : World) (b : Nat) : layLease.own w b [] [.int .i64 0, .int .i64 0, .int .i64 0] (0, 0, 0) := layLease_own.2 ⟨rfl, rfl⟩
theorem zeroLease_none (w : World) (b : Nat) (f : List Nat) (c : List Value) (h : layLease.own w b f c (0, 0, 0)) : f = [] := (layLease_own.1 h).1
theorem flatLease : Flat layLease := ⟨fun _ _ _ _ h => layLease_own.2 ⟨rfl, layLease_rd.1 h⟩, fun _ _ _ _ _ h => (layLease_own.1 h).1, fun _ _ _ _ h => layLease_rd.2 (layLease_rd.1 h)⟩

theorem infoLease : (Try.prog.info? 64).map (fun i => (i.zero, i.size, i.bytes)) = some (some (.agg #[.int .i64 0, .int .i64 0, .int .i64 0]), 3, 24) := by kernel_rfl

theorem markLease_eq (q : Int) (x : LeaseD) : layLease.mark q x = ((q, q + 1, q + 1 + 1), q + 1 + 1 + 1) := rfl
theorem marksLease_num (k : Int) (xs : List LeaseD) : (layLeaseS.mark k xs).2 = k + 3 * (xs.length : Int) := by
  show (mkAll layLease k xs).2 = _
  induction xs generalizing k with
  | nil => simp [mkAll]
  | cons x xs ih =>
    show (mkAll layLease (layLease.mark k x).2 xs).2 = _
    rw [ih, markLease_eq]
    simp only [List.length_cons]
    omega
theorem marksLease_next (k : Int) (xs : List LeaseD) (j : Nat) (x : LeaseD) (hx : xs[j]? = some x) : (layLeaseS.mark k (xs.take (j + 1))).1 = (layLeaseS.mark k (xs.take j)).1 ++ [(layLease.mark (k + 3 * (j : Int)) x).1] := by
  have hj : j < xs.length := (List.getElem?_eq_some_iff.1 hx).1
  have e : xs.take (j + 1) = xs.take j ++ [x] := by rw [List.take_add_one, hx]; rfl
  have h2 := marksLease_num k (xs.take j)
  show (mkAll layLease k _).1 = (mkAll layLease k _).1 ++ _
  rw [e, mkAll_append]
  have h3 : (mkAll layLease k (xs.take j)).2 = k + 3 * (j : Int) := by
    have h4 : (mkAll layLease k (xs.take j)).2 = _ := h2
    rw [h4, List.length_take, Nat.min_eq_left (by omega)]
  rw [h3]
  rfl
theorem marksLease_get (k : Int) (xs : List LeaseD) (j : Nat) (x : LeaseD) (hx : xs[j]? = some x) : (layLeaseS.mark k xs).1[j]? = some (layLease.mark (k + 3 * (j : Int)) x).1 := by
  have hj : j < xs.length := (List.getElem?_eq_some_iff.1 hx).1
  have h := marksLease_next k xs j x hx
  have e : xs = xs.take (j + 1) ++ xs.drop (j + 1) := (List.take_append_drop _ _).symm
  have e2 : (layLeaseS.mark k xs).1 = (layLeaseS.mark k (xs.take (j + 1))).1 ++ (mkAll layLease (layLeaseS.mark k (xs.take (j + 1))).2 (xs.drop (j + 1))).1 := by
    conv => lhs; rw [e]
    show (mkAll layLease k _).1 = _
    rw [mkAll_append]
    rfl
  have hl : (layLeaseS.mark k (xs.take j)).1.length = j := by
    show (mkAll layLease k _).1.length = j
    rw [mkAll_length, List.length_take]
    omega
  rw [e2, h, List.getElem?_append_left (by rw [List.length_append, hl]; simp), List.getElem?_append_right (by omega), hl, Nat.sub_self]
  rfl
end Go.Proofs.Ytphmomlgmnllkac
