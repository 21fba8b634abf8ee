/-
  Fixed as it lies; the laws' own functions over it and over rows of it.
  Pool as it lies; the laws' own functions over it and over rows of it.
  The given HolderOf, l11FixedFor, l11Inside.
-/
import Derived.Test.YtphmomlgmnllkacJ07
import Derived.Test.YtphmomlgmnllkacRows
import Derived.Deep.RegionHeld3
import Derived.BigQuiet
import Derived.Deep.QuietTactic
import Derived.Deep.DeepCutAuto
import Derived.Test.YtphmomlgmnllkacJ19
import Derived.Test.YtphmomlgmnllkacJ14
import Derived.Test.YtphmomlgmnllkacJ18
namespace Go.Proofs.Ytphmomlgmnllkac
open Go.RowKit

abbrev FixedD := Int × Int
abbrev FixedT : TypeId := 128
def layFixed : Lay FixedD := Lay.pair Lay.int Lay.int
def layFixedS : Lay (List FixedD) := .rows FixedT layFixed

theorem layFixed_rd {w : World} {cs : List Value} {x : FixedD} : layFixed.rd w cs x ↔ cs = [.int .i64 x.1, .int .i64 x.2] := by
  constructor
  · rintro ⟨c0, d0, rfl, rfl, rfl⟩
    rfl
  · rintro rfl
    exact ⟨[_], [_], rfl, rfl, rfl⟩

theorem layFixed_own {w : World} {b : Nat} {f : List Nat} {cs : List Value} {x : FixedD} : layFixed.own w b f cs x ↔ f = [] ∧ cs = [.int .i64 x.1, .int .i64 x.2] := by
  constructor
  · rintro ⟨f0, g0, c0, d0, rfl, rfl, ⟨rfl, rfl⟩, ⟨rfl, rfl⟩⟩
    exact ⟨rfl, rfl⟩
  · rintro ⟨rfl, rfl⟩
    exact ⟨[], [], [_], [_], rfl, rfl, ⟨rfl, rfl⟩, ⟨rfl, rfl⟩⟩

theorem zeroFixed (w : World) (b : Nat) : layFixed.own w b [] [.int .i64 0, .int .i64 0] (0, 0) := layFixed_own.2 ⟨rfl, rfl⟩
theorem zeroFixed_none (w : World) (b : Nat) (f : List Nat) (c : List Value) (h : layFixed.own w b f c (0, 0)) : f = [] := (layFixed_own.1 h).1
theorem flatFixed : Flat layFixed := ⟨fun _ _ _ _ h => layFixed_own.2 ⟨rfl, layFixed_rd.1 h⟩, fun _ _ _ _ _ h => (layFixed_own.1 h).1, fun _ _ _ _ h => layFixed_rd.2 (layFixed_rd.1 h)⟩

theorem infoFixed : (Try.prog.info? 128).map (fun i => (i.zero, i.size, i.bytes)) = some (some (.agg #[.int .i64 0, .int .i64 0]), 2, 16) := by kernel_rfl

theorem markFixed_eq (q : Int) (x : FixedD) : layFixed.mark q x = ((q, q + 1), q + 1 + 1) := rfl
theorem marksFixed_num (k : Int) (xs : List FixedD) : (layFixedS.mark k xs).2 = k + 2 * (xs.length : Int) := by
  show (mkAll layFixed k xs).2 = _
  induction xs generalizing k with
  | nil => simp [mkAll]
  | cons x xs ih =>
    show (mkAll layFixed (layFixed.mark k x).2 xs).2 = _
    rw [ih, markFixed_eq]
    simp only [List.length_cons]
    omega
theorem marksFixed_next (k : Int) (xs : List FixedD) (j : Nat) (x : FixedD) (hx : xs[j]? = some x) : (layFixedS.mark k (xs.take (j + 1))).1 = (layFixedS.mark k (xs.take j)).1 ++ [(layFixed.mark (k + 2 * (j : Int)) x).1] := by
  have hj : j < xs.length := (List.getElem?_eq_some_iff.1 hx).1
  have e : xs.take (j + 1) = xs.take j ++ [x] := by rw [List.take_add_one, hx]; rfl
  have h2 := marksFixed_num k (xs.take j)
  show (mkAll layFixed k _).1 = (mkAll layFixed k _).1 ++ _
  rw [e, mkAll_append]
  have h3 : (mkAll layFixed k (xs.take j)).2 = k + 2 * (j : Int) := by
    have h4 : (mkAll layFixed k (xs.take j)).2 = _ := h2
    rw [h4, List.length_take, Nat.min_eq_left (by omega)]
  rw [h3]
  rfl
theorem marksFixed_get (k : Int) (xs : List FixedD) (j : Nat) (x : FixedD) (hx : xs[j]? = some x) : (layFixedS.mark k xs).1[j]? = some (layFixed.mark (k + 2 * (j : Int)) x).1 := by
  have hj : j < xs.length := (List.getElem?_eq_some_iff.1 hx).1
  have h := marksFixed_next k xs j x hx
  have e : xs = xs.take (j + 1) ++ xs.drop (j + 1) := (List.take_append_drop _ _).symm
  have e2 : (layFixedS.mark k xs).1 = (layFixedS.mark k (xs.take (j + 1))).1 ++ (mkAll layFixed (layFixedS.mark k (xs.take (j + 1))).2 (xs.drop (j + 1))).1 := by
    conv => lhs; rw [e]
    show (mkAll layFixed k _).1 = _
    rw [mkAll_append]
    rfl
  have hl : (layFixedS.mark k (xs.take j)).1.length = j := by
    show (mkAll layFixed k _).1.length = j
    rw [mkAll_length, List.length_take]
    omega
  rw [e2, h, List.getElem?_append_left (by rw [List.length_append, hl]; simp), List.getElem?_append_right (by omega), hl, Nat.sub_self]
  rfl
end Go.Proofs.Ytphmomlgmnllkac
namespace Go.Proofs.Ytphmomlgmnllkac
open Go.RowKit

abbrev PoolD := PrefixD × (List LeaseD) × (List FixedD)
abbrev PoolT : TypeId := 54
def layPool : Lay PoolD := Lay.pair layPrefix (Lay.pair layLeaseS layFixedS)
def layPoolS : Lay (List PoolD) := .rows PoolT layPool

theorem layPool_rd {w : World} {cs : List Value} {x : PoolD} : layPool.rd w cs x ↔ ∃ v2 v3, cs = [.int .i64 x.1.1, .int .i64 x.1.2, v2, v3] ∧ layLeaseS.rd w [v2] x.2.1 ∧ layFixedS.rd w [v3] x.2.2 := by
  constructor
  · rintro ⟨c101, d101, rfl, ⟨c100, d100, rfl, rfl, rfl⟩, ⟨c103, d103, rfl, ⟨v102, rfl, h102⟩, ⟨v104, rfl, h104⟩⟩⟩
    exact ⟨v102, v104, rfl, ⟨v102, rfl, h102⟩, ⟨v104, rfl, h104⟩⟩
  · rintro ⟨v2, v3, rfl, H2, H3⟩
    exact ⟨[_, _], [_, _], rfl, ⟨[_], [_], rfl, rfl, rfl⟩, ⟨[_], [_], rfl, H2, H3⟩⟩

theorem layPool_own {w : World} {b : Nat} {f : List Nat} {cs : List Value} {x : PoolD} : layPool.own w b f cs x ↔ ∃ v2 v3 f2 f3, cs = [.int .i64 x.1.1, .int .i64 x.1.2, v2, v3] ∧ f = f2 ++ f3 ∧ layLeaseS.own w b f2 [v2] x.2.1 ∧ layFixedS.own w b f3 [v3] x.2.2 := by
  constructor
  · rintro ⟨f101, g101, c101, d101, rfl, rfl, ⟨f100, g100, c100, d100, rfl, rfl, ⟨rfl, rfl⟩, ⟨rfl, rfl⟩⟩, ⟨f103, g103, c103, d103, rfl, rfl, ⟨v102, rfl, h102⟩, ⟨v104, rfl, h104⟩⟩⟩
    exact ⟨v102, v104, _, _, rfl, by simp, ⟨v102, rfl, h102⟩, ⟨v104, rfl, h104⟩⟩
  · rintro ⟨v2, v3, f2, f3, rfl, hf, H2, H3⟩
    have hf2 : f = (([] ++ []) ++ (f2 ++ f3)) := by simp [hf]
    rw [hf2]
    exact ⟨([] ++ []), (f2 ++ f3), [_, _], [_, _], rfl, rfl, ⟨[], [], [_], [_], rfl, rfl, ⟨rfl, rfl⟩, ⟨rfl, rfl⟩⟩, ⟨f2, f3, [_], [_], rfl, rfl, H2, H3⟩⟩

end Go.Proofs.Ytphmomlgmnllkac
namespace Go.Proofs.Ytphmomlgmnllkac
open Go.RowKit

theorem lease_cells {X : World} {la : Option Addr} {n lc : Nat} {ls : List Ls} (h : layLeaseS.rd X [.slice la n lc] ls) (k : Nat) (l : Ls) (hk : ls[k]? = some l) :
    ∃ g off, la = some ⟨g, off, none⟩ ∧ g < X.heap.size ∧ X.cell? ⟨g, off + k * 3, none⟩ = some (.int .i64 l.1) ∧ X.cell? ⟨g, off + k * 3 + 1, none⟩ = some (.int .i64 l.2.1) ∧ X.cell? ⟨g, off + k * 3 + 2, none⟩ = some (.int .i64 l.2.2) := by
  obtain ⟨g, off, cs, rfl, hg, hr, hc⟩ := rows_elem h k l hk
  rw [layLease_rd] at hr
  subst hr
  exact ⟨g, off, rfl, hg, hc 0 _ rfl, hc 1 _ rfl, hc 2 _ rfl⟩
theorem fixed_cells {X : World} {fa : Option Addr} {n fc : Nat} {fs : List Fx} (h : layFixedS.rd X [.slice fa n fc] fs) (k : Nat) (f : Fx) (hk : fs[k]? = some f) :
    ∃ g off, fa = some ⟨g, off, none⟩ ∧ g < X.heap.size ∧ X.cell? ⟨g, off + k * 2, none⟩ = some (.int .i64 f.1) ∧ X.cell? ⟨g, off + k * 2 + 1, none⟩ = some (.int .i64 f.2) := by
  obtain ⟨g, off, cs, rfl, hg, hr, hc⟩ := rows_elem h k f hk
  rw [layFixed_rd] at hr
  subst hr
  exact ⟨g, off, rfl, hg, hc 0 _ rfl, hc 1 _ rfl⟩

/-- A pool that can be read. -/
structure PoolR (w : World) (lv fv : Value) (ls : List Ls) (fs : List Fx) : Prop where
  leases : layLeaseS.rd w [lv] ls
  fixes : layFixedS.rd w [fv] fs
theorem PoolR.next {w w' : World} {lv fv : Value} {ls : List Ls} {fs : List Fx} (h : PoolR w lv fv ls fs) (hb : Below w.heap.size w w') : PoolR w' lv fv ls fs := ⟨layLeaseS.below h.leases hb, layFixedS.below h.fixes hb⟩

set_option maxRecDepth 100000 in
set_option maxHeartbeats 800000 in
theorem specHolderOf_any (pa pn : Int) (lv fv : Value) (ls : List Ls) (fs : List Fx) (a : Int) (hl : ls.length ≤ 100000000) (w : World) (h : PoolR w lv fv ls fs) :
    Calls Try.prog 100 #[.agg #[.int .i64 pa, .int .i64 pn, lv, fv], .int .i64 a] w fun e w' => e = .returned (.int .i64 (holderP ls a)) ∧ Below w.heap.size w w' := by
  obtain ⟨la, lc, rfl⟩ := rows_form h.leases
  obtain ⟨fa, fc, rfl⟩ := rows_form h.fixes
  have A0 := Lib.hid (VarA.new w PoolT #[.int .i64 pa, .int .i64 pn, .slice la ls.length lc, .slice fa fs.length fc])
  have hB0 : Below w.heap.size w (w.alloc (.cells #[.int .i64 pa, .int .i64 pn, .slice la ls.length lc, .slice fa fs.length fc] PoolT)) := (Below.refl _ _).alloc (Nat.le_refl _) _
  have HB := Lib.hid hB0
  have HR := Lib.hid (h.next hB0)
  clear h hB0
  go_enter Try.func100, Try.ntmps100
  go_upto_region 1 with fail
  generalize w.alloc (.cells #[.int .i64 pa, .int .i64 pn, .slice la ls.length lc, .slice fa fs.length fc] PoolT) = X0 at *
  have c2 : X0.cell? ⟨w.heap.size, 2, none⟩ = some (.slice la ls.length lc) := A0.out.cell 2
  go_wp2_with fail
  go_loopw [5] (fun c wr => ∃ k : Nat, k ≤ ls.length ∧ c = .int .i64 k ∧ Hid (∀ j, j < k → ∀ x, ls[j]? = some x → x.1 ≠ a) ∧ wr = X0) (fun c _ => ls.length - (intOf c).toNat)
  case atStart => exact ⟨0, Nat.zero_le _, rfl, fun j hj => absurd hj (by omega), by first | trivial | rfl⟩
  case round =>
    obtain ⟨k, hk, rfl, HN, rfl⟩ := hrel
    by_cases hlt : k < ls.length
    · have hlt' : (k : Int) < (ls.length : Int) := by omega
      have hget : ls[k]? = some ls[k] := List.getElem?_eq_getElem hlt
      obtain ⟨g, off, rfl, hg, d0, d1, d2⟩ := lease_cells HR.out.leases k _ hget
      generalize ls[k] = l at hget d0 d1 d2
      obtain ⟨l0, l1, l2⟩ := l
      by_cases hla : l0 = a
      · have hbq : (l0 == a) = true := by rw [beq_iff_eq]; exact hla
        have HE : Hid (holderP ls a = l1) := holder_at ls a k (l0, l1, l2) hget HN.out hla
        clear hla hget
        go_wp2_with fail
        go_ret
        exact ⟨congrArg (fun z => Ending.returned (Value.int .i64 z)) HE.out.symm, HB.out⟩
      · have hbq : (l0 == a) = false := by rw [beq_eq_false_iff_ne]; exact hla
        have HN2 : Hid (∀ j, j < k + 1 → ∀ x, ls[j]? = some x → x.1 ≠ a) := fun j hj x hx => by
          rcases Nat.lt_or_ge j k with h1 | h1
          · exact HN.out j h1 x hx
          · have : j = k := by omega
            subst this
            rw [hget] at hx
            cases hx
            exact hla
        clear hla hget
        go_wp2_with fail
        go_roundw
        case rel => exact ⟨k + 1, by omega, by go_num, HN2, by first | trivial | rfl⟩
        case measure => simp [intOf]; omega
    · have hlt' : ¬ ((k : Int) < (ls.length : Int)) := by omega
      have HE : Hid (holderP ls a = 0) := holder_none ls a (fun j x hx => HN.out j (by have := (List.getElem?_eq_some_iff.1 hx).1; omega) x hx)
      go_wp2_with fail
      go_ret
      exact ⟨congrArg (fun z => Ending.returned (Value.int .i64 z)) HE.out.symm, HB.out⟩

set_option maxRecDepth 100000 in
set_option maxHeartbeats 800000 in
theorem specFixedFor_any (pa pn : Int) (lv fv : Value) (ls : List Ls) (fs : List Fx) (a : Int) (hl : fs.length ≤ 100000000) (w : World) (h : PoolR w lv fv ls fs) :
    Calls Try.prog 93 #[.agg #[.int .i64 pa, .int .i64 pn, lv, fv], .int .i64 a] w fun e w' => e = .returned (.int .i64 (fixedP fs a)) ∧ Below w.heap.size w w' := by
  obtain ⟨la, lc, rfl⟩ := rows_form h.leases
  obtain ⟨fa, fc, rfl⟩ := rows_form h.fixes
  have A0 := Lib.hid (VarA.new w PoolT #[.int .i64 pa, .int .i64 pn, .slice la ls.length lc, .slice fa fs.length fc])
  have hB0 : Below w.heap.size w (w.alloc (.cells #[.int .i64 pa, .int .i64 pn, .slice la ls.length lc, .slice fa fs.length fc] PoolT)) := (Below.refl _ _).alloc (Nat.le_refl _) _
  have HB := Lib.hid hB0
  have HR := Lib.hid (h.next hB0)
  clear h hB0
  go_enter Try.func93, Try.ntmps93
  go_upto_region 1 with fail
  generalize w.alloc (.cells #[.int .i64 pa, .int .i64 pn, .slice la ls.length lc, .slice fa fs.length fc] PoolT) = X0 at *
  have c3 : X0.cell? ⟨w.heap.size, 3, none⟩ = some (.slice fa fs.length fc) := A0.out.cell 3
  go_wp2_with fail
  go_loopw [5] (fun c wr => ∃ k : Nat, k ≤ fs.length ∧ c = .int .i64 k ∧ Hid (∀ j, j < k → ∀ x, fs[j]? = some x → x.2 ≠ a) ∧ wr = X0) (fun c _ => fs.length - (intOf c).toNat)
  case atStart => exact ⟨0, Nat.zero_le _, rfl, fun j hj => absurd hj (by omega), by first | trivial | rfl⟩
  case round =>
    obtain ⟨k, hk, rfl, HN, rfl⟩ := hrel
    by_cases hlt : k < fs.length
    · have hlt' : (k : Int) < (fs.length : Int) := by omega
      have hget : fs[k]? = some fs[k] := List.getElem?_eq_getElem hlt
      obtain ⟨g, off, rfl, hg, d0, d1⟩ := fixed_cells HR.out.fixes k _ hget
      generalize fs[k] = l at hget d0 d1
      obtain ⟨l0, l1⟩ := l
      by_cases hla : l1 = a
      · have hbq : (l1 == a) = true := by rw [beq_iff_eq]; exact hla
        have HE : Hid (fixedP fs a = l0) := fixed_at fs a k (l0, l1) hget HN.out hla
        clear hla hget
        go_wp2_with fail
        go_ret
        exact ⟨congrArg (fun z => Ending.returned (Value.int .i64 z)) HE.out.symm, HB.out⟩
      · have hbq : (l1 == a) = false := by rw [beq_eq_false_iff_ne]; exact hla
        have HN2 : Hid (∀ j, j < k + 1 → ∀ x, fs[j]? = some x → x.2 ≠ a) := fun j hj x hx => by
          rcases Nat.lt_or_ge j k with h1 | h1
          · exact HN.out j h1 x hx
          · have : j = k := by omega
            subst this
            rw [hget] at hx
            cases hx
            exact hla
        clear hla hget
        go_wp2_with fail
        go_roundw
        case rel => exact ⟨k + 1, by omega, by go_num, HN2, by first | trivial | rfl⟩
        case measure => simp [intOf]; omega
    · have hlt' : ¬ ((k : Int) < (fs.length : Int)) := by omega
      have HE : Hid (fixedP fs a = 0) := fixed_none fs a (fun j x hx => HN.out j (by have := (List.getElem?_eq_some_iff.1 hx).1; omega) x hx)
      go_wp2_with fail
      go_ret
      exact ⟨congrArg (fun z => Ending.returned (Value.int .i64 z)) HE.out.symm, HB.out⟩

end Go.Proofs.Ytphmomlgmnllkac
