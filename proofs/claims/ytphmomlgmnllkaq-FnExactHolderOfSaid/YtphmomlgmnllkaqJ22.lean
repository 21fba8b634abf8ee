/-
  The given HolderOf, l11FixedFor, l11Inside.
-/
import Derived.Test.YtphmomlgmnllkaqJ18
import Derived.Test.YtphmomlgmnllkaqJ21
import Derived.Test.YtphmomlgmnllkaqJ14
import Derived.Test.YtphmomlgmnllkaqJ17
namespace Go.Proofs.Ytphmomlgmnllkaq
open Go.RowKit

theorem lease_cells {X : World} {la : Option Addr} {n lc : Nat} {ls : List Ls} (h : layLeaseS.rd X [.slice la n lc] ls) (k : Nat) (l : Ls) (hk : ls[k]? = some l) :
    ∃ g off, la = some ⟨g, off, none⟩ ∧ g < X.heap.size ∧ X.cell? ⟨g, off + k * 3, none⟩ = some (.int .i64 l.1) ∧ X.cell? ⟨g, off + k * 3 + 1, none⟩ = some (.int .i64 l.2.1) ∧ X.cell? ⟨g, off + k * 3 + 2, none⟩ = some (.int .i64 l.2.2) := by
  obtain ⟨g, off, cs, rfl, hg, hr, hc⟩ := rows_elem h k l hk
  rw [layLease_rd] at hr
  subst hr
  exact ⟨g, off, rfl, hg, hc 0 _ rfl, hc 1 _ rfl, hc 2 _ rfl⟩
theorem fixed_cells {X : World} {fa : Option Addr} {n fc : Nat} {fs : List Fx} (h : layFixedS.rd X [.slice fa n fc] fs) (k : Nat) (f : Fx) (hk : fs[k]? = some f) :
    ∃ g off, fa = some ⟨g, off, none⟩ ∧ g < X.heap.size ∧ X.cell? ⟨g, off + k * 2, none⟩ = some (.int .i64 f.1) ∧ X.cell? ⟨g, off + k * 2 + 1, none⟩ = some (.int .i64 f.2) := by
  obtain ⟨g, off, cs, rfl, hg, hr, hc⟩ := rows_elem h k f hk
  rw [layFixed_rd] at hr
  subst hr
  exact ⟨g, off, rfl, hg, hc 0 _ rfl, hc 1 _ rfl⟩

/-- A pool that can be read. -/
structure PoolR (w : World) (lv fv : Value) (ls : List Ls) (fs : List Fx) : Prop where
  leases : layLeaseS.rd w [lv] ls
  fixes : layFixedS.rd w [fv] fs
theorem PoolR.next {w w' : World} {lv fv : Value} {ls : List Ls} {fs : List Fx} (h : PoolR w lv fv ls fs) (hb : Below w.heap.size w w') : PoolR w' lv fv ls fs := ⟨layLeaseS.below h.leases hb, layFixedS.below h.fixes hb⟩

set_option maxRecDepth 100000 in
set_option maxHeartbeats 800000 in
theorem specHolderOf_any (pa pn : Int) (lv fv : Value) (ls : List Ls) (fs : List Fx) (a : Int) (hl : ls.length ≤ 100000000) (w : World) (h : PoolR w lv fv ls fs) :
    Calls Try.prog 15 #[.agg #[.int .i64 pa, .int .i64 pn, lv, fv], .int .i64 a] w fun e w' => e = .returned (.int .i64 (holderP ls a)) ∧ Below w.heap.size w w' := by
  obtain ⟨la, lc, rfl⟩ := rows_form h.leases
  obtain ⟨fa, fc, rfl⟩ := rows_form h.fixes
  have A0 := Lib.hid (VarA.new w PoolT #[.int .i64 pa, .int .i64 pn, .slice la ls.length lc, .slice fa fs.length fc])
  have hB0 : Below w.heap.size w (w.alloc (.cells #[.int .i64 pa, .int .i64 pn, .slice la ls.length lc, .slice fa fs.length fc] PoolT)) := (Below.refl _ _).alloc (Nat.le_refl _) _
  have HB := Lib.hid hB0
  have HR := Lib.hid (h.next hB0)
  clear h hB0
  go_enter Try.func15, Try.ntmps15
  go_upto_region 1 with fail
  generalize w.alloc (.cells #[.int .i64 pa, .int .i64 pn, .slice la ls.length lc, .slice fa fs.length fc] PoolT) = X0 at *
  have c2 : X0.cell? ⟨w.heap.size, 2, none⟩ = some (.slice la ls.length lc) := A0.out.cell 2
  go_wp2_with fail
  go_loopw [5] (fun c wr => ∃ k : Nat, k ≤ ls.length ∧ c = .int .i64 k ∧ Hid (∀ j, j < k → ∀ x, ls[j]? = some x → x.1 ≠ a) ∧ wr = X0) (fun c _ => ls.length - (intOf c).toNat)
  case atStart => exact ⟨0, Nat.zero_le _, rfl, fun j hj => absurd hj (by omega), by first | trivial | rfl⟩
  case round =>
    obtain ⟨k, hk, rfl, HN, rfl⟩ := hrel
    by_cases hlt : k < ls.length
    · have hlt' : (k : Int) < (ls.length : Int) := by omega
      have hget : ls[k]? = some ls[k] := List.getElem?_eq_getElem hlt
      obtain ⟨g, off, rfl, hg, d0, d1, d2⟩ := lease_cells HR.out.leases k _ hget
      generalize ls[k] = l at hget d0 d1 d2
      obtain ⟨l0, l1, l2⟩ := l
      by_cases hla : l0 = a
      · have hbq : (l0 == a) = true := by rw [beq_iff_eq]; exact hla
        have HE : Hid (holderP ls a = l1) := holder_at ls a k (l0, l1, l2) hget HN.out hla
        clear hla hget
        go_wp2_with fail
        go_ret
        exact ⟨congrArg (fun z => Ending.returned (Value.int .i64 z)) HE.out.symm, HB.out⟩
      · have hbq : (l0 == a) = false := by rw [beq_eq_false_iff_ne]; exact hla
        have HN2 : Hid (∀ j, j < k + 1 → ∀ x, ls[j]? = some x → x.1 ≠ a) := fun j hj x hx => by
          rcases Nat.lt_or_ge j k with h1 | h1
          · exact HN.out j h1 x hx
          · have : j = k := by omega
            subst this
            rw [hget] at hx
            cases hx
            exact hla
        clear hla hget
        go_wp2_with fail
        go_roundw
        case rel => exact ⟨k + 1, by omega, by go_num, HN2, by first | trivial | rfl⟩
        case measure => simp [intOf]; omega
    · have hlt' : ¬ ((k : Int) < (ls.length : Int)) := by omega
      have HE : Hid (holderP ls a = 0) := holder_none ls a (fun j x hx => HN.out j (by have := (List.getElem?_eq_some_iff.1 hx).1; omega) x hx)
      go_wp2_with fail
      go_ret
      exact ⟨congrArg (fun z => Ending.returned (Value.int .i64 z)) HE.out.symm, HB.out⟩

set_option maxRecDepth 100000 in
set_option maxHeartbeats 800000 in
theorem specFixedFor_any (pa pn : Int) (lv fv : Value) (ls : List Ls) (fs : List Fx) (a : Int) (hl : fs.length ≤ 100000000) (w : World) (h : PoolR w lv fv ls fs) :
    Calls Try.prog 45 #[.agg #[.int .i64 pa, .int .i64 pn, lv, fv], .int .i64 a] w fun e w' => e = .returned (.int .i64 (fixedP fs a)) ∧ Below w.heap.size w w' := by
  obtain ⟨la, lc, rfl⟩ := rows_form h.leases
  obtain ⟨fa, fc, rfl⟩ := rows_form h.fixes
  have A0 := Lib.hid (VarA.new w PoolT #[.int .i64 pa, .int .i64 pn, .slice la ls.length lc, .slice fa fs.length fc])
  have hB0 : Below w.heap.size w (w.alloc (.cells #[.int .i64 pa, .int .i64 pn, .slice la ls.length lc, .slice fa fs.length fc] PoolT)) := (Below.refl _ _).alloc (Nat.le_refl _) _
  have HB := Lib.hid hB0
  have HR := Lib.hid (h.next hB0)
  clear h hB0
  go_enter Try.func45, Try.ntmps45
  go_upto_region 1 with fail
  generalize w.alloc (.cells #[.int .i64 pa, .int .i64 pn, .slice la ls.length lc, .slice fa fs.length fc] PoolT) = X0 at *
  have c3 : X0.cell? ⟨w.heap.size, 3, none⟩ = some (.slice fa fs.length fc) := A0.out.cell 3
  go_wp2_with fail
  go_loopw [5] (fun c wr => ∃ k : Nat, k ≤ fs.length ∧ c = .int .i64 k ∧ Hid (∀ j, j < k → ∀ x, fs[j]? = some x → x.2 ≠ a) ∧ wr = X0) (fun c _ => fs.length - (intOf c).toNat)
  case atStart => exact ⟨0, Nat.zero_le _, rfl, fun j hj => absurd hj (by omega), by first | trivial | rfl⟩
  case round =>
    obtain ⟨k, hk, rfl, HN, rfl⟩ := hrel
    by_cases hlt : k < fs.length
    · have hlt' : (k : Int) < (fs.length : Int) := by omega
      have hget : fs[k]? = some fs[k] := List.getElem?_eq_getElem hlt
      obtain ⟨g, off, rfl, hg, d0, d1⟩ := fixed_cells HR.out.fixes k _ hget
      generalize fs[k] = l at hget d0 d1
      obtain ⟨l0, l1⟩ := l
      by_cases hla : l1 = a
      · have hbq : (l1 == a) = true := by rw [beq_iff_eq]; exact hla
        have HE : Hid (fixedP fs a = l0) := fixed_at fs a k (l0, l1) hget HN.out hla
        clear hla hget
        go_wp2_with fail
        go_ret
        exact ⟨congrArg (fun z => Ending.returned (Value.int .i64 z)) HE.out.symm, HB.out⟩
      · have hbq : (l1 == a) = false := by rw [beq_eq_false_iff_ne]; exact hla
        have HN2 : Hid (∀ j, j < k + 1 → ∀ x, fs[j]? = some x → x.2 ≠ a) := fun j hj x hx => by
          rcases Nat.lt_or_ge j k with h1 | h1
          · exact HN.out j h1 x hx
          · have : j = k := by omega
            subst this
            rw [hget] at hx
            cases hx
            exact hla
        clear hla hget
        go_wp2_with fail
        go_roundw
        case rel => exact ⟨k + 1, by omega, by go_num, HN2, by first | trivial | rfl⟩
        case measure => simp [intOf]; omega
    · have hlt' : ¬ ((k : Int) < (fs.length : Int)) := by omega
      have HE : Hid (fixedP fs a = 0) := fixed_none fs a (fun j x hx => HN.out j (by have := (List.getElem?_eq_some_iff.1 hx).1; omega) x hx)
      go_wp2_with fail
      go_ret
      exact ⟨congrArg (fun z => Ending.returned (Value.int .i64 z)) HE.out.symm, HB.out⟩

end Go.Proofs.Ytphmomlgmnllkaq
