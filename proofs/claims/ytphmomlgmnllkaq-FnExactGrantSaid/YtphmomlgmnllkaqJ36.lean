/-
  Whether somebody has a lease among the first ones: slices.ContainsFunc with the program's closure.
-/
import Derived.Test.YtphmomlgmnllkaqJ34
namespace Go.Proofs.Ytphmomlgmnllkaq
open Go.RowKit

theorem sameWho_any (x0 x1 x2 : Int) (q : Nat) (who : Int) (w : World) (hq : w.cell? ⟨q, 1, none⟩ = some (.int .i64 who)) :
    Calls Try.prog 64 #[.agg #[.int .i64 x0, .int .i64 x1, .int .i64 x2], .pointer (some ⟨q, 0, none⟩)] w fun e w' => e = .returned (.bool (x1 == who)) ∧ Below w.heap.size w w' := by
  have A0 := Lib.hid (VarA.new w LeaseT #[.int .i64 x0, .int .i64 x1, .int .i64 x2])
  have B0 := Lib.hid ((Below.refl w.heap.size w).alloc (Nat.le_refl _) (.cells #[.int .i64 x0, .int .i64 x1, .int .i64 x2] LeaseT))
  have hq2 := (B0.out.cell (p := ⟨q, 1, none⟩) (cell_size hq)).trans hq
  go_enter Try.func64, Try.ntmps64
  go_upto_region 1 with fail
  generalize w.alloc (.cells #[.int .i64 x0, .int .i64 x1, .int .i64 x2] LeaseT) = X0 at *
  have c1 : X0.cell? ⟨w.heap.size, 1, none⟩ = some (.int .i64 x1) := A0.out.cell 1
  go_wp2_with fail
  go_ret
  exact ⟨rfl, B0.out⟩

/-- Whether one of the first k has a lease. -/
def HasWho (ls : List Ls) (k : Nat) (who : Int) : Prop := ∃ j x, j < k ∧ ls[j]? = some x ∧ x.2.1 = who
def IndexEnd (ls : List Ls) (k : Nat) (who : Int) (w : World) (e : Ending) (w' : World) : Prop := ((HasWho ls k who ∧ ∃ j : Nat, e = .returned (.int .i64 j)) ∨ (¬ HasWho ls k who ∧ e = .returned (.int .i64 (-1)))) ∧ Below w.heap.size w w'

set_option maxRecDepth 100000 in
set_option maxHeartbeats 800000 in
theorem indexWho_any (la : Option Addr) (n lc lc2 : Nat) (ls : List Ls) (k : Nat) (hk : k ≤ ls.length) (hl : ls.length ≤ 2000000) (q : Nat) (who : Int) (w : World) (h : layLeaseS.rd w [.slice la n lc] ls) (hq : w.cell? ⟨q, 1, none⟩ = some (.int .i64 who)) :
    Calls Try.prog 68 #[.slice la k lc2, .func (.func 64) #[] #[.pointer (some ⟨q, 0, none⟩)]] w (IndexEnd ls k who w) := by
  have HR := Lib.hid h
  have HQ := Lib.hid hq
  have HSW := Lib.hid sameWho_any
  clear h hq
  go_enter Try.func68, Try.ntmps68
  go_wp2_with fail
  go_loopw [8] (fun c wr => ∃ m : Nat, m ≤ k ∧ c = .int .i64 m ∧ Hid (∀ j, j < m → ∀ x, ls[j]? = some x → x.2.1 ≠ who) ∧ Below w.heap.size w wr) (fun c _ => k - (intOf c).toNat)
  case atStart => exact ⟨0, Nat.zero_le _, rfl, fun j hj => absurd hj (by omega), Below.refl _ _⟩
  case round =>
    obtain ⟨m, hm, rfl, HN, hB⟩ := hrel
    have HB := Lib.hid hB
    clear hB
    by_cases hlt : m < k
    · have hlt' : (m : Int) < (k : Int) := by omega
      have hget : ls[m]? = some (ls[m]'(by omega)) := List.getElem?_eq_getElem (by omega)
      obtain ⟨g, off, rfl, hg, d0, d1, d2⟩ := lease_cells (layLeaseS.below HR.out HB.out) m _ hget
      generalize (ls[m]'(by omega)) = l at hget d0 d1 d2
      obtain ⟨l0, l1, l2⟩ := l
      have HC := Lib.hid (HSW.out l0 l1 l2 q who wr ((HB.out.cell (p := ⟨q, 1, none⟩) (cell_size HQ.out)).trans HQ.out))
      by_cases hla : l1 = who
      · have hbq : (l1 == who) = true := by rw [beq_iff_eq]; exact hla
        have HE : Hid (HasWho ls k who) := ⟨m, _, hlt, hget, hla⟩
        rw [hbq] at HC
        clear hla hget hbq
        go_wp2_with fail
        refine HC.out.mono ?_
        rintro e w1 ⟨rfl, hb1⟩
        have HB1 := Lib.hid (HB.out.trans (hb1.mono HB.out.size))
        clear hb1 HC
        go_wp2_with fail
        go_ret
        exact ⟨.inl ⟨HE.out, m, rfl⟩, HB1.out⟩
      · have hbq : (l1 == who) = false := by rw [beq_eq_false_iff_ne]; exact hla
        have HN2 : Hid (∀ j, j < m + 1 → ∀ x, ls[j]? = some x → x.2.1 ≠ who) := fun j hj x hx => by
          rcases Nat.lt_or_ge j m with h1 | h1
          · exact HN.out j h1 x hx
          · have : j = m := by omega
            subst this
            rw [hget] at hx
            cases hx
            exact hla
        rw [hbq] at HC
        clear hla hget hbq
        go_wp2_with fail
        refine HC.out.mono ?_
        rintro e w1 ⟨rfl, hb1⟩
        have HB1 := Lib.hid (HB.out.trans (hb1.mono HB.out.size))
        clear hb1 HC
        go_wp2_with fail
        go_roundw
        case rel => exact ⟨m + 1, by omega, by go_num, HN2, HB1.out⟩
        case measure => simp [intOf]; omega
    · have hlt' : ¬ ((m : Int) < (k : Int)) := by omega
      have HE : Hid (¬ HasWho ls k who) := by
        rintro ⟨j, x, hj, hx, hw⟩
        exact HN.out j (by omega) x hx hw
      go_wp2_with fail
      go_ret
      exact ⟨.inr ⟨HE.out, rfl⟩, HB.out⟩

theorem containsWho_any (la : Option Addr) (n lc lc2 : Nat) (ls : List Ls) (k : Nat) (hk : k ≤ ls.length) (hl : ls.length ≤ 2000000) (q : Nat) (who : Int) (w : World) (h : layLeaseS.rd w [.slice la n lc] ls) (hq : w.cell? ⟨q, 1, none⟩ = some (.int .i64 who)) (b : Bool) (hb : b = true ↔ HasWho ls k who) :
    Calls Try.prog 63 #[.slice la k lc2, .func (.func 64) #[] #[.pointer (some ⟨q, 0, none⟩)]] w fun e w' => e = .returned (.bool b) ∧ Below w.heap.size w w' := by
  have HI := Lib.hid (indexWho_any la n lc lc2 ls k hk hl q who w h hq)
  clear h hq
  go_enter Try.func63, Try.ntmps63
  go_wp2_with fail
  refine HI.out.mono ?_
  rintro e w1 ⟨hE, hb1⟩
  have HB1 := Lib.hid hb1
  clear hb1 HI
  rcases hE with ⟨h1, j, rfl⟩ | ⟨h1, rfl⟩
  · obtain rfl : b = true := hb.2 h1
    have hj : (0 : Int) ≤ (j : Int) := by omega
    clear h1 hb
    go_wp2_with fail
    go_ret
    exact ⟨rfl, HB1.out⟩
  · obtain rfl : b = false := Bool.eq_false_iff.2 fun e => h1 (hb.1 e)
    clear h1 hb
    go_wp2_with fail
    go_ret
    exact ⟨rfl, HB1.out⟩

end Go.Proofs.Ytphmomlgmnllkaq
