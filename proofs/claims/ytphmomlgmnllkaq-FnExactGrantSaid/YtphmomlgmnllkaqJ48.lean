/-
  The exact laws of chapter 11, out of the program's contracts.
-/
import Derived.Test.YtphmomlgmnllkaqJ41
import Derived.Test.YtphmomlgmnllkaqJ44
import Derived.Test.YtphmomlgmnllkaqJ45
import Derived.Test.YtphmomlgmnllkaqJ46
import Derived.Test.YtphmomlgmnllkaqJ47
namespace Go.Proofs.Ytphmomlgmnllkaq
open Go.RowKit

theorem poolOk_ans (pa pn : Int) (ls : List Ls) (fs : List Fx) : ∃ b : Bool, ∀ e : Ending, PoolTold pa pn ls fs e → e = .returned (.bool b) := by
  by_cases h : PoolOkP pa pn ls fs
  · refine ⟨true, fun e he => ?_⟩
    rcases he with ⟨_, h1⟩ | ⟨hn, _⟩
    · exact h1
    · exact absurd h hn
  · refine ⟨false, fun e he => ?_⟩
    rcases he with ⟨hy, _⟩ | ⟨_, h1⟩
    · exact absurd hy h
    · exact h1
theorem rel_ans (pa pn : Int) (ls : List Ls) (fs : List Fx) (who : Int) : ∃ rs b, RelTold pa pn ls fs who rs b ∧ rs.length ≤ ls.length := by
  by_cases h : PoolOkP pa pn ls fs ∧ (ls.filter fun l => l.2.1 != who).length ≠ ls.length
  · exact ⟨_, true, .inl ⟨rfl, h, rfl⟩, List.length_filter_le _ _⟩
  · exact ⟨ls, false, .inr ⟨rfl, rfl, h⟩, Nat.le_refl _⟩
theorem first_who (ls : List Ls) (who : Int) (h : ¬ NoOne ls who) : ∃ (k : Nat) (l : Ls), ls[k]? = some l ∧ l.2.1 = who ∧ ∀ j, j < k → ∀ x, ls[j]? = some x → x.2.1 ≠ who := by
  induction ls with
  | nil => exact absurd (fun j x hx => by simp at hx) h
  | cons y ls ih =>
    by_cases hy : y.2.1 = who
    · exact ⟨0, y, rfl, hy, fun j hj => absurd hj (by omega)⟩
    · obtain ⟨k, l, h1, h2, h3⟩ := ih (fun hn => h (fun j x hx => by
        cases j with
        | zero => simp at hx; rw [← hx]; exact hy
        | succ j => exact hn j x (by simpa using hx)))
      refine ⟨k + 1, l, h1, h2, fun j hj x hx => ?_⟩
      cases j with
      | zero => simp at hx; rw [← hx]; exact hy
      | succ j => exact h3 j (by omega) x (by simpa using hx)
theorem gr_ans (pa pn : Int) (ls : List Ls) (fs : List Fx) (who now : Int) : ∃ rs a b, GrTold pa pn ls fs who now rs a b ∧ rs.length ≤ ls.length + 1 := by
  by_cases h : GrOk pa pn ls fs who now
  · by_cases hn : NoOne ls who
    · by_cases hf : ls.length = 6 ∨ freeP pa pn ls fs who = 0
      · exact ⟨ls, 0, false, .inl ⟨rfl, rfl, rfl, .inr ⟨hn, hf⟩⟩, by omega⟩
      · refine ⟨_, _, true, .inr (.inr ⟨rfl, h, hn, fun e => hf (.inl e), fun e => hf (.inr e), rfl, rfl⟩), ?_⟩
        exact with_len (t := now + 20) (who := who)
    · obtain ⟨k, l, h1, h2, h3⟩ := first_who ls who hn
      exact ⟨_, _, true, .inr (.inl ⟨rfl, h, k, l, h1, h2, h3, rfl, rfl⟩), by rw [List.length_set]; omega⟩
  · exact ⟨ls, 0, false, .inl ⟨rfl, rfl, rfl, .inl h⟩, by omega⟩

set_option maxRecDepth 100000 in
set_option maxHeartbeats 800000 in
theorem lawHolderOf_big (pa pn : Int) (a b : Option Addr) (n m cp dp : Nat) (x : Int) (h : 1048576 < n + m) (hn : n ≤ 9223372036854775807) (hm : m ≤ 9223372036854775807) (w : World) :
    Calls Try.prog 5 #[.agg #[.int .i64 pa, .int .i64 pn, .slice a n cp, .slice b m dp], .int .i64 x] w fun e w' => e = .returned (.bool true) ∧ Below w.heap.size w w' := by
  have HSz := fun X => szPool_any pa pn a b n m cp dp hn hm X
  simp only [if_pos h] at HSz
  have H0 := Lib.hid HSz
  have HB := Lib.hid ((Below.refl w.heap.size w).alloc (Nat.le_refl _) (.cells #[.int .i64 pa, .int .i64 pn, .slice a n cp, .slice b m dp] LPoolT))
  clear HSz
  go_enter Try.func5, Try.ntmps5
  go_wp2_with fail
  refine (H0.out _).mono ?_
  rintro e w1 ⟨rfl, hb1⟩
  go_wp2_with fail
  go_ret
  exact ⟨rfl, HB.out.trans (hb1.mono HB.out.size)⟩
theorem lawHolderOf (pa pn : Int) (lv fv : Value) (ls : List Ls) (fs : List Fx) (h1 : ls.length ≤ maxLen) (h2 : fs.length ≤ maxLen) (x : Int) (w : World) (hs : PoolR w lv fv ls fs) :
    Calls Try.prog 5 #[.agg #[.int .i64 pa, .int .i64 pn, lv, fv], .int .i64 x] w fun e w2 => e = .returned (.bool true) ∧ Below w.heap.size w w2 := by
  by_cases hl : ls.length + fs.length ≤ 1048576
  · exact lawHolderOfF (fun _ => True) (fun _ _ _ _ => trivial) pa pn lv fv ls fs x _ hl (fun v u X _ hv => implHolderOf_any pa pn v u ls fs x (by omega) X hv) (fun v u X hv => specHolderOf_any pa pn v u ls fs x (by omega) X hv) w hs trivial
  · obtain ⟨a, cp, rfl⟩ := rows_form hs.leases
    obtain ⟨b, dp, rfl⟩ := rows_form hs.fixes
    unfold maxLen at h1 h2
    exact lawHolderOf_big pa pn a b ls.length fs.length cp dp x (by omega) (by omega) (by omega) w
set_option maxRecDepth 100000 in
set_option maxHeartbeats 800000 in
theorem lawRelease_big (pa pn : Int) (a b : Option Addr) (n m cp dp : Nat) (x : Int) (h : 1048576 < n + m) (hn : n ≤ 9223372036854775807) (hm : m ≤ 9223372036854775807) (w : World) :
    Calls Try.prog 4 #[.agg #[.int .i64 pa, .int .i64 pn, .slice a n cp, .slice b m dp], .int .i64 x] w fun e w' => e = .returned (.bool true) ∧ Below w.heap.size w w' := by
  have HSz := fun X => szPool_any pa pn a b n m cp dp hn hm X
  simp only [if_pos h] at HSz
  have H0 := Lib.hid HSz
  have HB := Lib.hid ((Below.refl w.heap.size w).alloc (Nat.le_refl _) (.cells #[.int .i64 pa, .int .i64 pn, .slice a n cp, .slice b m dp] LPoolT))
  clear HSz
  go_enter Try.func4, Try.ntmps4
  go_wp2_with fail
  refine (H0.out _).mono ?_
  rintro e w1 ⟨rfl, hb1⟩
  go_wp2_with fail
  go_ret
  exact ⟨rfl, HB.out.trans (hb1.mono HB.out.size)⟩
theorem lawRelease (pa pn : Int) (lv fv : Value) (ls : List Ls) (fs : List Fx) (h1 : ls.length ≤ maxLen) (h2 : fs.length ≤ maxLen) (x : Int) (w : World) (hs : PoolR w lv fv ls fs) :
    Calls Try.prog 4 #[.agg #[.int .i64 pa, .int .i64 pn, lv, fv], .int .i64 x] w fun e w2 => e = .returned (.bool true) ∧ Below w.heap.size w w2 := by
  by_cases hl : ls.length + fs.length ≤ 1048576
  · obtain ⟨rs, b, hrb, hrl⟩ := rel_ans pa pn ls fs x
    refine lawReleaseF (fun _ => True) (fun _ _ _ _ => trivial) pa pn lv fv ls fs x rs b hl (by omega) (fun v u X _ hv => ?_) (fun v u X hv => ?_) w hs trivial
    · refine (implRelease_any pa pn v u ls fs x (by omega) (by omega) X hv).mono ?_
      rintro e Y ⟨lu, fu, rs', b', rfl, ht, ho⟩
      obtain ⟨rfl, rfl⟩ := ht.one hrb
      exact ⟨lu, fu, rfl, ho⟩
    · refine (specRelease_any pa pn v u ls fs x (by omega) (by omega) X hv).mono ?_
      rintro e Y ⟨g, gc, k, kc, rs', b', rfl, ht, hol, hof, hb⟩
      obtain ⟨rfl, rfl⟩ := ht.one hrb
      exact ⟨_, _, rfl, ⟨_, hol⟩, ⟨_, hof⟩, hb⟩
  · obtain ⟨a, cp, rfl⟩ := rows_form hs.leases
    obtain ⟨b, dp, rfl⟩ := rows_form hs.fixes
    unfold maxLen at h1 h2
    exact lawRelease_big pa pn a b ls.length fs.length cp dp x (by omega) (by omega) (by omega) w
set_option maxRecDepth 100000 in
set_option maxHeartbeats 800000 in
theorem lawGrant_big (pa pn : Int) (a b : Option Addr) (n m cp dp : Nat) (x y : Int) (h : 1048576 < n + m) (hn : n ≤ 9223372036854775807) (hm : m ≤ 9223372036854775807) (w : World) :
    Calls Try.prog 3 #[.agg #[.int .i64 pa, .int .i64 pn, .slice a n cp, .slice b m dp], .int .i64 x, .int .i64 y] w fun e w' => e = .returned (.bool true) ∧ Below w.heap.size w w' := by
  have HSz := fun X => szPool_any pa pn a b n m cp dp hn hm X
  simp only [if_pos h] at HSz
  have H0 := Lib.hid HSz
  have HB := Lib.hid ((Below.refl w.heap.size w).alloc (Nat.le_refl _) (.cells #[.int .i64 pa, .int .i64 pn, .slice a n cp, .slice b m dp] LPoolT))
  clear HSz
  go_enter Try.func3, Try.ntmps3
  go_wp2_with fail
  refine (H0.out _).mono ?_
  rintro e w1 ⟨rfl, hb1⟩
  go_wp2_with fail
  go_ret
  exact ⟨rfl, HB.out.trans (hb1.mono HB.out.size)⟩
theorem lawGrant (pa pn : Int) (lv fv : Value) (ls : List Ls) (fs : List Fx) (h1 : ls.length ≤ maxLen) (h2 : fs.length ≤ maxLen) (x y : Int) (w : World) (hs : PoolR w lv fv ls fs) :
    Calls Try.prog 3 #[.agg #[.int .i64 pa, .int .i64 pn, lv, fv], .int .i64 x, .int .i64 y] w fun e w2 => e = .returned (.bool true) ∧ Below w.heap.size w w2 := by
  by_cases hl : ls.length + fs.length ≤ 1048576
  · obtain ⟨rs, z, b, hrb, hrl⟩ := gr_ans pa pn ls fs x y
    refine lawGrantF (fun _ => True) (fun _ _ _ _ => trivial) pa pn lv fv ls fs x y rs z b hl (by omega) (fun v u X _ hv => ?_) (fun v u X hv => ?_) w hs trivial
    · refine (implGrant_any pa pn v u ls fs x y (by omega) (by omega) X hv).mono ?_
      rintro e Y ⟨lu, fu, rs', z', b', rfl, ht, ho⟩
      obtain ⟨rfl, rfl, rfl⟩ := ht.one hrb
      exact ⟨lu, fu, rfl, ho⟩
    · refine (specGrant_any pa pn v u ls fs x y (by omega) (by omega) X hv).mono ?_
      rintro e Y ⟨g, gc, k, kc, rs', z', b', rfl, ht, hol, hof, hb⟩
      obtain ⟨rfl, rfl, rfl⟩ := ht.one hrb
      exact ⟨_, _, rfl, ⟨_, hol⟩, ⟨_, hof⟩, hb⟩
  · obtain ⟨a, cp, rfl⟩ := rows_form hs.leases
    obtain ⟨b, dp, rfl⟩ := rows_form hs.fixes
    unfold maxLen at h1 h2
    exact lawGrant_big pa pn a b ls.length fs.length cp dp x y (by omega) (by omega) (by omega) w
end Go.Proofs.Ytphmomlgmnllkaq
