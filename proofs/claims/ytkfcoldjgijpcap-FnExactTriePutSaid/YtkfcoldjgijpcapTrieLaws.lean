/-
  The exact laws of chapter 10, out of the program's contracts.
-/
import Derived.Test.YtkfcoldjgijpcapTrieImpl
import Derived.Test.YtkfcoldjgijpcapExactTriePut
import Derived.Test.YtkfcoldjgijpcapTrieOfSpec
import Derived.Test.YtkfcoldjgijpcapTrieFindSpec
import Derived.Test.YtkfcoldjgijpcapTrieArg
namespace Go.Proofs.Ytkfcoldjgijpcap
open Go.RowKit

theorem lawTrieNew (w : World) : Calls Try.prog 3 #[] w fun e w' => e = .returned (.bool true) ∧ Below w.heap.size w w' :=
  lawTrieNewF (fun _ => True) (fun _ _ _ _ => trivial) [tw0] (by decide) (fun X _ => implTrieNew_any X) specTrieNew_any w trivial

/-- One answer to routes, right or not. -/
theorem trieOf_ans (xs : List Rt) : ∃ r : List TwigD, r.length ≤ 10000000 ∧ ∀ r' : List TwigD, ((RoutesP xs ∧ r' = trieOfP xs) ∨ (¬ RoutesP xs ∧ r' = [tw0])) → r' = r := by
  by_cases h : RoutesP xs
  · obtain ⟨hok, _, hl⟩ := (routesP_iff xs).1 h
    refine ⟨trieOfP xs, by have := (trieOf_right xs hok).2; omega, fun r' hr => ?_⟩
    rcases hr with ⟨_, e⟩ | ⟨hn, _⟩
    · exact e
    · exact absurd h hn
  · refine ⟨[tw0], by decide, fun r' hr => ?_⟩
    rcases hr with ⟨hy, _⟩ | ⟨_, e⟩
    · exact absurd hy h
    · exact e
set_option maxRecDepth 100000 in
set_option maxHeartbeats 800000 in
theorem lawTrieOk_big (a : Option Addr) (n cp : Nat) (h : 1048576 < n) (hn : n ≤ 9223372036854775807) (w : World) :
    Calls Try.prog 4 #[.agg #[.slice a n cp]] w fun e w' => e = .returned (.bool true) ∧ Below w.heap.size w w' := by
  have HSz := fun X => szTrie_any a n cp hn X
  simp only [if_pos h] at HSz
  have H0 := Lib.hid HSz
  have HB := Lib.hid ((Below.refl w.heap.size w).alloc (Nat.le_refl _) (.cells #[.slice a n cp] LTrie))
  clear HSz
  go_enter Try.func4, Try.ntmps4
  go_wp2_with fail
  refine (H0.out _).mono ?_
  rintro e w1 ⟨rfl, hb1⟩
  go_wp2_with fail
  go_ret
  exact ⟨rfl, HB.out.trans (hb1.mono HB.out.size)⟩
set_option maxRecDepth 100000 in
set_option maxHeartbeats 800000 in
theorem lawTrieFind_big (a : Option Addr) (n cp : Nat) (x : Int) (h : 1048576 < n) (hn : n ≤ 9223372036854775807) (w : World) :
    Calls Try.prog 6 #[.agg #[.slice a n cp], .int .i64 x] w fun e w' => e = .returned (.bool true) ∧ Below w.heap.size w w' := by
  have HSz := fun X => szTrie_any a n cp hn X
  simp only [if_pos h] at HSz
  have H0 := Lib.hid HSz
  have HB := Lib.hid ((Below.refl w.heap.size w).alloc (Nat.le_refl _) (.cells #[.slice a n cp] LTrie))
  clear HSz
  go_enter Try.func6, Try.ntmps6
  go_wp2_with fail
  refine (H0.out _).mono ?_
  rintro e w1 ⟨rfl, hb1⟩
  go_wp2_with fail
  go_ret
  exact ⟨rfl, HB.out.trans (hb1.mono HB.out.size)⟩

theorem trieOk_ans (t : List TwigD) : ∃ b : Bool, ∀ e : Ending, TrieTold t e → e = .returned (.bool b) := by
  by_cases h : TrieOkP t
  · refine ⟨true, fun e he => ?_⟩
    rcases he with ⟨_, h1⟩ | ⟨hn, _⟩
    · exact h1
    · exact absurd h hn
  · refine ⟨false, fun e he => ?_⟩
    rcases he with ⟨hy, _⟩ | ⟨_, h1⟩
    · exact absurd hy h
    · exact h1
theorem lawTrieOk (u : Value) (xs : List TwigD) (hlen : xs.length ≤ maxLen) (w : World) (hs : layTwigS.rd w [u] xs) :
    Calls Try.prog 4 #[.agg #[u]] w fun e w2 => e = .returned (.bool true) ∧ Below w.heap.size w w2 := by
  by_cases hl : xs.length ≤ 1048576
  · obtain ⟨b, hans⟩ := trieOk_ans xs
    refine lawTrieOkF (fun _ => True) (fun _ _ _ _ => trivial) u xs b hl (fun v X _ hv => ?_) (fun v X hv => ?_) w hs trivial
    · refine (implTrieOk_any v xs X hv (by omega)).mono ?_
      rintro e Y ⟨he, hb⟩
      exact ⟨hans e he, hb⟩
    · refine (specTrieOk_any v xs X hv (by omega)).mono ?_
      rintro e Y ⟨he, hb⟩
      exact ⟨hans e he, hb⟩
  · obtain ⟨a, cp, rfl⟩ := rows_form hs
    exact lawTrieOk_big a xs.length cp (by omega) (by unfold maxLen at hlen; omega) w
theorem lawTrieFind (u : Value) (xs : List TwigD) (hlen : xs.length ≤ maxLen) (x : Int) (hwx : (Lit.int .i64 x).wf = true) (w : World) (hs : layTwigS.rd w [u] xs) :
    Calls Try.prog 6 #[.agg #[u], .int .i64 x] w fun e w2 => e = .returned (.bool true) ∧ Below w.heap.size w w2 := by
  by_cases hl : xs.length ≤ 1048576
  · by_cases h : TrieOkP xs ∧ 0 ≤ x ∧ x ≤ 4294967295
    · obtain ⟨m, rfl⟩ : ∃ m : Nat, x = m := ⟨x.toNat, by omega⟩
      exact lawTrieFindF (fun _ => True) (fun _ _ _ _ => trivial) u xs m _ hl (fun v X _ hv => implTrieFind_yes v xs m X hv h.1 (by omega)) (fun v X hv => specTrieFind_yes v xs m X hv h.1 (by omega)) w hs trivial
    · have hn : ¬ TrieOkP xs ∨ (x < 0 ∨ 4294967295 < x) := by
        by_cases h1 : TrieOkP xs
        · right
          have h2 : ¬ (0 ≤ x ∧ x ≤ 4294967295) := fun h2 => h ⟨h1, h2⟩
          omega
        · exact Or.inl h1
      exact lawTrieFindF (fun _ => True) (fun _ _ _ _ => trivial) u xs x _ hl (fun v X _ hv => implTrieFind_no v xs x hwx X hv (by omega) hn) (fun v X hv => specTrieFind_no v xs x X hv (by omega) hn) w hs trivial
  · obtain ⟨a, cp, rfl⟩ := rows_form hs
    exact lawTrieFind_big a xs.length cp x (by omega) (by unfold maxLen at hlen; omega) w
theorem put_ans (t : List Tw) (a n p : Int) : ∃ r b, PutTold t a n p r b := by
  by_cases h : (TrieOkP t ∧ PrefOk a n ∧ (0 ≤ p ∧ p ≤ 99)) ∧ (putT t (bitsP a.toNat n.toNat) p).length ≤ 400
  · exact ⟨_, true, .inl ⟨rfl, h.1, h.2, rfl⟩⟩
  · exact ⟨t, false, .inr ⟨rfl, rfl, h⟩⟩
theorem lawTriePut (u : Value) (xs : List TwigD) (hlen : xs.length ≤ maxLen) (pa pn p : Int) (hwa : (Lit.int .i64 pa).wf = true) (hwn : (Lit.int .i64 pn).wf = true) (hwp : (Lit.int .i64 p).wf = true) (w : World) (hs : layTwigS.rd w [u] xs) :
    Calls Try.prog 5 #[.agg #[u], .agg #[.int .i64 pa, .int .i64 pn], .int .i64 p] w fun e w2 => e = .returned (.bool true) ∧ Below w.heap.size w w2 := by
  by_cases hl : xs.length ≤ 1048576
  · obtain ⟨r, b, hrb⟩ := put_ans xs pa pn p
    have hr : r.length ≤ 10000000 := by
      rcases hrb with ⟨_, _, h, rfl⟩ | ⟨_, rfl, _⟩
      · omega
      · omega
    refine lawTriePutF (fun _ => True) (fun _ _ _ _ => trivial) u xs pa pn p r b hl hr (fun v X _ hv => ?_) (fun v X hv => ?_) w hs trivial
    · refine (implTriePut_any v xs pa pn p hwa hwn hwp X hv (by omega)).mono ?_
      rintro e Y ⟨v', fp, r', b', rfl, hpt, hd, ho, hb⟩
      obtain ⟨rfl, rfl⟩ := hpt.one hrb
      exact ⟨v', fp, rfl, hd, ho, hb⟩
    · refine (specTriePut_any v xs pa pn p X hv (by omega)).mono ?_
      rintro e Y ⟨v', fp, r', b', rfl, hpt, hd, ho, hb⟩
      obtain ⟨rfl, rfl⟩ := hpt.one hrb
      exact ⟨v', fp, rfl, hd, ho, hb⟩
  · obtain ⟨a, cp, rfl⟩ := rows_form hs
    exact lawTriePut_big a xs.length cp pa pn p (by omega) (by unfold maxLen at hlen; omega) w

end Go.Proofs.Ytkfcoldjgijpcap
