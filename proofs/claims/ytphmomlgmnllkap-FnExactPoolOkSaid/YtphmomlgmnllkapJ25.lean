/-
  The program's addresses and prefixes as numbers: AddrOk, PrefixOf, InPrefix, PrefixOk.
-/
import Derived.Test.YtphmomlgmnllkapJ13
import Derived.Test.YtphmomlgmnllkapJ24
import Derived.Deep.RegionHeld3
import Derived.BigQuiet
import Derived.Deep.QuietTactic
namespace Go.Proofs.Ytphmomlgmnllkap
open Go.RowKit

theorem implAddrOk_yes (a : Int) (h0 : 0 ≤ a) (h1 : a ≤ 4294967295) (w : World) :
    Calls Try.prog 42 #[.int .i64 a] w fun e w' => e = .returned (.bool true) ∧ Below w.heap.size w w' := by
  go_enter Try.func42, Try.ntmps42
  go_wp2_with fail
  go_ret
  exact ⟨rfl, Below.refl _ _⟩
theorem implAddrOk_no (a : Int) (h : a < 0 ∨ 4294967295 < a) (w : World) :
    Calls Try.prog 42 #[.int .i64 a] w fun e w' => e = .returned (.bool false) ∧ Below w.heap.size w w' := by
  by_cases h0 : 0 ≤ a
  · have h1 : ¬ a ≤ 4294967295 := by omega
    clear h
    go_enter Try.func42, Try.ntmps42
    go_wp2_with fail
    go_ret
    exact ⟨rfl, Below.refl _ _⟩
  · clear h
    go_enter Try.func42, Try.ntmps42
    go_wp2_with fail
    go_ret
    exact ⟨rfl, Below.refl _ _⟩

/-- An address without its last bits, as two shifts. -/
theorem first_shifts (a n r : Nat) (ha : a ≤ 4294967295) (hn : n ≤ 32) (hr : r = 32 - n) : ∃ q : Nat, ((a : Nat) : Int) / 2 ^ min r 64 = (q : Int) ∧ IntKind.i64.wrap ((q : Int) * 2 ^ min r 64) = ((firstP a n : Nat) : Int) := by
  subst hr
  have hm : min (32 - n) 64 = 32 - n := by omega
  refine ⟨a / 2 ^ (32 - n), by rw [hm]; simp, ?_⟩
  have h := Nat.div_add_mod a (2 ^ (32 - n))
  have e : a / 2 ^ (32 - n) * 2 ^ (32 - n) = firstP a n := by
    unfold firstP sizeP
    rw [Nat.mul_comm]
    omega
  have hl := firstP_le a n
  have e2 : ((a / 2 ^ (32 - n) : Nat) : Int) * 2 ^ (32 - n) = ((a / 2 ^ (32 - n) * 2 ^ (32 - n) : Nat) : Int) := by simp
  rw [hm, e2, e, IntKind.wrap_i64]
  omega

set_option maxRecDepth 100000 in
set_option maxHeartbeats 800000 in
theorem implPrefixOf_yes (a n : Nat) (ha : a ≤ 4294967295) (hn : n ≤ 32) (w : World) :
    Calls Try.prog 75 #[.int .i64 a, .int .i64 n] w fun e w' => e = .returned (.tuple #[.agg #[.int .i64 (firstP a n : Nat), .int .i64 n], .bool true]) ∧ Below w.heap.size w w' := by
  have H1 := Lib.hid (implAddrOk_yes a (by omega) (by omega))
  obtain ⟨r, hr⟩ : ∃ r, r = 32 - n := ⟨_, rfl⟩
  obtain ⟨q, hq, hs⟩ := first_shifts a n r ha hn hr
  have hsub : IntKind.i64.wrap (32 - (n : Int)) = (r : Int) := by rw [IntKind.wrap_i64]; omega
  obtain ⟨f, F⟩ : ∃ f, Hid (f = firstP a n) := ⟨_, rfl⟩
  rw [← F.out] at hs ⊢
  have n0 : ¬ ((n : Int) < 0) := by omega
  have n1 : ¬ ((32 : Int) < (n : Int)) := by omega
  have P0 := Lib.hid (PV.new w PT (.int .i64 0) (.int .i64 0))
  have p0 := P0.out.v.c0
  have p1 := P0.out.v.c1
  have f0 := P0.out.v.free 0
  have f1 := P0.out.v.free 1
  clear hr
  go_enter Try.func75, Try.ntmps75
  go_wp2_with fail
  refine (H1.out _).mono ?_
  rintro e w1 ⟨rfl, hb1⟩
  have P1 := P0.out.next hb1
  have i0 := P1.v.c0
  have i1 := P1.v.c1
  have j0 := P1.v.free 0
  have j1 := P1.v.free 1
  have PS := P1.set2 (.int .i64 f) (.int .i64 n)
  have k0 := PS.v.c0
  have k1 := PS.v.c1
  have HB := Lib.hid PS.below
  clear hb1 P1 PS
  go_wp2_with fail
  refine bodyPost_ret (v := .tuple #[.agg #[.int .i64 f, .int .i64 n], .bool true]) (by simp [results, Try.results75, go_sem, k0, k1]) rfl ⟨rfl, HB.out⟩

set_option maxRecDepth 100000 in
set_option maxHeartbeats 800000 in
theorem implPrefixOf_no (a n : Int) (h : (a < 0 ∨ 4294967295 < a) ∨ (n < 0 ∨ 32 < n)) (w : World) :
    Calls Try.prog 75 #[.int .i64 a, .int .i64 n] w fun e w' => e = .returned (.tuple #[.agg #[.int .i64 0, .int .i64 0], .bool false]) ∧ Below w.heap.size w w' := by
  have P0 := Lib.hid (PV.new w PT (.int .i64 0) (.int .i64 0))
  have main : ∀ b : Bool, (b = true → n < 0 ∨ 32 < n) → (∀ X, Calls Try.prog 42 #[.int .i64 a] X fun e X' => e = .returned (.bool b) ∧ Below X.heap.size X X') →
      Calls Try.prog 75 #[.int .i64 a, .int .i64 n] w fun e w' => e = .returned (.tuple #[.agg #[.int .i64 0, .int .i64 0], .bool false]) ∧ Below w.heap.size w w' := by
    intro b hb H
    have H1 := Lib.hid H
    clear H h
    cases b with
    | false =>
      clear hb
      go_enter Try.func75, Try.ntmps75
      go_wp2_with fail
      refine (H1.out _).mono ?_
      rintro e w1 ⟨rfl, hb1⟩
      have P1 := P0.out.next hb1
      have i0 := P1.v.c0
      have i1 := P1.v.c1
      have j0 := P1.v.free 0
      have j1 := P1.v.free 1
      have PS := P1.set2 (.int .i64 0) (.int .i64 0)
      have k0 := PS.v.c0
      have k1 := PS.v.c1
      have HB := Lib.hid PS.below
      clear hb1 P1 PS
      go_wp2_with fail
      exact bodyPost_ret (v := .tuple #[.agg #[.int .i64 0, .int .i64 0], .bool false]) (by simp [results, Try.results75, go_sem, k0, k1]) rfl ⟨rfl, HB.out⟩
    | true =>
      by_cases hn : n < 0
      · clear hb
        go_enter Try.func75, Try.ntmps75
        go_wp2_with fail
        refine (H1.out _).mono ?_
        rintro e w1 ⟨rfl, hb1⟩
        have P1 := P0.out.next hb1
        have i0 := P1.v.c0
        have i1 := P1.v.c1
        have j0 := P1.v.free 0
        have j1 := P1.v.free 1
        have PS := P1.set2 (.int .i64 0) (.int .i64 0)
        have k0 := PS.v.c0
        have k1 := PS.v.c1
        have HB := Lib.hid PS.below
        clear hb1 P1 PS
        go_wp2_with fail
        exact bodyPost_ret (v := .tuple #[.agg #[.int .i64 0, .int .i64 0], .bool false]) (by simp [results, Try.results75, go_sem, k0, k1]) rfl ⟨rfl, HB.out⟩
      · have hn2 : 32 < n := by rcases hb rfl with h | h <;> omega
        clear hb
        go_enter Try.func75, Try.ntmps75
        go_wp2_with fail
        refine (H1.out _).mono ?_
        rintro e w1 ⟨rfl, hb1⟩
        have P1 := P0.out.next hb1
        have i0 := P1.v.c0
        have i1 := P1.v.c1
        have j0 := P1.v.free 0
        have j1 := P1.v.free 1
        have PS := P1.set2 (.int .i64 0) (.int .i64 0)
        have k0 := PS.v.c0
        have k1 := PS.v.c1
        have HB := Lib.hid PS.below
        clear hb1 P1 PS
        go_wp2_with fail
        exact bodyPost_ret (v := .tuple #[.agg #[.int .i64 0, .int .i64 0], .bool false]) (by simp [results, Try.results75, go_sem, k0, k1]) rfl ⟨rfl, HB.out⟩
  by_cases h1 : a < 0 ∨ 4294967295 < a
  · exact main false (by simp) (implAddrOk_no a h1)
  · exact main true (fun _ => by omega) (implAddrOk_yes a (by omega) (by omega))

/-- What PrefixOf answers, as one. -/
theorem implPrefixOf_any (a n : Int) : ∃ (x y : Int) (b : Bool), (∀ X, Calls Try.prog 75 #[.int .i64 a, .int .i64 n] X fun e X' => e = .returned (.tuple #[.agg #[.int .i64 x, .int .i64 y], .bool b]) ∧ Below X.heap.size X X') ∧
    (b = true → (0 ≤ a ∧ a ≤ 4294967295) ∧ (0 ≤ n ∧ n ≤ 32) ∧ x = (firstP a.toNat n.toNat : Nat) ∧ y = n) ∧ (b = false → (a < 0 ∨ 4294967295 < a) ∨ (n < 0 ∨ 32 < n)) := by
  by_cases h : (a < 0 ∨ 4294967295 < a) ∨ (n < 0 ∨ 32 < n)
  · exact ⟨0, 0, false, implPrefixOf_no a n h, by simp, fun _ => h⟩
  · obtain ⟨m, rfl⟩ : ∃ m : Nat, a = (m : Int) := ⟨a.toNat, by omega⟩
    obtain ⟨k, rfl⟩ : ∃ k : Nat, n = (k : Int) := ⟨n.toNat, by omega⟩
    exact ⟨(firstP m k : Nat), k, true, implPrefixOf_yes m k (by omega) (by omega), fun _ => ⟨⟨by omega, by omega⟩, ⟨by omega, by omega⟩, rfl, rfl⟩, by simp⟩

set_option maxRecDepth 100000 in
set_option maxHeartbeats 800000 in
theorem implInPrefix_any (a n x : Int) (b : Bool) (hb : b = true ↔ InPref a n x) (w : World) :
    Calls Try.prog 59 #[.agg #[.int .i64 a, .int .i64 n], .int .i64 x] w fun e w' => e = .returned (.bool b) ∧ Below w.heap.size w w' := by
  obtain ⟨u, v, c, H, hy, hn⟩ := implPrefixOf_any x n
  have hc : b = (c && (u == a && v == n)) := by
    rw [Bool.eq_iff_iff, hb]
    unfold InPref PrefOk
    cases c with
    | false =>
      have := hn rfl
      simp
      intro h1 h2 h3 h4 h5 h6 h7
      omega
    | true =>
      obtain ⟨h1, h2, h3, h4⟩ := hy rfl
      simp only [Bool.true_and, Bool.and_eq_true, beq_iff_eq]
      constructor
      · rintro ⟨_, _, h⟩
        exact ⟨by rw [h3, h], h4⟩
      · rintro ⟨e1, e2⟩
        have hf := firstP_mod x.toNat n.toNat
        have hl := firstP_le x.toNat n.toNat
        have e3 : a.toNat = firstP x.toNat n.toNat := by omega
        exact ⟨⟨⟨by omega, by omega⟩, h2, by rw [e3, hf]⟩, h1, by omega⟩
  subst hc
  clear hb hy hn
  have H1 := Lib.hid H
  clear H
  have P0 := Lib.hid (PV.new w PT (.int .i64 a) (.int .i64 n))
  have p0 := P0.out.v.c0
  have p1 := P0.out.v.c1
  have EQ := fun (X : World) => pref_eq u v a n X
  go_enter Try.func59, Try.ntmps59
  go_wp2_with fail
  refine (H1.out _).mono ?_
  rintro e w1 ⟨rfl, hb1⟩
  have P1 := P0.out.next hb1
  have i0 := P1.v.c0
  have i1 := P1.v.c1
  have Q0 := PV.new w1 PT (.int .i64 u) (.int .i64 v)
  have q0 := Q0.v.c0
  have q1 := Q0.v.c1
  have P2 := P1.next Q0.below
  have r0 := P2.v.c0
  have r1 := P2.v.c1
  have HB := Lib.hid P2.below
  clear hb1 P1 P2 Q0
  cases c with
  | false =>
    go_wp2_with fail
    go_ret
    exact ⟨rfl, HB.out⟩
  | true =>
    go_wp2_with fail
    go_ret
    exact ⟨by simp, HB.out⟩
theorem implInPrefix_yes (a n x : Int) (h : InPref a n x) (w : World) :
    Calls Try.prog 59 #[.agg #[.int .i64 a, .int .i64 n], .int .i64 x] w fun e w' => e = .returned (.bool true) ∧ Below w.heap.size w w' := implInPrefix_any a n x true (by simp [h]) w
theorem implInPrefix_no (a n x : Int) (h : ¬ InPref a n x) (w : World) :
    Calls Try.prog 59 #[.agg #[.int .i64 a, .int .i64 n], .int .i64 x] w fun e w' => e = .returned (.bool false) ∧ Below w.heap.size w w' := implInPrefix_any a n x false (by simp [h]) w
/-- A prefix has its own first address just if it is right. -/
theorem inPref_own (a n : Int) : InPref a n a ↔ PrefOk a n := by
  unfold InPref
  constructor
  · exact fun h => h.1
  · intro h
    refine ⟨h, h.1, ?_⟩
    have h2 := h.2.2
    have h1 := h.1
    unfold firstP
    omega

set_option maxRecDepth 100000 in
set_option maxHeartbeats 800000 in
theorem implPrefixOk_any (a n : Int) (b : Bool) (hb : b = true ↔ PrefOk a n) (w : World) :
    Calls Try.prog 36 #[.agg #[.int .i64 a, .int .i64 n]] w fun e w' => e = .returned (.bool b) ∧ Below w.heap.size w w' := by
  have H1 := Lib.hid (implInPrefix_any a n a b (hb.trans (inPref_own a n).symm))
  clear hb
  have P0 := Lib.hid (PV.new w PT (.int .i64 a) (.int .i64 n))
  have p0 := P0.out.v.c0
  have p1 := P0.out.v.c1
  go_enter Try.func36, Try.ntmps36
  go_wp2_with fail
  refine (H1.out _).mono ?_
  rintro e w1 ⟨rfl, hb1⟩
  have HB := Lib.hid (P0.out.next hb1).below
  clear hb1
  go_wp2_with fail
  go_ret
  exact ⟨rfl, HB.out⟩
theorem implPrefixOk_yes (a n : Int) (h : PrefOk a n) (w : World) :
    Calls Try.prog 36 #[.agg #[.int .i64 a, .int .i64 n]] w fun e w' => e = .returned (.bool true) ∧ Below w.heap.size w w' := implPrefixOk_any a n true (by simp [h]) w
theorem implPrefixOk_no (a n : Int) (h : ¬ PrefOk a n) (w : World) :
    Calls Try.prog 36 #[.agg #[.int .i64 a, .int .i64 n]] w fun e w' => e = .returned (.bool false) ∧ Below w.heap.size w w' := implPrefixOk_any a n false (by simp [h]) w

end Go.Proofs.Ytphmomlgmnllkap
