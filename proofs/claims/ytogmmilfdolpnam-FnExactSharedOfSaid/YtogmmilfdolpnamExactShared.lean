/-
  PublicOf and SharedOf: both answer one value; the exact laws out of it.
-/
import Derived.Test.YtogmmilfdolpnamSharedImpl
namespace Go.Proofs.Ytogmmilfdolpnam
open Go.RowKit

set_option maxRecDepth 100000 in
set_option maxHeartbeats 400000 in
/-- The exact law on SharedOf, out of one answer that both give. -/
theorem lawSharedOfF (L : World → Prop) (stays : ∀ X Y, L X → Below X.heap.size X Y → L Y) (a b : Int) (x : Int) (o : Bool) (hI : (∀ X, L X → Calls Try.prog 7 #[.int .i64 a, .int .i64 b] X fun e X' => e = .returned (.tuple #[.int .i64 x, .bool o]) ∧ Below X.heap.size X X')) (hS : (∀ X, Calls Try.prog 6 #[.int .i64 a, .int .i64 b] X fun e X' => e = .returned (.tuple #[.int .i64 x, .bool o]) ∧ Below X.heap.size X X')) (w : World) (ht : L w) :
    Calls Try.prog 3 #[.int .i64 a, .int .i64 b] w fun e w' => e = .returned (.bool true) ∧ Below w.heap.size w w' := by
  have HI := Lib.hid hI
  have HS := Lib.hid hS
  have HT : Hid (∀ X, Below w.heap.size w X → L X) := fun X hX => stays w X ht hX
  clear hI hS ht stays
  go_enter Try.func3, Try.ntmps3
  go_wp2_with fail
  refine (HS.out _).mono ?_
  rintro e w1 ⟨rfl, hb1⟩
  have HB1 := Lib.hid hb1
  clear hb1
  go_wp2_with fail
  refine (HI.out _ (HT.out _ HB1.out)).mono ?_
  rintro e w2 ⟨rfl, hb2⟩
  have HB2 := Lib.hid (HB1.out.trans (hb2.mono HB1.out.size))
  clear hb2
  go_wp2
  go_ret
  exact ⟨rfl, HB2.out⟩

theorem shared_both (a b : Int) : ∃ (x : Int) (o : Bool),
    (∀ X, Calls Try.prog 7 #[.int .i64 a, .int .i64 b] X fun e X' => e = .returned (.tuple #[.int .i64 x, .bool o]) ∧ Below X.heap.size X X') ∧
    (∀ X, Calls Try.prog 6 #[.int .i64 a, .int .i64 b] X fun e X' => e = .returned (.tuple #[.int .i64 x, .bool o]) ∧ Below X.heap.size X X') := by
  by_cases h : inGroup b = false ∨ (a < 1 ∨ 1073741788 < a)
  · refine ⟨0, false, implShared_no a b h, fun X => (specShared_no a b h X).mono ?_⟩
    rintro e Y ⟨rfl, rfl⟩
    exact ⟨rfl, Below.refl _ _⟩
  · have hg : inGroup b = true := by
      cases hb : inGroup b
      · exact absurd (.inl hb) h
      · rfl
    have ha : ¬ (a < 1 ∨ 1073741788 < a) := fun h2 => h (.inr h2)
    have hr := inGroup_range b hg
    obtain ⟨n, rfl⟩ : ∃ n : Nat, a = (n : Int) := ⟨a.toNat, by omega⟩
    obtain ⟨p, rfl⟩ : ∃ n : Nat, b = (n : Int) := ⟨b.toNat, by omega⟩
    refine ⟨_, _, implShared_yes n p (by omega) (by omega) hg, fun X => (specShared_yes n p (by omega) (by omega) hg X).mono ?_⟩
    rintro e Y ⟨rfl, rfl⟩
    exact ⟨rfl, Below.refl _ _⟩

end Go.Proofs.Ytogmmilfdolpnam
