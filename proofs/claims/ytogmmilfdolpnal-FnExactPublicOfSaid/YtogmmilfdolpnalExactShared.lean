/-
  PublicOf and SharedOf: both answer one value; the exact laws out of it.
-/
import Derived.Test.YtogmmilfdolpnalSharedImpl
namespace Go.Proofs.Ytogmmilfdolpnal
open Go.RowKit

set_option maxRecDepth 100000 in
set_option maxHeartbeats 400000 in
/-- The exact law on PublicOf, out of one answer that both give. -/
theorem lawPublicOfF (L : World → Prop) (stays : ∀ X Y, L X → Below X.heap.size X Y → L Y) (a : Int) (x : Int) (hI : (∀ X, L X → Calls Try.prog 5 #[.int .i64 a] X fun e X' => e = .returned (.int .i64 x) ∧ Below X.heap.size X X')) (hS : (∀ X, Calls Try.prog 4 #[.int .i64 a] X fun e X' => e = .returned (.int .i64 x) ∧ Below X.heap.size X X')) (w : World) (ht : L w) :
    Calls Try.prog 3 #[.int .i64 a] w fun e w' => e = .returned (.bool true) ∧ Below w.heap.size w w' := by
  have HI := Lib.hid hI
  have HS := Lib.hid hS
  have HT : Hid (∀ X, Below w.heap.size w X → L X) := fun X hX => stays w X ht hX
  clear hI hS ht stays
  go_enter Try.func3, Try.ntmps3
  go_wp2_with fail
  refine (HS.out _).mono ?_
  rintro e w1 ⟨rfl, hb1⟩
  have HB1 := Lib.hid hb1
  clear hb1
  go_wp2_with fail
  refine (HI.out _ (HT.out _ HB1.out)).mono ?_
  rintro e w2 ⟨rfl, hb2⟩
  have HB2 := Lib.hid (HB1.out.trans (hb2.mono HB1.out.size))
  clear hb2
  go_wp2
  go_ret
  exact ⟨rfl, HB2.out⟩

theorem public_both (a : Int) : ∃ x : Int,
    (∀ X, Calls Try.prog 5 #[.int .i64 a] X fun e X' => e = .returned (.int .i64 x) ∧ Below X.heap.size X X') ∧
    (∀ X, Calls Try.prog 4 #[.int .i64 a] X fun e X' => e = .returned (.int .i64 x) ∧ Below X.heap.size X X') := by
  by_cases h : a < 1 ∨ 1073741788 < a
  · refine ⟨0, implPublicOf_no a h, fun X => (specPublicOf_no a h X).mono ?_⟩
    rintro e Y ⟨rfl, rfl⟩
    exact ⟨rfl, Below.refl _ _⟩
  · obtain ⟨n, rfl⟩ : ∃ n : Nat, a = (n : Int) := ⟨a.toNat, by omega⟩
    refine ⟨_, implPublicOf_yes n (by omega) (by omega), fun X => (specPublicOf_yes n (by omega) (by omega) X).mono ?_⟩
    rintro e Y ⟨rfl, rfl⟩
    exact ⟨rfl, Below.refl _ _⟩
end Go.Proofs.Ytogmmilfdolpnal
