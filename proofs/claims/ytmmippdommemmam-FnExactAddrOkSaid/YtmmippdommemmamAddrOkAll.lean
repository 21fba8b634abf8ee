/-
  AddrOk alone: the given one, the program's, and the exact law out of both.
-/
import Derived.Test.YtmmippdommemmamRows
import Derived.Test.YtmmippdommemmamKit
import Derived.Test.YtmmippdommemmamInRange
namespace Go.Proofs.Ytmmippdommemmam
open Go.RowKit

theorem specAddrOk_yes (a : Int) (h0 : 0 ≤ a) (h1 : a ≤ 4294967295) (w : World) :
    Calls Try.prog 15 #[.int .i64 a] w fun e w' => e = .returned (.bool true) ∧ w' = w := by
  have H := Lib.hid (inRange_yes a 0 4294967295 h0 h1)
  clear h0 h1
  go_enter Try.func15, Try.ntmps15
  go_wp2_with fail
  refine (H.out _).mono ?_
  rintro e w1 ⟨rfl, rfl⟩
  go_wp2_with fail
  go_ret
  exact ⟨rfl, rfl⟩
theorem specAddrOk_no (a : Int) (h : a < 0 ∨ 4294967295 < a) (w : World) :
    Calls Try.prog 15 #[.int .i64 a] w fun e w' => e = .returned (.bool false) ∧ w' = w := by
  have H := Lib.hid (inRange_no a 0 4294967295 h)
  clear h
  go_enter Try.func15, Try.ntmps15
  go_wp2_with fail
  refine (H.out _).mono ?_
  rintro e w1 ⟨rfl, rfl⟩
  go_wp2_with fail
  go_ret
  exact ⟨rfl, rfl⟩
theorem implAddrOk_yes (a : Int) (h0 : 0 ≤ a) (h1 : a ≤ 4294967295) (w : World) :
    Calls Try.prog 16 #[.int .i64 a] w fun e w' => e = .returned (.bool true) ∧ Below w.heap.size w w' := by
  go_enter Try.func16, Try.ntmps16
  go_wp2_with fail
  go_ret
  exact ⟨rfl, Below.refl _ _⟩
theorem implAddrOk_no (a : Int) (h : a < 0 ∨ 4294967295 < a) (w : World) :
    Calls Try.prog 16 #[.int .i64 a] w fun e w' => e = .returned (.bool false) ∧ Below w.heap.size w w' := by
  by_cases h0 : 0 ≤ a
  · have h1 : ¬ a ≤ 4294967295 := by omega
    clear h
    go_enter Try.func16, Try.ntmps16
    go_wp2_with fail
    go_ret
    exact ⟨rfl, Below.refl _ _⟩
  · clear h
    go_enter Try.func16, Try.ntmps16
    go_wp2_with fail
    go_ret
    exact ⟨rfl, Below.refl _ _⟩
set_option maxRecDepth 100000 in
set_option maxHeartbeats 400000 in
/-- The exact law on AddrOk, out of one answer that both give. -/
theorem lawAddrOkF (L : World → Prop) (stays : ∀ X Y, L X → Below X.heap.size X Y → L Y) (a : Int) (b : Bool) (hI : (∀ X, L X → Calls Try.prog 16 #[.int .i64 a] X fun e X' => e = .returned (.bool b) ∧ Below X.heap.size X X')) (hS : (∀ X, Calls Try.prog 15 #[.int .i64 a] X fun e X' => e = .returned (.bool b) ∧ Below X.heap.size X X')) (w : World) (ht : L w) :
    Calls Try.prog 6 #[.int .i64 a] w fun e w' => e = .returned (.bool true) ∧ Below w.heap.size w w' := by
  have HI := Lib.hid hI
  have HS := Lib.hid hS
  have HT : Hid (∀ X, Below w.heap.size w X → L X) := fun X hX => stays w X ht hX
  clear hI hS ht stays
  go_enter Try.func6, Try.ntmps6
  go_wp2_with fail
  refine (HS.out _).mono ?_
  rintro e w1 ⟨rfl, hb1⟩
  have HB1 := Lib.hid hb1
  clear hb1
  go_wp2_with fail
  refine (HI.out _ (HT.out _ HB1.out)).mono ?_
  rintro e w2 ⟨rfl, hb2⟩
  have HB2 := Lib.hid (HB1.out.trans (hb2.mono HB1.out.size))
  clear hb2
  go_wp2
  go_ret
  exact ⟨rfl, HB2.out⟩
theorem AddrOk_both (a : Int) : ∃ (b : Bool),
    (∀ X, (fun _ => True) X → Calls Try.prog 16 #[.int .i64 a] X fun e X' => e = .returned (.bool b) ∧ Below X.heap.size X X') ∧
    (∀ X, Calls Try.prog 15 #[.int .i64 a] X fun e X' => e = .returned (.bool b) ∧ Below X.heap.size X X') := by
  by_cases h : a < 0 ∨ 4294967295 < a
  · exact ⟨_, fun X _ => implAddrOk_no a h X, fun X => (specAddrOk_no a h X).mono (by rintro e Y ⟨rfl, rfl⟩; exact ⟨rfl, Below.refl _ _⟩)⟩
  · exact ⟨_, fun X _ => implAddrOk_yes a (by omega) (by omega) X, fun X => (specAddrOk_yes a (by omega) (by omega) X).mono (by rintro e Y ⟨rfl, rfl⟩; exact ⟨rfl, Below.refl _ _⟩)⟩
theorem lawAddrOk (a : Int) (w : World) :
    Calls Try.prog 6 #[.int .i64 a] w fun e w' => e = .returned (.bool true) ∧ Below w.heap.size w w' := by
  obtain ⟨b, h1, h2⟩ := AddrOk_both a
  exact lawAddrOkF (fun _ => True) (fun _ _ _ _ => trivial) a b h1 h2 w trivial

end Go.Proofs.Ytmmippdommemmam
