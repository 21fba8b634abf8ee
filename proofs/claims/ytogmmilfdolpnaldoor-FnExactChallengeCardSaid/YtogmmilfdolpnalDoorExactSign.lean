/-
  SecretOf, Challenge, SignText: both answer one value; the exact laws out of it.
-/
import Derived.Test.YtogmmilfdolpnalDoorCheckImpl
import Derived.Test.YtogmmilfdolpnalDoorExactSig
namespace Go.Proofs.YtogmmilfdolpnalDoor
open Go.RowKit

set_option maxRecDepth 100000 in
set_option maxHeartbeats 400000 in
theorem lawSecretOf_big (s : ByteArray) (h : 1048576 < s.size) (w : World) :
    Calls Tryd.prog 6 #[.string s] w fun e w' => e = .returned (.bool true) ∧ Below w.heap.size w w' := by
  go_enter Tryd.func6, Tryd.ntmps6
  go_wp2
  go_ret
  exact ⟨rfl, Below.refl _ _⟩

set_option maxRecDepth 100000 in
set_option maxHeartbeats 400000 in
/-- The exact law on SecretOf, out of one answer that both give. -/
theorem lawSecretOfF (L : World → Prop) (stays : ∀ X Y, L X → Below X.heap.size X Y → L Y) (s : ByteArray) (hs : s.size ≤ 1048576) (x : Int) (hI : (∀ X, L X → Calls Tryd.prog 15 #[.string s] X fun e X' => e = .returned (.int .i64 x) ∧ Below X.heap.size X X')) (hS : (∀ X, Calls Tryd.prog 14 #[.string s] X fun e X' => e = .returned (.int .i64 x) ∧ Below X.heap.size X X')) (w : World) (ht : L w) :
    Calls Tryd.prog 6 #[.string s] w fun e w' => e = .returned (.bool true) ∧ Below w.heap.size w w' := by
  have HI := Lib.hid hI
  have HS := Lib.hid hS
  have HT : Hid (∀ X, Below w.heap.size w X → L X) := fun X hX => stays w X ht hX
  clear hI hS ht stays
  go_enter Tryd.func6, Tryd.ntmps6
  go_wp2_with fail
  refine (HS.out _).mono ?_
  rintro e w1 ⟨rfl, hb1⟩
  have HB1 := Lib.hid hb1
  clear hb1
  go_wp2_with fail
  refine (HI.out _ (HT.out _ HB1.out)).mono ?_
  rintro e w2 ⟨rfl, hb2⟩
  have HB2 := Lib.hid (HB1.out.trans (hb2.mono HB1.out.size))
  clear hb2
  go_wp2
  go_ret
  exact ⟨rfl, HB2.out⟩

set_option maxRecDepth 100000 in
set_option maxHeartbeats 400000 in
theorem lawChallenge_big (a b : Int) (s : ByteArray) (h : 1048576 < s.size) (w : World) :
    Calls Tryd.prog 7 #[.int .i64 a, .int .i64 b, .string s] w fun e w' => e = .returned (.bool true) ∧ Below w.heap.size w w' := by
  go_enter Tryd.func7, Tryd.ntmps7
  go_wp2
  go_ret
  exact ⟨rfl, Below.refl _ _⟩

set_option maxRecDepth 100000 in
set_option maxHeartbeats 400000 in
/-- The exact law on Challenge, out of one answer that both give. -/
theorem lawChallengeF (L : World → Prop) (stays : ∀ X Y, L X → Below X.heap.size X Y → L Y) (a b : Int) (s : ByteArray) (hs : s.size ≤ 1048576) (x : Int) (hI : (∀ X, L X → Calls Tryd.prog 17 #[.int .i64 a, .int .i64 b, .string s] X fun e X' => e = .returned (.int .i64 x) ∧ Below X.heap.size X X')) (hS : (∀ X, Calls Tryd.prog 16 #[.int .i64 a, .int .i64 b, .string s] X fun e X' => e = .returned (.int .i64 x) ∧ Below X.heap.size X X')) (w : World) (ht : L w) :
    Calls Tryd.prog 7 #[.int .i64 a, .int .i64 b, .string s] w fun e w' => e = .returned (.bool true) ∧ Below w.heap.size w w' := by
  have HI := Lib.hid hI
  have HS := Lib.hid hS
  have HT : Hid (∀ X, Below w.heap.size w X → L X) := fun X hX => stays w X ht hX
  clear hI hS ht stays
  go_enter Tryd.func7, Tryd.ntmps7
  go_wp2_with fail
  refine (HS.out _).mono ?_
  rintro e w1 ⟨rfl, hb1⟩
  have HB1 := Lib.hid hb1
  clear hb1
  go_wp2_with fail
  refine (HI.out _ (HT.out _ HB1.out)).mono ?_
  rintro e w2 ⟨rfl, hb2⟩
  have HB2 := Lib.hid (HB1.out.trans (hb2.mono HB1.out.size))
  clear hb2
  go_wp2
  go_ret
  exact ⟨rfl, HB2.out⟩

theorem chal_two (r p : Int) (m : ByteArray) (hm : m.size ≤ 300000000) : ∃ c : Int,
    (∀ X, LaidK X → Calls Tryd.prog 17 #[.int .i64 r, .int .i64 p, .string m] X fun e X' => e = .returned (.int .i64 c) ∧ Below X.heap.size X X') ∧
    (∀ X, Calls Tryd.prog 16 #[.int .i64 r, .int .i64 p, .string m] X fun e X' => e = .returned (.int .i64 c) ∧ Below X.heap.size X X') := by
  by_cases h : (r < 0 ∨ 4294967295 < r) ∨ (p < 0 ∨ 4294967295 < p)
  · refine ⟨0, fun X _ => implChallenge_no r p m h X, fun X => (specChallenge_no r p m h X).mono ?_⟩
    rintro e Y ⟨rfl, rfl⟩
    exact ⟨rfl, Below.refl _ _⟩
  · obtain ⟨R, rfl⟩ : ∃ n : Nat, r = (n : Int) := ⟨r.toNat, by omega⟩
    obtain ⟨P, rfl⟩ : ∃ n : Nat, p = (n : Int) := ⟨p.toNat, by omega⟩
    exact ⟨_, implChallenge_yes R P m (by omega) (by omega) (by omega), specChallenge_yes R P m (by omega) (by omega) (by omega)⟩
end Go.Proofs.YtogmmilfdolpnalDoor
