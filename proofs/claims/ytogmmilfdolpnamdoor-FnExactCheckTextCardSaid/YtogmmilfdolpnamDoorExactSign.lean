/-
  SecretOf, Challenge, SignText: both answer one value; the exact laws out of it.
-/
import Derived.Test.YtogmmilfdolpnamDoorCheckImpl
import Derived.Test.YtogmmilfdolpnamDoorExactSig
namespace Go.Proofs.YtogmmilfdolpnamDoor
open Go.RowKit

theorem chal_two (r p : Int) (m : ByteArray) (hm : m.size ≤ 300000000) : ∃ c : Int,
    (∀ X, LaidK X → Calls Tryd.prog 20 #[.int .i64 r, .int .i64 p, .string m] X fun e X' => e = .returned (.int .i64 c) ∧ Below X.heap.size X X') ∧
    (∀ X, Calls Tryd.prog 15 #[.int .i64 r, .int .i64 p, .string m] X fun e X' => e = .returned (.int .i64 c) ∧ Below X.heap.size X X') := by
  by_cases h : (r < 0 ∨ 4294967295 < r) ∨ (p < 0 ∨ 4294967295 < p)
  · refine ⟨0, fun X _ => implChallenge_no r p m h X, fun X => (specChallenge_no r p m h X).mono ?_⟩
    rintro e Y ⟨rfl, rfl⟩
    exact ⟨rfl, Below.refl _ _⟩
  · obtain ⟨R, rfl⟩ : ∃ n : Nat, r = (n : Int) := ⟨r.toNat, by omega⟩
    obtain ⟨P, rfl⟩ : ∃ n : Nat, p = (n : Int) := ⟨p.toNat, by omega⟩
    exact ⟨_, implChallenge_yes R P m (by omega) (by omega) (by omega), specChallenge_yes R P m (by omega) (by omega) (by omega)⟩
theorem check_two (p : Int) (m : ByteArray) (E S : Int) (hm : m.size ≤ 300000000) : ∃ b : Bool,
    (∀ X, LaidK X → Calls Tryd.prog 10 #[.int .i64 p, .string m, .agg #[.int .i64 E, .int .i64 S]] X fun e X' => e = .returned (.bool b) ∧ Below X.heap.size X X') ∧
    (∀ X, Calls Tryd.prog 8 #[.int .i64 p, .string m, .agg #[.int .i64 E, .int .i64 S]] X fun e X' => e = .returned (.bool b) ∧ Below X.heap.size X X') := by
  cases hg : inGroup p
  · exact ⟨_, fun X _ => implCheck_group p m E S hg X, specCheck_group p m E S hg⟩
  · by_cases h : (E < 0 ∨ 1073741788 < E) ∨ (S < 0 ∨ 1073741788 < S)
    · exact ⟨_, fun X _ => implCheck_sig p m E S hg h X, specCheck_sig p m E S hg h⟩
    · have hr := inGroup_range p hg
      obtain ⟨P, rfl⟩ : ∃ n : Nat, p = (n : Int) := ⟨p.toNat, by omega⟩
      obtain ⟨e, rfl⟩ : ∃ n : Nat, E = (n : Int) := ⟨E.toNat, by omega⟩
      obtain ⟨s, rfl⟩ : ∃ n : Nat, S = (n : Int) := ⟨S.toNat, by omega⟩
      exact ⟨_, implCheck_in P m e s hg (by omega) (by omega) hm, specCheck_in P m e s hg (by omega) (by omega) hm⟩
theorem sign_both (a : Int) (m : ByteArray) (hm : m.size ≤ 300000000) : ∃ (x y : Int) (o : Bool),
    (∀ X, LaidK X → Calls Tryd.prog 6 #[.int .i64 a, .string m] X fun e X' => e = .returned (.tuple #[.agg #[.int .i64 x, .int .i64 y], .bool o]) ∧ Below X.heap.size X X') ∧
    (∀ X, Calls Tryd.prog 5 #[.int .i64 a, .string m] X fun e X' => e = .returned (.tuple #[.agg #[.int .i64 x, .int .i64 y], .bool o]) ∧ Below X.heap.size X X') := by
  by_cases h : a < 1 ∨ 1073741788 < a
  · exact ⟨_, _, _, fun X _ => implSignText_no a m h X, specSignText_no a m h⟩
  · obtain ⟨n, rfl⟩ : ∃ n : Nat, a = (n : Int) := ⟨a.toNat, by omega⟩
    exact ⟨_, _, _, implSignText_yes n m (by omega) (by omega) hm, specSignText_yes n m (by omega) (by omega) hm⟩

end Go.Proofs.YtogmmilfdolpnamDoor
