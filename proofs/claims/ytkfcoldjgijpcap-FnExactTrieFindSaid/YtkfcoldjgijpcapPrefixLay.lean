/-
  Prefix as it lies; the laws' own functions over it and over rows of it.
-/
import Derived.Test.YtkfcoldjgijpcapKitLay
import Derived.Test.YtkfcoldjgijpcapRows
import Derived.Deep.RegionHeld3
import Derived.BigQuiet
import Derived.Deep.QuietTactic
import Derived.Deep.DeepCutAuto
namespace Go.Proofs.Ytkfcoldjgijpcap
open Go.RowKit

abbrev PrefixD := Int × Int
abbrev PrefixT : TypeId := 40
def layPrefix : Lay PrefixD := Lay.pair Lay.int Lay.int
def layPrefixS : Lay (List PrefixD) := .rows PrefixT layPrefix

theorem layPrefix_rd {w : World} {cs : List Value} {x : PrefixD} : layPrefix.rd w cs x ↔ cs = [.int .i64 x.1, .int .i64 x.2] := by
  constructor
  · rintro ⟨c0, d0, rfl, rfl, rfl⟩
    rfl
  · rintro rfl
    exact ⟨[_], [_], rfl, rfl, rfl⟩

theorem layPrefix_own {w : World} {b : Nat} {f : List Nat} {cs : List Value} {x : PrefixD} : layPrefix.own w b f cs x ↔ f = [] ∧ cs = [.int .i64 x.1, .int .i64 x.2] := by
  constructor
  · rintro ⟨f0, g0, c0, d0, rfl, rfl, ⟨rfl, rfl⟩, ⟨rfl, rfl⟩⟩
    exact ⟨rfl, rfl⟩
  · rintro ⟨rfl, rfl⟩
    exact ⟨[], [], [_], [_], rfl, rfl, ⟨rfl, rfl⟩, ⟨rfl, rfl⟩⟩

theorem zeroPrefix (w : World) (b : Nat) : layPrefix.own w b [] [.int .i64 0, .int .i64 0] (0, 0) := layPrefix_own.2 ⟨rfl, rfl⟩
theorem zeroPrefix_none (w : World) (b : Nat) (f : List Nat) (c : List Value) (h : layPrefix.own w b f c (0, 0)) : f = [] := (layPrefix_own.1 h).1
theorem flatPrefix : Flat layPrefix := ⟨fun _ _ _ _ h => layPrefix_own.2 ⟨rfl, layPrefix_rd.1 h⟩, fun _ _ _ _ _ h => (layPrefix_own.1 h).1, fun _ _ _ _ h => layPrefix_rd.2 (layPrefix_rd.1 h)⟩

set_option maxRecDepth 100000 in
set_option maxHeartbeats 400000 in
theorem toPrefix_any (x0 : Int) (x1 : Int) (w : World) :
    Calls Try.prog 18 #[.agg #[.int .i64 x0, .int .i64 x1]] w fun e w' => e = .returned (.agg #[.int .i64 x0, .int .i64 x1]) ∧ Below w.heap.size w w' := by
  go_enter Try.func18, Try.ntmps18
  go_wp2_with fail
  refine bodyPost_ret (v := .agg #[.int .i64 x0, .int .i64 x1]) (by simp [results, Try.results18, go_sem]) rfl ⟨rfl, ?_⟩
  exact (((Below.refl w.heap.size w).alloc (Nat.le_refl _) _).alloc (by simp) _).alloc (by simp; omega) _

set_option maxRecDepth 100000 in
set_option maxHeartbeats 400000 in
theorem eqPrefix_same (x0 : Int) (x1 : Int) (w : World) :
    Calls Try.prog 50 #[.agg #[.int .i64 x0, .int .i64 x1], .agg #[.int .i64 x0, .int .i64 x1]] w fun e w' => e = .returned (.bool true) ∧ Below w.heap.size w w' := by
  go_enter Try.func50, Try.ntmps50
  go_wp2_with fail
  go_ret
  exact ⟨rfl, ((Below.refl _ _).alloc (Nat.le_refl _) _).alloc (by simp) _⟩

end Go.Proofs.Ytkfcoldjgijpcap
