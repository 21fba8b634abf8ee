/-
  Prefixes compared as values.
-/
import Derived.Test.YtmmippdommemmaoDoorRows
import Derived.Test.YtmmippdommemmaoDoorKit
import Derived.Laws.StructEq
namespace Go.Proofs.YtmmippdommemmaoDoor
open Go.RowKit

theorem prefFields : Tryd.prog.underlying 23 = some (.struct (Tryd.prog.fieldsOf 23)) := by kernel_rfl
theorem prefStood : Tryd.prog.stoodInHeld 23 = false := by kernel_rfl
theorem prefGuard : Tryd.prog.eqGuardType Tryd.prog.depth 23 = false := by kernel_rfl
theorem pref_eq (a b c d : Int) (w : World) : (Op.equalIn 10000 23 (.agg #[.int .i64 a, .int .i64 b]) (.agg #[.int .i64 c, .int .i64 d])).run Tryd.prog w = .ok (a == c && b == d) w := by
  have u3 := Tryd.underlying3
  have a3 := Tryd.isAgg3
  have z3 := Tryd.sizeOf3
  rw [show (10000 : Nat) = 9999 + 1 from rfl, run_equalIn_agg w 9999 23 _ _ prefFields prefStood]
  simp only [Program.fieldsOf, Tryd.underlying23]
  go_simp
  by_cases h1 : a = c <;> by_cases h2 : b = d <;> simp [h1, h2]
theorem pref_same (a b : Int) (w : World) : (Op.equalIn 10000 23 (.agg #[.int .i64 a, .int .i64 b]) (.agg #[.int .i64 a, .int .i64 b])).run Tryd.prog w = .ok true w := by
  rw [pref_eq]
  simp

end Go.Proofs.YtmmippdommemmaoDoor
