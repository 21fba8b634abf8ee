/-
  Prefixes compared as values.
-/
import Derived.Test.YtkfcoldjgijpcacRows
import Derived.Test.YtkfcoldjgijpcacKit
import Derived.Laws.StructEq
namespace Go.Proofs.Ytkfcoldjgijpcac
open Go.RowKit

theorem prefFields : Try.prog.underlying 29 = some (.struct (Try.prog.fieldsOf 29)) := by kernel_rfl
theorem prefStood : Try.prog.stoodInHeld 29 = false := by kernel_rfl
theorem prefGuard : Try.prog.eqGuardType Try.prog.depth 29 = false := by kernel_rfl
theorem pref_eq (a b c d : Int) (w : World) : (Op.equalIn 10000 29 (.agg #[.int .i64 a, .int .i64 b]) (.agg #[.int .i64 c, .int .i64 d])).run Try.prog w = .ok (a == c && b == d) w := by
  have u3 := Try.underlying3
  have a3 := Try.isAgg3
  have z3 := Try.sizeOf3
  rw [show (10000 : Nat) = 9999 + 1 from rfl, run_equalIn_agg w 9999 29 _ _ prefFields prefStood]
  simp only [Program.fieldsOf, Try.underlying29]
  go_simp
  by_cases h1 : a = c <;> by_cases h2 : b = d <;> simp [h1, h2]
theorem pref_same (a b : Int) (w : World) : (Op.equalIn 10000 29 (.agg #[.int .i64 a, .int .i64 b]) (.agg #[.int .i64 a, .int .i64 b])).run Try.prog w = .ok true w := by
  rw [pref_eq]
  simp

end Go.Proofs.Ytkfcoldjgijpcac
