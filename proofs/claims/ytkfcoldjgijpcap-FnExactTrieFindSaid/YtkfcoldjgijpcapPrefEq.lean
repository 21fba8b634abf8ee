/-
  Prefixes compared as values.
-/
import Derived.Test.YtkfcoldjgijpcapRows
import Derived.Test.YtkfcoldjgijpcapKit
import Derived.Laws.StructEq
namespace Go.Proofs.Ytkfcoldjgijpcap
open Go.RowKit

theorem prefFields : Try.prog.underlying 40 = some (.struct (Try.prog.fieldsOf 40)) := by kernel_rfl
theorem prefStood : Try.prog.stoodInHeld 40 = false := by kernel_rfl
theorem prefGuard : Try.prog.eqGuardType Try.prog.depth 40 = false := by kernel_rfl
theorem pref_eq (a b c d : Int) (w : World) : (Op.equalIn 10000 40 (.agg #[.int .i64 a, .int .i64 b]) (.agg #[.int .i64 c, .int .i64 d])).run Try.prog w = .ok (a == c && b == d) w := by
  have u3 := Try.underlying3
  have a3 := Try.isAgg3
  have z3 := Try.sizeOf3
  rw [show (10000 : Nat) = 9999 + 1 from rfl, run_equalIn_agg w 9999 40 _ _ prefFields prefStood]
  simp only [Program.fieldsOf, Try.underlying40]
  go_simp
  by_cases h1 : a = c <;> by_cases h2 : b = d <;> simp [h1, h2]
theorem pref_same (a b : Int) (w : World) : (Op.equalIn 10000 40 (.agg #[.int .i64 a, .int .i64 b]) (.agg #[.int .i64 a, .int .i64 b])).run Try.prog w = .ok true w := by
  rw [pref_eq]
  simp

end Go.Proofs.Ytkfcoldjgijpcap
