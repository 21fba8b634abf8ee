/-
  Hashers compared as values.
-/
import Derived.Test.YtogmmilfdolpnaaDoorRows
import Derived.Test.YtogmmilfdolpnaaDoorKit
import Derived.Laws.StructEq
namespace Go.Proofs.YtogmmilfdolpnaaDoor
open Go.RowKit

theorem hasherFields : Tryd.prog.underlying 42 = some (.struct (Tryd.prog.fieldsOf 42)) := by kernel_rfl
theorem hasherStood : Tryd.prog.stoodInHeld 42 = false := by kernel_rfl
theorem hasherGuard : Tryd.prog.eqGuardType Tryd.prog.depth 42 = false := by kernel_rfl
theorem hasher_eq (a b : ByteArray) (n : Int) (c d : ByteArray) (m : Int) (w : World) : (Op.equalIn 10000 42 (.agg #[.string a, .string b, .int .i64 n]) (.agg #[.string c, .string d, .int .i64 m])).run Tryd.prog w = .ok (a.toList == c.toList && b.toList == d.toList && n == m) w := by
  have u3 := Tryd.underlying3
  have a3 := Tryd.isAgg3
  have z3 := Tryd.sizeOf3
  have u9 := Tryd.underlying9
  have a9 := Tryd.isAgg9
  have z9 := Tryd.sizeOf9
  rw [show (10000 : Nat) = 9999 + 1 from rfl, run_equalIn_agg w 9999 42 _ _ hasherFields hasherStood]
  simp only [Program.fieldsOf, Tryd.underlying42]
  go_simp
  by_cases h1 : a.toList = c.toList <;> by_cases h2 : b.toList = d.toList <;> by_cases h3 : n = m <;> simp [h1, h2, h3]
theorem hasher_same (a b : ByteArray) (n : Int) (w : World) : (Op.equalIn 10000 42 (.agg #[.string a, .string b, .int .i64 n]) (.agg #[.string a, .string b, .int .i64 n])).run Tryd.prog w = .ok true w := by
  rw [hasher_eq]
  simp

end Go.Proofs.YtogmmilfdolpnaaDoor
