/-
  Routes as records of three numbers.
-/
import Derived.Test.YtpcdmfimjnhejaoKitR
import Derived.Test.YtpcdmfimjnhejaoRows
namespace Go.Proofs.Ytpcdmfimjnhejao
open Go.RowKit

/-- A route: address, length, whom it leads to. -/
abbrev Rt := Int × Int × Int
def rtRec : Rec Rt where
  k := 3
  enc := fun r => [.int .i64 r.1, .int .i64 r.2.1, .int .i64 r.2.2]
  len := fun _ => rfl
  one := fun r u hu => by
    simp only [List.mem_cons, List.not_mem_nil, or_false] at hu
    rcases hu with rfl | rfl | rfl <;> rfl
  pos := by decide
theorem infoRoute : (Try.prog.info? 37).map (fun i => (i.zero.map (·.cells.size), i.size, i.bytes)) = some (some 3, 3, 24) := by kernel_rfl

end Go.Proofs.Ytpcdmfimjnhejao
