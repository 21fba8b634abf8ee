/-
  The given cut of a text at a sign.
-/
import Derived.Test.YtkfcoldjgijpcacRows
import Derived.Test.YtkfcoldjgijpcacKit
import Derived.Test.YtkfcoldjgijpcacKitS
import Derived.Test.YtkfcoldjgijpcacPlainAll
namespace Go.Proofs.Ytkfcoldjgijpcac
open Go.RowKit

theorem infoText : (Try.prog.info? 9).map (fun i => (i.zero, i.size, i.bytes)) = some (some (.string ByteArray.empty), 1, 16) := by kernel_rfl
theorem part_text (s : ByteArray) (b i : Nat) : s.extract b i = ⟨(seg s.data.toList b i).toArray⟩ := Lib.extract_eq s b i

end Go.Proofs.Ytkfcoldjgijpcac
