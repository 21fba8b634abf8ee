/-
  The given cut of a text at a sign.
-/
import Derived.Test.YtkfcoldjgijpcapRows
import Derived.Test.YtkfcoldjgijpcapKit
import Derived.Test.YtkfcoldjgijpcapKitS
import Derived.Test.YtkfcoldjgijpcapPlainAll
namespace Go.Proofs.Ytkfcoldjgijpcap
open Go.RowKit

theorem infoText : (Try.prog.info? 9).map (fun i => (i.zero, i.size, i.bytes)) = some (some (.string ByteArray.empty), 1, 16) := by kernel_rfl
theorem part_text (s : ByteArray) (b i : Nat) : s.extract b i = ⟨(seg s.data.toList b i).toArray⟩ := Lib.extract_eq s b i

end Go.Proofs.Ytkfcoldjgijpcap
