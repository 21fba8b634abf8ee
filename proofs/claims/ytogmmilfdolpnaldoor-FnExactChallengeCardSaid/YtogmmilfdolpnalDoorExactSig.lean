/-
  A signature as an argument: opened, shut again; the laws' own small functions over signatures; the exact laws of chapter 7 out of one answer that both give.
-/
import Derived.Test.YtogmmilfdolpnalDoorRows
import Derived.Test.YtogmmilfdolpnalDoorKit
import Derived.Test.YtogmmilfdolpnalDoorVarTwo
import Derived.ProofKit
import Derived.OpenShut
import Derived.ShutString
import Derived.ChangeOld
import Derived.ChangeSame
import Derived.Below
namespace Go.Proofs.YtogmmilfdolpnalDoor
open Go.ChangeShapes Go.WideShapes Go.ChangeAt Go.RowKit
open Go.ChangeMaps (open_string shut_string)

theorem intCellsS : Tryd.prog.cellsOf 3 = 1 := by kernel_rfl

end Go.Proofs.YtogmmilfdolpnalDoor
