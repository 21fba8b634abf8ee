/-
  Rows and variables of different types lie apart; no program is spoken of here.
-/
import Derived.Test.YtoaifgblbfdncabDoorJ04
namespace Go.Proofs.YtoaifgblbfdncabDoor
open Go.RowKit

theorem VarA.next' {r : Nat} {t : TypeId} {cs : Array Value} {X Y : World} {b : Nat} (h : VarA r t cs X) (hb : Below b X Y) (hr : r < b) : VarA r t cs Y := ⟨(hb.block r hr).trans h.row⟩

end Go.Proofs.YtoaifgblbfdncabDoor
