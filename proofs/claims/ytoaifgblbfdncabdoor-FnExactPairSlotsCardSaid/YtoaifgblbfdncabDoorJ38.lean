/-
  The exact law on PairSlots, at every seed.
-/
import Derived.Test.YtoaifgblbfdncabDoorJ35
import Derived.Test.YtoaifgblbfdncabDoorJ37
namespace Go.Proofs.YtoaifgblbfdncabDoor
open Go.RowKit

theorem lawPairSlots (seed : ByteArray) (w : World) (ht : LaidK w) :
    Calls Tryd.prog 3 #[.string seed] w fun e w' => e = .returned (.bool true) ∧ Below w.heap.size w w' :=
  lawPairSlotsF (L := LaidK) seed (pairK seed 97) (pairK seed 98) (fun hz X hX => implPairSlots_any seed (by omega) X hX) (fun hz X => specPairSlots_any seed (by omega) X) w (fun _ hb => ht.stays hb (Nat.le_refl _))

end Go.Proofs.YtoaifgblbfdncabDoor
