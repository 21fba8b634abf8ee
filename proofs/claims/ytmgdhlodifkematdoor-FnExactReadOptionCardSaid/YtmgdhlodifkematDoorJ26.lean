/-
  The exact law on ReadOption, at every argument.
-/
import Derived.Test.YtmgdhlodifkematDoorJ21
import Derived.Test.YtmgdhlodifkematDoorJ22
import Derived.Test.YtmgdhlodifkematDoorJ25
namespace Go.Proofs.YtmgdhlodifkematDoor
open Go.RowKit

theorem ret_val {rz : Int} {rw : List ByteArray} {rp ok : Bool} {X Y : World} {e : Ending} (h : OptRet rz rw rp ok X e Y) : ∃ v, e = .returned (.tuple #[v, .bool ok]) ∧ OptVal rz rw rp X v Y := by
  obtain ⟨v, fp, rfl, hd, ho, hb⟩ := h
  obtain ⟨a, c, rfl⟩ := rows_form (layStringS.read ho)
  exact ⟨_, rfl, a, c, fp, rfl, hd, ho, hb⟩
theorem lawReadOption (s : ByteArray) (w : World) (hL : LaidA w) :
    Calls Tryd.prog 3 #[.string s] w fun e w' => e = .returned (.bool true) ∧ Below w.heap.size w w' := by
  obtain ⟨rz, rw, rp, ok, hR⟩ := read_is s
  exact lawReadOptionF s rz rw rp ok (by have := read_few hR; omega) w (fun h X hX => (implReadOption_any cloneGives s h rz rw rp ok hR X (LaidA.all _ _ hL hX)).mono fun _ _ h => ret_val h) (fun h X => (specReadOption_any s (by omega) rz rw rp ok hR X).mono fun _ _ h => ret_val h)

end Go.Proofs.YtmgdhlodifkematDoor
