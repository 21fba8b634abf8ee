/-
  Texts that are drawn for digests.
-/
import Derived.Test.YtcnmjjpbhpmpoabDoorDrawNumber
import Derived.Test.YtcnmjjpbhpmpoabDoorDrawPlaces
namespace Go.Proofs.YtcnmjjpbhpmpoabDoor
open Go.RowKit

/-- How a draw of a text of at most 200 bytes ends. -/
def DrewStr (c : Nat) (a : Option Addr) (len cap : Nat) (w : World) (e : Ending) (w' : World) : Prop :=
  ∃ t : ByteArray, t.size ≤ 200 ∧ e = .returned (.string t) ∧ Cur c a len cap w' ∧ Only c w w'
def textSizes : List Int := [0, 3, 10, 54, 55, 56, 57, 63, 64, 65, 119, 120, 130]
theorem textSizes_few (x : Int) (h : x ∈ textSizes) : 0 ≤ x ∧ x ≤ 130 := by
  unfold textSizes at h
  simp at h
  omega

end Go.Proofs.YtcnmjjpbhpmpoabDoor
