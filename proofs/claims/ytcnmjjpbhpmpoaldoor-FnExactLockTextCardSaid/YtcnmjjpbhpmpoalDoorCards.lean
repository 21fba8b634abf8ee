/-
  DERIVED. GIVEN WITH THE SEED: THE CARDS: each row of YtcnmjjpbhpmpoalDoorRows.lean that lists a variable, with what it lists TIED to the program's text (the seventh form; the later family's looks); each row that meets fmt, with fmt's text TOLD by the authors' own Lean function (tested against real Go, not proved from fmt's source: count such statements apart). THE CARD IS WHAT COUNTS. Prove the row's statement (the work); the ties are given (YtcnmjjpbhpmpoalDoorTie.lean); close each card by the builder's one call (the guide's Derived/Test/ToyasCard.lean, 'card_holds'). Laid BY PROGRAM, IN A SANDBOX (cutbox-door.mjs). By AI agents, Wed Nov 11 2026. No macro, syntax, notation, axiom, sorry.
-/
import Derived.Test.YtcnmjjpbhpmpoalDoorRows
import GoSem.ClaimSeven
namespace Go.Proofs.YtcnmjjpbhpmpoalDoor
namespace Rows

/-- THE TIED CARD OF 'laws.FnExactMask'. -/
def fnExactMaskCard : Claim7 := { stood := { row := fnExactMaskRow, standIns := [], harness := (true, "3ef541c8e2a63581e5975f8a06f67c3692b9ee8ab58737def900aa167fc24a9d"), looks := true }, kinds := [], alts := [], laidByText := true, laidKinds := [.data], laidTests := true, laidLooks := .later }
def FnExactMaskCardSaid : Prop := Claim7.holds Tryd.pinned (.plain (OpenSpec.ofChange fnExactMaskSpec)) fnExactMaskCard

/-- THE TIED CARD OF 'laws.FnExactLockText'. -/
def fnExactLockTextCard : Claim7 := { stood := { row := fnExactLockTextRow, standIns := [], harness := (true, "3ef541c8e2a63581e5975f8a06f67c3692b9ee8ab58737def900aa167fc24a9d"), looks := true }, kinds := [], alts := [], laidByText := true, laidKinds := [.data], laidTests := true, laidLooks := .later }
def FnExactLockTextCardSaid : Prop := Claim7.holds Tryd.pinned (.plain (OpenSpec.ofChange fnExactLockTextSpec)) fnExactLockTextCard

/-- THE TIED CARD OF 'laws.FnExactOpenText'. -/
def fnExactOpenTextCard : Claim7 := { stood := { row := fnExactOpenTextRow, standIns := [], harness := (true, "3ef541c8e2a63581e5975f8a06f67c3692b9ee8ab58737def900aa167fc24a9d"), looks := true }, kinds := [], alts := [], laidByText := true, laidKinds := [.data], laidTests := true, laidLooks := .later }
def FnExactOpenTextCardSaid : Prop := Claim7.holds Tryd.pinned (.plain (OpenSpec.ofChange fnExactOpenTextSpec)) fnExactOpenTextCard

/-- THE SECOND FORM's CARD OF 'laws.FnExactMask'. -/
def fnExactMaskUptoCard : Claim7 := { stood := { row := fnExactMaskUptoRow, standIns := [], harness := (true, "3ef541c8e2a63581e5975f8a06f67c3692b9ee8ab58737def900aa167fc24a9d"), looks := true }, kinds := [], alts := [], laidByText := true, laidKinds := [.data], laidTests := true, laidLooks := .later }
def FnExactMaskUptoCardSaid : Prop := Claim7.holds Tryd.pinned (.plain (OpenSpec.upto fnExactMaskSpec)) fnExactMaskUptoCard

/-- THE SECOND FORM's CARD OF 'laws.FnExactLockText'. -/
def fnExactLockTextUptoCard : Claim7 := { stood := { row := fnExactLockTextUptoRow, standIns := [], harness := (true, "3ef541c8e2a63581e5975f8a06f67c3692b9ee8ab58737def900aa167fc24a9d"), looks := true }, kinds := [], alts := [], laidByText := true, laidKinds := [.data], laidTests := true, laidLooks := .later }
def FnExactLockTextUptoCardSaid : Prop := Claim7.holds Tryd.pinned (.plain (OpenSpec.upto fnExactLockTextSpec)) fnExactLockTextUptoCard

/-- THE SECOND FORM's CARD OF 'laws.FnExactOpenText'. -/
def fnExactOpenTextUptoCard : Claim7 := { stood := { row := fnExactOpenTextUptoRow, standIns := [], harness := (true, "3ef541c8e2a63581e5975f8a06f67c3692b9ee8ab58737def900aa167fc24a9d"), looks := true }, kinds := [], alts := [], laidByText := true, laidKinds := [.data], laidTests := true, laidLooks := .later }
def FnExactOpenTextUptoCardSaid : Prop := Claim7.holds Tryd.pinned (.plain (OpenSpec.upto fnExactOpenTextSpec)) fnExactOpenTextUptoCard
end Rows
end Go.Proofs.YtcnmjjpbhpmpoalDoor
