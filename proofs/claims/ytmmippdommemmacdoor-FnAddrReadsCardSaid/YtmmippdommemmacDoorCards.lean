/-
  DERIVED. GIVEN WITH THE SEED: THE CARDS: each row of YtmmippdommemmacDoorRows.lean that lists a variable, with what it lists TIED to the program's text (the seventh form; the later family's looks); each row that meets fmt, with fmt's text TOLD by the authors' own Lean function (tested against real Go, not proved from fmt's source: count such statements apart). THE CARD IS WHAT COUNTS. Prove the row's statement (the work); the ties are given (YtmmippdommemmacDoorTie.lean); close each card by the builder's one call (the guide's Derived/Test/ToyasCard.lean, 'card_holds'). Laid BY PROGRAM, IN A SANDBOX (cutbox-door.mjs). By AI agents, Wed Nov 11 2026. No macro, syntax, notation, axiom, sorry.
-/
import Derived.Test.YtmmippdommemmacDoorRows
import GoSem.ClaimSeven
namespace Go.Proofs.YtmmippdommemmacDoor
namespace Rows

/-- THE TIED CARD OF 'laws.FnAddrReads'. -/
def fnAddrReadsCard : Claim7 := { stood := { row := fnAddrReadsRow, standIns := [], harness := (true, "a1e402f33b67107651a343f0875f348fb0dea5286ce796449eccf27448e31c85"), looks := false }, kinds := [], alts := [], laidByText := true, laidKinds := [.data, .data, .data, .data, .pinned], laidTests := true, laidLooks := .later }
def FnAddrReadsCardSaid : Prop := Claim7.holds Tryd.pinned (.plain (OpenSpec.ofChange fnAddrReadsSpec)) fnAddrReadsCard

/-- THE SECOND FORM's CARD OF 'laws.FnAddrReads'. -/
def fnAddrReadsUptoCard : Claim7 := { stood := { row := fnAddrReadsUptoRow, standIns := [], harness := (true, "a1e402f33b67107651a343f0875f348fb0dea5286ce796449eccf27448e31c85"), looks := false }, kinds := [], alts := [], laidByText := true, laidKinds := [.data, .data, .data, .data, .pinned], laidTests := true, laidLooks := .later }
def FnAddrReadsUptoCardSaid : Prop := Claim7.holds Tryd.pinned (.plain (OpenSpec.upto fnAddrReadsSpec)) fnAddrReadsUptoCard
end Rows
end Go.Proofs.YtmmippdommemmacDoor
