/-
  DERIVED. GIVEN WITH THE SEED: THE CARDS: each row of YtmgccncdbkbcpaiDoorRows.lean that lists a variable, with what it lists TIED to the program's text (the seventh form; the later family's looks); each row that meets fmt, with fmt's text TOLD by the authors' own Lean function (tested against real Go, not proved from fmt's source: count such statements apart). THE CARD IS WHAT COUNTS. Prove the row's statement (the work); the ties are given (YtmgccncdbkbcpaiDoorTie.lean); close each card by the builder's one call (the guide's Derived/Test/ToyasCard.lean, 'card_holds'). Laid BY PROGRAM, IN A SANDBOX (cutbox-door.mjs). By AI agents, Wed Nov 11 2026. No macro, syntax, notation, axiom, sorry.
-/
import Derived.Test.YtmgccncdbkbcpaiDoorRows
import GoSem.ClaimSeven
namespace Go.Proofs.YtmgccncdbkbcpaiDoor
namespace Rows

/-- THE TIED CARD OF 'laws.FnExactPartsOf'. -/
def fnExactPartsOfCard : Claim7 := { stood := { row := fnExactPartsOfRow, standIns := [], harness := (true, "7de54e50209be83ceb6faa30bd8356f295ab127c7142f57673b45b390f38d52a"), looks := false }, kinds := [], alts := [], laidByText := true, laidKinds := [.listed, .data], laidTests := true, laidLooks := .later }
def FnExactPartsOfCardSaid : Prop := Claim7.holds Tryd.pinned (.plain (OpenSpec.ofChange fnExactPartsOfSpec)) fnExactPartsOfCard

/-- THE TIED CARD OF 'laws.FnExactSumMore'. -/
def fnExactSumMoreCard : Claim7 := { stood := { row := fnExactSumMoreRow, standIns := [], harness := (true, "7de54e50209be83ceb6faa30bd8356f295ab127c7142f57673b45b390f38d52a"), looks := false }, kinds := [], alts := [], laidByText := true, laidKinds := [.data], laidTests := true, laidLooks := .later }
def FnExactSumMoreCardSaid : Prop := Claim7.holds Tryd.pinned (.plain (OpenSpec.ofChange fnExactSumMoreSpec)) fnExactSumMoreCard

/-- THE TIED CARD OF 'laws.FnExactSumOf'. -/
def fnExactSumOfCard : Claim7 := { stood := { row := fnExactSumOfRow, standIns := [], harness := (true, "7de54e50209be83ceb6faa30bd8356f295ab127c7142f57673b45b390f38d52a"), looks := false }, kinds := [], alts := [], laidByText := true, laidKinds := [.data], laidTests := true, laidLooks := .later }
def FnExactSumOfCardSaid : Prop := Claim7.holds Tryd.pinned (.plain (OpenSpec.ofChange fnExactSumOfSpec)) fnExactSumOfCard

/-- THE TIED CARD OF 'laws.FnExactSealed'. -/
def fnExactSealedCard : Claim7 := { stood := { row := fnExactSealedRow, standIns := [], harness := (true, "7de54e50209be83ceb6faa30bd8356f295ab127c7142f57673b45b390f38d52a"), looks := false }, kinds := [], alts := [], laidByText := true, laidKinds := [.data], laidTests := true, laidLooks := .later }
def FnExactSealedCardSaid : Prop := Claim7.holds Tryd.pinned (.plain (OpenSpec.ofChange fnExactSealedSpec)) fnExactSealedCard

/-- THE TIED CARD OF 'laws.FnExactUnsealed'. -/
def fnExactUnsealedCard : Claim7 := { stood := { row := fnExactUnsealedRow, standIns := [], harness := (true, "7de54e50209be83ceb6faa30bd8356f295ab127c7142f57673b45b390f38d52a"), looks := false }, kinds := [], alts := [], laidByText := true, laidKinds := [.data], laidTests := true, laidLooks := .later }
def FnExactUnsealedCardSaid : Prop := Claim7.holds Tryd.pinned (.plain (OpenSpec.ofChange fnExactUnsealedSpec)) fnExactUnsealedCard

/-- THE SECOND FORM's CARD OF 'laws.FnExactPartsOf'. -/
def fnExactPartsOfUptoCard : Claim7 := { stood := { row := fnExactPartsOfUptoRow, standIns := [], harness := (true, "7de54e50209be83ceb6faa30bd8356f295ab127c7142f57673b45b390f38d52a"), looks := false }, kinds := [], alts := [], laidByText := true, laidKinds := [.listed, .data], laidTests := true, laidLooks := .later }
def FnExactPartsOfUptoCardSaid : Prop := Claim7.holds Tryd.pinned (.plain (OpenSpec.upto fnExactPartsOfSpec)) fnExactPartsOfUptoCard

/-- THE SECOND FORM's CARD OF 'laws.FnExactSumMore'. -/
def fnExactSumMoreUptoCard : Claim7 := { stood := { row := fnExactSumMoreUptoRow, standIns := [], harness := (true, "7de54e50209be83ceb6faa30bd8356f295ab127c7142f57673b45b390f38d52a"), looks := false }, kinds := [], alts := [], laidByText := true, laidKinds := [.data], laidTests := true, laidLooks := .later }
def FnExactSumMoreUptoCardSaid : Prop := Claim7.holds Tryd.pinned (.plain (OpenSpec.upto fnExactSumMoreSpec)) fnExactSumMoreUptoCard

/-- THE SECOND FORM's CARD OF 'laws.FnExactSumOf'. -/
def fnExactSumOfUptoCard : Claim7 := { stood := { row := fnExactSumOfUptoRow, standIns := [], harness := (true, "7de54e50209be83ceb6faa30bd8356f295ab127c7142f57673b45b390f38d52a"), looks := false }, kinds := [], alts := [], laidByText := true, laidKinds := [.data], laidTests := true, laidLooks := .later }
def FnExactSumOfUptoCardSaid : Prop := Claim7.holds Tryd.pinned (.plain (OpenSpec.upto fnExactSumOfSpec)) fnExactSumOfUptoCard

/-- THE SECOND FORM's CARD OF 'laws.FnExactSealed'. -/
def fnExactSealedUptoCard : Claim7 := { stood := { row := fnExactSealedUptoRow, standIns := [], harness := (true, "7de54e50209be83ceb6faa30bd8356f295ab127c7142f57673b45b390f38d52a"), looks := false }, kinds := [], alts := [], laidByText := true, laidKinds := [.data], laidTests := true, laidLooks := .later }
def FnExactSealedUptoCardSaid : Prop := Claim7.holds Tryd.pinned (.plain (OpenSpec.upto fnExactSealedSpec)) fnExactSealedUptoCard

/-- THE SECOND FORM's CARD OF 'laws.FnExactUnsealed'. -/
def fnExactUnsealedUptoCard : Claim7 := { stood := { row := fnExactUnsealedUptoRow, standIns := [], harness := (true, "7de54e50209be83ceb6faa30bd8356f295ab127c7142f57673b45b390f38d52a"), looks := false }, kinds := [], alts := [], laidByText := true, laidKinds := [.data], laidTests := true, laidLooks := .later }
def FnExactUnsealedUptoCardSaid : Prop := Claim7.holds Tryd.pinned (.plain (OpenSpec.upto fnExactUnsealedSpec)) fnExactUnsealedUptoCard
end Rows
end Go.Proofs.YtmgccncdbkbcpaiDoor
