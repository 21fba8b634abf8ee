/-
  DERIVED. GIVEN WITH THE SEED: THE CARDS: each row of YtogmmilfdolpnaaDoorRows.lean that lists a variable, with what it lists TIED to the program's text (the seventh form; the later family's looks); each row that meets fmt, with fmt's text TOLD by the authors' own Lean function (tested against real Go, not proved from fmt's source: count such statements apart). THE CARD IS WHAT COUNTS. Prove the row's statement (the work); the ties are given (YtogmmilfdolpnaaDoorTie.lean); close each card by the builder's one call (the guide's Derived/Test/ToyasCard.lean, 'card_holds'). Laid BY PROGRAM, IN A SANDBOX (cutbox-door.mjs). By AI agents, Wed Nov 11 2026. No macro, syntax, notation, axiom, sorry.
-/
import Derived.Test.YtogmmilfdolpnaaDoorRows
import GoSem.ClaimSeven
namespace Go.Proofs.YtogmmilfdolpnaaDoor
namespace Rows

/-- THE TIED CARD OF 'laws.FnNumbers'. -/
def fnNumbersCard : Claim7 := { stood := { row := fnNumbersRow, standIns := [], harness := (true, "bc0895ca67208ab538f8bff5f24b72e8e27ab89e38ff9b5d26b4657be83ca571"), looks := false }, kinds := [], alts := [], laidByText := true, laidKinds := [.data, .data, .data], laidTests := true, laidLooks := .later }
def FnNumbersCardSaid : Prop := Claim7.holds Tryd.pinned (.plain (OpenSpec.ofChange fnNumbersSpec)) fnNumbersCard

/-- THE TIED CARD OF 'laws.FnTurned'. -/
def fnTurnedCard : Claim7 := { stood := { row := fnTurnedRow, standIns := [], harness := (true, "bc0895ca67208ab538f8bff5f24b72e8e27ab89e38ff9b5d26b4657be83ca571"), looks := false }, kinds := [], alts := [], laidByText := true, laidKinds := [.data], laidTests := true, laidLooks := .later }
def FnTurnedCardSaid : Prop := Claim7.holds Tryd.pinned (.plain (OpenSpec.ofChange fnTurnedSpec)) fnTurnedCard

/-- THE TIED CARD OF 'laws.FnDigests'. -/
def fnDigestsCard : Claim7 := { stood := { row := fnDigestsRow, standIns := [], harness := (true, "bc0895ca67208ab538f8bff5f24b72e8e27ab89e38ff9b5d26b4657be83ca571"), looks := false }, kinds := [], alts := [], laidByText := true, laidKinds := [.data], laidTests := true, laidLooks := .later }
def FnDigestsCardSaid : Prop := Claim7.holds Tryd.pinned (.plain (OpenSpec.ofChange fnDigestsSpec)) fnDigestsCard

/-- THE TIED CARD OF 'laws.FnHashers'. -/
def fnHashersCard : Claim7 := { stood := { row := fnHashersRow, standIns := [], harness := (true, "bc0895ca67208ab538f8bff5f24b72e8e27ab89e38ff9b5d26b4657be83ca571"), looks := false }, kinds := [], alts := [], laidByText := true, laidKinds := [.data], laidTests := true, laidLooks := .later }
def FnHashersCardSaid : Prop := Claim7.holds Tryd.pinned (.plain (OpenSpec.ofChange fnHashersSpec)) fnHashersCard

/-- THE TIED CARD OF 'laws.FnMacs'. -/
def fnMacsCard : Claim7 := { stood := { row := fnMacsRow, standIns := [], harness := (true, "bc0895ca67208ab538f8bff5f24b72e8e27ab89e38ff9b5d26b4657be83ca571"), looks := false }, kinds := [], alts := [], laidByText := true, laidKinds := [.data], laidTests := true, laidLooks := .later }
def FnMacsCardSaid : Prop := Claim7.holds Tryd.pinned (.plain (OpenSpec.ofChange fnMacsSpec)) fnMacsCard

/-- THE SECOND FORM's CARD OF 'laws.FnNumbers'. -/
def fnNumbersUptoCard : Claim7 := { stood := { row := fnNumbersUptoRow, standIns := [], harness := (true, "bc0895ca67208ab538f8bff5f24b72e8e27ab89e38ff9b5d26b4657be83ca571"), looks := false }, kinds := [], alts := [], laidByText := true, laidKinds := [.data, .data, .data], laidTests := true, laidLooks := .later }
def FnNumbersUptoCardSaid : Prop := Claim7.holds Tryd.pinned (.plain (OpenSpec.upto fnNumbersSpec)) fnNumbersUptoCard

/-- THE SECOND FORM's CARD OF 'laws.FnTurned'. -/
def fnTurnedUptoCard : Claim7 := { stood := { row := fnTurnedUptoRow, standIns := [], harness := (true, "bc0895ca67208ab538f8bff5f24b72e8e27ab89e38ff9b5d26b4657be83ca571"), looks := false }, kinds := [], alts := [], laidByText := true, laidKinds := [.data], laidTests := true, laidLooks := .later }
def FnTurnedUptoCardSaid : Prop := Claim7.holds Tryd.pinned (.plain (OpenSpec.upto fnTurnedSpec)) fnTurnedUptoCard

/-- THE SECOND FORM's CARD OF 'laws.FnDigests'. -/
def fnDigestsUptoCard : Claim7 := { stood := { row := fnDigestsUptoRow, standIns := [], harness := (true, "bc0895ca67208ab538f8bff5f24b72e8e27ab89e38ff9b5d26b4657be83ca571"), looks := false }, kinds := [], alts := [], laidByText := true, laidKinds := [.data], laidTests := true, laidLooks := .later }
def FnDigestsUptoCardSaid : Prop := Claim7.holds Tryd.pinned (.plain (OpenSpec.upto fnDigestsSpec)) fnDigestsUptoCard

/-- THE SECOND FORM's CARD OF 'laws.FnHashers'. -/
def fnHashersUptoCard : Claim7 := { stood := { row := fnHashersUptoRow, standIns := [], harness := (true, "bc0895ca67208ab538f8bff5f24b72e8e27ab89e38ff9b5d26b4657be83ca571"), looks := false }, kinds := [], alts := [], laidByText := true, laidKinds := [.data], laidTests := true, laidLooks := .later }
def FnHashersUptoCardSaid : Prop := Claim7.holds Tryd.pinned (.plain (OpenSpec.upto fnHashersSpec)) fnHashersUptoCard

/-- THE SECOND FORM's CARD OF 'laws.FnMacs'. -/
def fnMacsUptoCard : Claim7 := { stood := { row := fnMacsUptoRow, standIns := [], harness := (true, "bc0895ca67208ab538f8bff5f24b72e8e27ab89e38ff9b5d26b4657be83ca571"), looks := false }, kinds := [], alts := [], laidByText := true, laidKinds := [.data], laidTests := true, laidLooks := .later }
def FnMacsUptoCardSaid : Prop := Claim7.holds Tryd.pinned (.plain (OpenSpec.upto fnMacsSpec)) fnMacsUptoCard
end Rows
end Go.Proofs.YtogmmilfdolpnaaDoor
