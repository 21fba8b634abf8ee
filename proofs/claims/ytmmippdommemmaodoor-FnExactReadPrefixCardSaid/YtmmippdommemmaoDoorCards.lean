/-
  DERIVED. GIVEN WITH THE SEED: THE CARDS: each row of YtmmippdommemmaoDoorRows.lean that lists a variable, with what it lists TIED to the program's text (the seventh form; the later family's looks); each row that meets fmt, with fmt's text TOLD by the authors' own Lean function (tested against real Go, not proved from fmt's source: count such statements apart). THE CARD IS WHAT COUNTS. Prove the row's statement (the work); the ties are given (YtmmippdommemmaoDoorTie.lean); close each card by the builder's one call (the guide's Derived/Test/ToyasCard.lean, 'card_holds'). Laid BY PROGRAM, IN A SANDBOX (cutbox-door.mjs). By AI agents, Wed Nov 11 2026. No macro, syntax, notation, axiom, sorry.
-/
import Derived.Test.YtmmippdommemmaoDoorRows
import GoSem.ClaimSeven
namespace Go.Proofs.YtmmippdommemmaoDoor
namespace Rows

/-- THE TIED CARD OF 'laws.FnExactReadPrefix'. -/
def fnExactReadPrefixCard : Claim7 := { stood := { row := fnExactReadPrefixRow, standIns := [], harness := (true, "ba2746319fcf67eded53330c7abc99328941419611f5bb5bd855ce7555afec13"), looks := false }, kinds := [], alts := [], laidByText := true, laidKinds := [.data, .data, .data, .data, .pinned], laidTests := true, laidLooks := .later }
def FnExactReadPrefixCardSaid : Prop := Claim7.holds Tryd.pinned (.plain (OpenSpec.ofChange fnExactReadPrefixSpec)) fnExactReadPrefixCard

/-- THE SECOND FORM's CARD OF 'laws.FnExactReadPrefix'. -/
def fnExactReadPrefixUptoCard : Claim7 := { stood := { row := fnExactReadPrefixUptoRow, standIns := [], harness := (true, "ba2746319fcf67eded53330c7abc99328941419611f5bb5bd855ce7555afec13"), looks := false }, kinds := [], alts := [], laidByText := true, laidKinds := [.data, .data, .data, .data, .pinned], laidTests := true, laidLooks := .later }
def FnExactReadPrefixUptoCardSaid : Prop := Claim7.holds Tryd.pinned (.plain (OpenSpec.upto fnExactReadPrefixSpec)) fnExactReadPrefixUptoCard
end Rows
end Go.Proofs.YtmmippdommemmaoDoor
