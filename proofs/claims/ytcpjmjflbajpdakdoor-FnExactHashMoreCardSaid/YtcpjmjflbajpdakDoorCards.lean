/-
  DERIVED. GIVEN WITH THE SEED: THE CARDS: each row of YtcpjmjflbajpdakDoorRows.lean that lists a variable, with what it lists TIED to the program's text (the seventh form; the later family's looks); each row that meets fmt, with fmt's text TOLD by the authors' own Lean function (tested against real Go, not proved from fmt's source: count such statements apart). THE CARD IS WHAT COUNTS. Prove the row's statement (the work); the ties are given (YtcpjmjflbajpdakDoorTie.lean); close each card by the builder's one call (the guide's Derived/Test/ToyasCard.lean, 'card_holds'). Laid BY PROGRAM, IN A SANDBOX (cutbox-door.mjs). By AI agents, Wed Nov 11 2026. No macro, syntax, notation, axiom, sorry.
-/
import Derived.Test.YtcpjmjflbajpdakDoorRows
import GoSem.ClaimSeven
namespace Go.Proofs.YtcpjmjflbajpdakDoor
namespace Rows

/-- THE TIED CARD OF 'laws.FnExactHashMore'. -/
def fnExactHashMoreCard : Claim7 := { stood := { row := fnExactHashMoreRow, standIns := [], harness := (true, "8192b3d0c7ce96986116e6d945b57b5971e1abdab516a7875a4cd10553aa3437"), looks := false }, kinds := [], alts := [], laidByText := true, laidKinds := [.data], laidTests := true, laidLooks := .later }
def FnExactHashMoreCardSaid : Prop := Claim7.holds Tryd.pinned (.plain (OpenSpec.ofChange fnExactHashMoreSpec)) fnExactHashMoreCard

/-- THE TIED CARD OF 'laws.FnExactHashEnd'. -/
def fnExactHashEndCard : Claim7 := { stood := { row := fnExactHashEndRow, standIns := [], harness := (true, "8192b3d0c7ce96986116e6d945b57b5971e1abdab516a7875a4cd10553aa3437"), looks := false }, kinds := [], alts := [], laidByText := true, laidKinds := [.data], laidTests := true, laidLooks := .later }
def FnExactHashEndCardSaid : Prop := Claim7.holds Tryd.pinned (.plain (OpenSpec.ofChange fnExactHashEndSpec)) fnExactHashEndCard

/-- THE SECOND FORM's CARD OF 'laws.FnExactHashMore'. -/
def fnExactHashMoreUptoCard : Claim7 := { stood := { row := fnExactHashMoreUptoRow, standIns := [], harness := (true, "8192b3d0c7ce96986116e6d945b57b5971e1abdab516a7875a4cd10553aa3437"), looks := false }, kinds := [], alts := [], laidByText := true, laidKinds := [.data], laidTests := true, laidLooks := .later }
def FnExactHashMoreUptoCardSaid : Prop := Claim7.holds Tryd.pinned (.plain (OpenSpec.upto fnExactHashMoreSpec)) fnExactHashMoreUptoCard

/-- THE SECOND FORM's CARD OF 'laws.FnExactHashEnd'. -/
def fnExactHashEndUptoCard : Claim7 := { stood := { row := fnExactHashEndUptoRow, standIns := [], harness := (true, "8192b3d0c7ce96986116e6d945b57b5971e1abdab516a7875a4cd10553aa3437"), looks := false }, kinds := [], alts := [], laidByText := true, laidKinds := [.data], laidTests := true, laidLooks := .later }
def FnExactHashEndUptoCardSaid : Prop := Claim7.holds Tryd.pinned (.plain (OpenSpec.upto fnExactHashEndSpec)) fnExactHashEndUptoCard
end Rows
end Go.Proofs.YtcpjmjflbajpdakDoor
