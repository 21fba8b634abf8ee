/-
  DERIVED. GIVEN WITH THE SEED: THE CARDS: each row of YtogmmilfdolpnalDoorRows.lean that lists a variable, with what it lists TIED to the program's text (the seventh form; the later family's looks); each row that meets fmt, with fmt's text TOLD by the authors' own Lean function (tested against real Go, not proved from fmt's source: count such statements apart). THE CARD IS WHAT COUNTS. Prove the row's statement (the work); the ties are given (YtogmmilfdolpnalDoorTie.lean); close each card by the builder's one call (the guide's Derived/Test/ToyasCard.lean, 'card_holds'). Laid BY PROGRAM, IN A SANDBOX (cutbox-door.mjs). By AI agents, Wed Nov 11 2026. No macro, syntax, notation, axiom, sorry.
-/
import Derived.Test.YtogmmilfdolpnalDoorRows
import GoSem.ClaimSeven
namespace Go.Proofs.YtogmmilfdolpnalDoor
namespace Rows

/-- THE TIED CARD OF 'laws.FnExactMask'. -/
def fnExactMaskCard : Claim7 := { stood := { row := fnExactMaskRow, standIns := [], harness := (true, "7b7315692de1240dec052725b2d22686a7c039b05659bb004c27d04fc48ff18f"), looks := true }, kinds := [], alts := [], laidByText := true, laidKinds := [.data], laidTests := true, laidLooks := .later }
def FnExactMaskCardSaid : Prop := Claim7.holds Tryd.pinned (.plain (OpenSpec.ofChange fnExactMaskSpec)) fnExactMaskCard

/-- THE TIED CARD OF 'laws.FnExactLockText'. -/
def fnExactLockTextCard : Claim7 := { stood := { row := fnExactLockTextRow, standIns := [], harness := (true, "7b7315692de1240dec052725b2d22686a7c039b05659bb004c27d04fc48ff18f"), looks := true }, kinds := [], alts := [], laidByText := true, laidKinds := [.data], laidTests := true, laidLooks := .later }
def FnExactLockTextCardSaid : Prop := Claim7.holds Tryd.pinned (.plain (OpenSpec.ofChange fnExactLockTextSpec)) fnExactLockTextCard

/-- THE TIED CARD OF 'laws.FnExactOpenText'. -/
def fnExactOpenTextCard : Claim7 := { stood := { row := fnExactOpenTextRow, standIns := [], harness := (true, "7b7315692de1240dec052725b2d22686a7c039b05659bb004c27d04fc48ff18f"), looks := true }, kinds := [], alts := [], laidByText := true, laidKinds := [.data], laidTests := true, laidLooks := .later }
def FnExactOpenTextCardSaid : Prop := Claim7.holds Tryd.pinned (.plain (OpenSpec.ofChange fnExactOpenTextSpec)) fnExactOpenTextCard

/-- THE TIED CARD OF 'laws.FnExactSecretOf'. -/
def fnExactSecretOfCard : Claim7 := { stood := { row := fnExactSecretOfRow, standIns := [], harness := (true, "7b7315692de1240dec052725b2d22686a7c039b05659bb004c27d04fc48ff18f"), looks := true }, kinds := [], alts := [], laidByText := true, laidKinds := [.data], laidTests := true, laidLooks := .later }
def FnExactSecretOfCardSaid : Prop := Claim7.holds Tryd.pinned (.plain (OpenSpec.ofChange fnExactSecretOfSpec)) fnExactSecretOfCard

/-- THE TIED CARD OF 'laws.FnExactChallenge'. -/
def fnExactChallengeCard : Claim7 := { stood := { row := fnExactChallengeRow, standIns := [], harness := (true, "7b7315692de1240dec052725b2d22686a7c039b05659bb004c27d04fc48ff18f"), looks := true }, kinds := [], alts := [], laidByText := true, laidKinds := [.data], laidTests := true, laidLooks := .later }
def FnExactChallengeCardSaid : Prop := Claim7.holds Tryd.pinned (.plain (OpenSpec.ofChange fnExactChallengeSpec)) fnExactChallengeCard

/-- THE SECOND FORM's CARD OF 'laws.FnExactMask'. -/
def fnExactMaskUptoCard : Claim7 := { stood := { row := fnExactMaskUptoRow, standIns := [], harness := (true, "7b7315692de1240dec052725b2d22686a7c039b05659bb004c27d04fc48ff18f"), looks := true }, kinds := [], alts := [], laidByText := true, laidKinds := [.data], laidTests := true, laidLooks := .later }
def FnExactMaskUptoCardSaid : Prop := Claim7.holds Tryd.pinned (.plain (OpenSpec.upto fnExactMaskSpec)) fnExactMaskUptoCard

/-- THE SECOND FORM's CARD OF 'laws.FnExactLockText'. -/
def fnExactLockTextUptoCard : Claim7 := { stood := { row := fnExactLockTextUptoRow, standIns := [], harness := (true, "7b7315692de1240dec052725b2d22686a7c039b05659bb004c27d04fc48ff18f"), looks := true }, kinds := [], alts := [], laidByText := true, laidKinds := [.data], laidTests := true, laidLooks := .later }
def FnExactLockTextUptoCardSaid : Prop := Claim7.holds Tryd.pinned (.plain (OpenSpec.upto fnExactLockTextSpec)) fnExactLockTextUptoCard

/-- THE SECOND FORM's CARD OF 'laws.FnExactOpenText'. -/
def fnExactOpenTextUptoCard : Claim7 := { stood := { row := fnExactOpenTextUptoRow, standIns := [], harness := (true, "7b7315692de1240dec052725b2d22686a7c039b05659bb004c27d04fc48ff18f"), looks := true }, kinds := [], alts := [], laidByText := true, laidKinds := [.data], laidTests := true, laidLooks := .later }
def FnExactOpenTextUptoCardSaid : Prop := Claim7.holds Tryd.pinned (.plain (OpenSpec.upto fnExactOpenTextSpec)) fnExactOpenTextUptoCard

/-- THE SECOND FORM's CARD OF 'laws.FnExactSecretOf'. -/
def fnExactSecretOfUptoCard : Claim7 := { stood := { row := fnExactSecretOfUptoRow, standIns := [], harness := (true, "7b7315692de1240dec052725b2d22686a7c039b05659bb004c27d04fc48ff18f"), looks := true }, kinds := [], alts := [], laidByText := true, laidKinds := [.data], laidTests := true, laidLooks := .later }
def FnExactSecretOfUptoCardSaid : Prop := Claim7.holds Tryd.pinned (.plain (OpenSpec.upto fnExactSecretOfSpec)) fnExactSecretOfUptoCard

/-- THE SECOND FORM's CARD OF 'laws.FnExactChallenge'. -/
def fnExactChallengeUptoCard : Claim7 := { stood := { row := fnExactChallengeUptoRow, standIns := [], harness := (true, "7b7315692de1240dec052725b2d22686a7c039b05659bb004c27d04fc48ff18f"), looks := true }, kinds := [], alts := [], laidByText := true, laidKinds := [.data], laidTests := true, laidLooks := .later }
def FnExactChallengeUptoCardSaid : Prop := Claim7.holds Tryd.pinned (.plain (OpenSpec.upto fnExactChallengeSpec)) fnExactChallengeUptoCard
end Rows
end Go.Proofs.YtogmmilfdolpnalDoor
