/-
  DERIVED. GIVEN WITH THE SEED: THE CARDS: each row of YtoipgliokelcfaaGreatDoorRows.lean that lists a variable, with what it lists TIED to the program's text (the seventh form; the later family's looks); each row that meets fmt, with fmt's text TOLD by the authors' own Lean function (tested against real Go, not proved from fmt's source: count such statements apart). THE CARD IS WHAT COUNTS. Prove the row's statement (the work); the ties are given (YtoipgliokelcfaaGreatDoorTie.lean); close each card by the builder's one call (the guide's Derived/Test/ToyasCard.lean, 'card_holds'). Laid BY PROGRAM, IN A SANDBOX (cutbox-door.mjs). By AI agents, Wed Nov 11 2026. No macro, syntax, notation, axiom, sorry.
-/
import Derived.Test.YtoipgliokelcfaaGreatDoorRows
import GoSem.ClaimSeven
namespace Go.Proofs.YtoipgliokelcfaaGreatDoor
namespace Rows

/-- THE TIED CARD OF 'scankeep1.FiveOnesReset'. -/
def fiveOnesResetCard : Claim7 := { stood := { row := fiveOnesResetRow, standIns := [], harness := (true, "b1c5051e993d443fbe3b176a6cb5179740c54dfe3964b607b3563ea40cd9e6c5"), looks := false }, kinds := [], alts := [], laidByText := true, laidKinds := [.data, .data, .data, .data, .data, .pinned], laidTests := true, laidLooks := .later }
def FiveOnesResetCardSaid : Prop := Claim7.holds Tryz.pinned (.plain (OpenSpec.ofChange fiveOnesResetSpec)) fiveOnesResetCard

/-- THE TIED CARD OF 'scankeep1.GeneratedMeet'. -/
def generatedMeetCard : Claim7 := { stood := { row := generatedMeetRow, standIns := [], harness := (true, "b1c5051e993d443fbe3b176a6cb5179740c54dfe3964b607b3563ea40cd9e6c5"), looks := false }, kinds := [], alts := [], laidByText := true, laidKinds := [.data, .data, .data, .data, .data, .pinned], laidTests := true, laidLooks := .later }
def GeneratedMeetCardSaid : Prop := Claim7.holds Tryz.pinned (.plain (OpenSpec.ofChange generatedMeetSpec)) generatedMeetCard

/-- THE TIED CARD OF 'scankeep1.SequencesComeBack'. -/
def sequencesComeBackCard : Claim7 := { stood := { row := sequencesComeBackRow, standIns := [], harness := (true, "b1c5051e993d443fbe3b176a6cb5179740c54dfe3964b607b3563ea40cd9e6c5"), looks := false }, kinds := [], alts := [], laidByText := true, laidKinds := [.data, .data, .data, .data, .data, .pinned], laidTests := true, laidLooks := .later }
def SequencesComeBackCardSaid : Prop := Claim7.holds Tryz.pinned (.plain (OpenSpec.ofChange sequencesComeBackSpec)) sequencesComeBackCard

/-- THE TIED CARD OF 'scankeep1.FewerDoNotMeet'. -/
def fewerDoNotMeetCard : Claim7 := { stood := { row := fewerDoNotMeetRow, standIns := [], harness := (true, "b1c5051e993d443fbe3b176a6cb5179740c54dfe3964b607b3563ea40cd9e6c5"), looks := false }, kinds := [], alts := [], laidByText := true, laidKinds := [.data, .data, .data, .data, .data, .pinned], laidTests := true, laidLooks := .later }
def FewerDoNotMeetCardSaid : Prop := Claim7.holds Tryz.pinned (.plain (OpenSpec.ofChange fewerDoNotMeetSpec)) fewerDoNotMeetCard

/-- THE SECOND FORM's CARD OF 'scankeep1.FiveOnesReset'. -/
def fiveOnesResetUptoCard : Claim7 := { stood := { row := fiveOnesResetUptoRow, standIns := [], harness := (true, "b1c5051e993d443fbe3b176a6cb5179740c54dfe3964b607b3563ea40cd9e6c5"), looks := false }, kinds := [], alts := [], laidByText := true, laidKinds := [.data, .data, .data, .data, .data, .pinned], laidTests := true, laidLooks := .later }
def FiveOnesResetUptoCardSaid : Prop := Claim7.holds Tryz.pinned (.plain (OpenSpec.upto fiveOnesResetSpec)) fiveOnesResetUptoCard

/-- THE SECOND FORM's CARD OF 'scankeep1.GeneratedMeet'. -/
def generatedMeetUptoCard : Claim7 := { stood := { row := generatedMeetUptoRow, standIns := [], harness := (true, "b1c5051e993d443fbe3b176a6cb5179740c54dfe3964b607b3563ea40cd9e6c5"), looks := false }, kinds := [], alts := [], laidByText := true, laidKinds := [.data, .data, .data, .data, .data, .pinned], laidTests := true, laidLooks := .later }
def GeneratedMeetUptoCardSaid : Prop := Claim7.holds Tryz.pinned (.plain (OpenSpec.upto generatedMeetSpec)) generatedMeetUptoCard

/-- THE SECOND FORM's CARD OF 'scankeep1.SequencesComeBack'. -/
def sequencesComeBackUptoCard : Claim7 := { stood := { row := sequencesComeBackUptoRow, standIns := [], harness := (true, "b1c5051e993d443fbe3b176a6cb5179740c54dfe3964b607b3563ea40cd9e6c5"), looks := false }, kinds := [], alts := [], laidByText := true, laidKinds := [.data, .data, .data, .data, .data, .pinned], laidTests := true, laidLooks := .later }
def SequencesComeBackUptoCardSaid : Prop := Claim7.holds Tryz.pinned (.plain (OpenSpec.upto sequencesComeBackSpec)) sequencesComeBackUptoCard

/-- THE SECOND FORM's CARD OF 'scankeep1.FewerDoNotMeet'. -/
def fewerDoNotMeetUptoCard : Claim7 := { stood := { row := fewerDoNotMeetUptoRow, standIns := [], harness := (true, "b1c5051e993d443fbe3b176a6cb5179740c54dfe3964b607b3563ea40cd9e6c5"), looks := false }, kinds := [], alts := [], laidByText := true, laidKinds := [.data, .data, .data, .data, .data, .pinned], laidTests := true, laidLooks := .later }
def FewerDoNotMeetUptoCardSaid : Prop := Claim7.holds Tryz.pinned (.plain (OpenSpec.upto fewerDoNotMeetSpec)) fewerDoNotMeetUptoCard
end Rows
end Go.Proofs.YtoipgliokelcfaaGreatDoor
