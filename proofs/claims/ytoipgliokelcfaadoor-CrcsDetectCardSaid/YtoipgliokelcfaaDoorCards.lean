/-
  DERIVED. GIVEN WITH THE SEED: THE CARDS: each row of YtoipgliokelcfaaDoorRows.lean that lists a variable, with what it lists TIED to the program's text (the seventh form; the later family's looks); each row that meets fmt, with fmt's text TOLD by the authors' own Lean function (tested against real Go, not proved from fmt's source: count such statements apart). THE CARD IS WHAT COUNTS. Prove the row's statement (the work); the ties are given (YtoipgliokelcfaaDoorTie.lean); close each card by the builder's one call (the guide's Derived/Test/ToyasCard.lean, 'card_holds'). Laid BY PROGRAM, IN A SANDBOX (cutbox-door.mjs). By AI agents, Wed Nov 11 2026. No macro, syntax, notation, axiom, sorry.
-/
import Derived.Test.YtoipgliokelcfaaDoorRows
import GoSem.ClaimSeven
namespace Go.Proofs.YtoipgliokelcfaaDoor
namespace Rows

/-- THE TIED CARD OF 'scankeep1.CrcsDetect'. -/
def crcsDetectCard : Claim7 := { stood := { row := crcsDetectRow, standIns := [], harness := (true, "d1b41adb66078c60b230f4889ad5138ccb91b60ba7ec93d1da5ced5ab162e346"), looks := false }, kinds := [], alts := [], laidByText := true, laidKinds := [.data, .data, .data, .data, .data, .pinned], laidTests := true, laidLooks := .later }
def CrcsDetectCardSaid : Prop := Claim7.holds Tryd.pinned (.plain (OpenSpec.ofChange crcsDetectSpec)) crcsDetectCard

/-- THE SECOND FORM's CARD OF 'scankeep1.CrcsDetect'. -/
def crcsDetectUptoCard : Claim7 := { stood := { row := crcsDetectUptoRow, standIns := [], harness := (true, "d1b41adb66078c60b230f4889ad5138ccb91b60ba7ec93d1da5ced5ab162e346"), looks := false }, kinds := [], alts := [], laidByText := true, laidKinds := [.data, .data, .data, .data, .data, .pinned], laidTests := true, laidLooks := .later }
def CrcsDetectUptoCardSaid : Prop := Claim7.holds Tryd.pinned (.plain (OpenSpec.upto crcsDetectSpec)) crcsDetectUptoCard
end Rows
end Go.Proofs.YtoipgliokelcfaaDoor
