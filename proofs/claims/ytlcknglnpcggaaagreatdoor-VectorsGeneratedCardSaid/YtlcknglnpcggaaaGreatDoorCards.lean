/-
  DERIVED. GIVEN WITH THE SEED: THE CARDS: each row of YtlcknglnpcggaaaGreatDoorRows.lean that lists a variable, with what it lists TIED to the program's text (the seventh form; the later family's looks); each row that meets fmt, with fmt's text TOLD by the authors' own Lean function (tested against real Go, not proved from fmt's source: count such statements apart). THE CARD IS WHAT COUNTS. Prove the row's statement (the work); the ties are given (YtlcknglnpcggaaaGreatDoorTie.lean); close each card by the builder's one call (the guide's Derived/Test/ToyasCard.lean, 'card_holds'). Laid BY PROGRAM, IN A SANDBOX (cutbox-door.mjs). By AI agents, Wed Nov 11 2026. No macro, syntax, notation, axiom, sorry.
-/
import Derived.Test.YtlcknglnpcggaaaGreatDoorRows
import GoSem.ClaimSeven
namespace Go.Proofs.YtlcknglnpcggaaaGreatDoor
namespace Rows

/-- THE TIED CARD OF 'scanlaw1.VectorsGenerated'. -/
def vectorsGeneratedCard : Claim7 := { stood := { row := vectorsGeneratedRow, standIns := [], harness := (true, "2a8878e56d7487d964cb8a6adb5bec487c4c9a07edcf7cd8374497881c4bcaa2"), looks := false }, kinds := [], alts := [], laidByText := true, laidKinds := [.data, .data, .data, .data, .pinned], laidTests := true, laidLooks := .later }
def VectorsGeneratedCardSaid : Prop := Claim7.holds Tryz.pinned (.plain (OpenSpec.ofChange vectorsGeneratedSpec)) vectorsGeneratedCard

/-- THE SECOND FORM's CARD OF 'scanlaw1.VectorsGenerated'. -/
def vectorsGeneratedUptoCard : Claim7 := { stood := { row := vectorsGeneratedUptoRow, standIns := [], harness := (true, "2a8878e56d7487d964cb8a6adb5bec487c4c9a07edcf7cd8374497881c4bcaa2"), looks := false }, kinds := [], alts := [], laidByText := true, laidKinds := [.data, .data, .data, .data, .pinned], laidTests := true, laidLooks := .later }
def VectorsGeneratedUptoCardSaid : Prop := Claim7.holds Tryz.pinned (.plain (OpenSpec.upto vectorsGeneratedSpec)) vectorsGeneratedUptoCard
end Rows
end Go.Proofs.YtlcknglnpcggaaaGreatDoor
