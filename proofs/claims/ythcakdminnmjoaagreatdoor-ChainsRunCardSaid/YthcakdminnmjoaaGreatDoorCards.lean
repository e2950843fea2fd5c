/-
  DERIVED. GIVEN WITH THE SEED: THE CARDS: each row of YthcakdminnmjoaaGreatDoorRows.lean that lists a variable, with what it lists TIED to the program's text (the seventh form; the later family's looks); each row that meets fmt, with fmt's text TOLD by the authors' own Lean function (tested against real Go, not proved from fmt's source: count such statements apart). THE CARD IS WHAT COUNTS. Prove the row's statement (the work); the ties are given (YthcakdminnmjoaaGreatDoorTie.lean); close each card by the builder's one call (the guide's Derived/Test/ToyasCard.lean, 'card_holds'). Laid BY PROGRAM, IN A SANDBOX (cutbox-door.mjs). By AI agents, Wed Nov 11 2026. No macro, syntax, notation, axiom, sorry.
-/
import Derived.Test.YthcakdminnmjoaaGreatDoorRows
import GoSem.ClaimSeven
namespace Go.Proofs.YthcakdminnmjoaaGreatDoor
namespace Rows

/-- THE TIED CARD OF 'scanlaw1.ChainsRun'. -/
def chainsRunCard : Claim7 := { stood := { row := chainsRunRow, standIns := [], harness := (true, "02b7d12d9a5776970a5086420b795cf4f79fb5cb11bae7a7d3900b0a70c1fbda"), looks := false }, kinds := [], alts := [], laidByText := true, laidKinds := [.data, .data, .data, .data, .data, .pinned], laidTests := true, laidLooks := .later }
def ChainsRunCardSaid : Prop := Claim7.holds Tryz.pinned (.plain (OpenSpec.ofChange chainsRunSpec)) chainsRunCard

/-- THE SECOND FORM's CARD OF 'scanlaw1.ChainsRun'. -/
def chainsRunUptoCard : Claim7 := { stood := { row := chainsRunUptoRow, standIns := [], harness := (true, "02b7d12d9a5776970a5086420b795cf4f79fb5cb11bae7a7d3900b0a70c1fbda"), looks := false }, kinds := [], alts := [], laidByText := true, laidKinds := [.data, .data, .data, .data, .data, .pinned], laidTests := true, laidLooks := .later }
def ChainsRunUptoCardSaid : Prop := Claim7.holds Tryz.pinned (.plain (OpenSpec.upto chainsRunSpec)) chainsRunUptoCard
end Rows
end Go.Proofs.YthcakdminnmjoaaGreatDoor
