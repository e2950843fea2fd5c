/-
  DERIVED. GIVEN WITH THE SEED: THE CARDS: each row of YtldilggfmclnlaaGreatDoorRows.lean that lists a variable, with what it lists TIED to the program's text (the seventh form; the later family's looks); each row that meets fmt, with fmt's text TOLD by the authors' own Lean function (tested against real Go, not proved from fmt's source: count such statements apart). THE CARD IS WHAT COUNTS. Prove the row's statement (the work); the ties are given (YtldilggfmclnlaaGreatDoorTie.lean); close each card by the builder's one call (the guide's Derived/Test/ToyasCard.lean, 'card_holds'). Laid BY PROGRAM, IN A SANDBOX (cutbox-door.mjs). By AI agents, Wed Nov 11 2026. No macro, syntax, notation, axiom, sorry.
-/
import Derived.Test.YtldilggfmclnlaaGreatDoorRows
import GoSem.ClaimSeven
namespace Go.Proofs.YtldilggfmclnlaaGreatDoor
namespace Rows

/-- THE TIED CARD OF 'scantop.TopComplementedCovers'. -/
def topComplementedCoversCard : Claim7 := { stood := { row := topComplementedCoversRow, standIns := [], harness := (true, "b604e65c5e72f3d57d06b86a50aec3237b752921820a9f0469797d3139f8a4cf"), looks := false }, kinds := [], alts := [], laidByText := true, laidKinds := [.data, .data, .data, .data, .data, .pinned], laidTests := true, laidLooks := .later }
def TopComplementedCoversCardSaid : Prop := Claim7.holds Tryz.pinned (.plain (OpenSpec.ofChange topComplementedCoversSpec)) topComplementedCoversCard

/-- THE SECOND FORM's CARD OF 'scantop.TopComplementedCovers'. -/
def topComplementedCoversUptoCard : Claim7 := { stood := { row := topComplementedCoversUptoRow, standIns := [], harness := (true, "b604e65c5e72f3d57d06b86a50aec3237b752921820a9f0469797d3139f8a4cf"), looks := false }, kinds := [], alts := [], laidByText := true, laidKinds := [.data, .data, .data, .data, .data, .pinned], laidTests := true, laidLooks := .later }
def TopComplementedCoversUptoCardSaid : Prop := Claim7.holds Tryz.pinned (.plain (OpenSpec.upto topComplementedCoversSpec)) topComplementedCoversUptoCard
end Rows
end Go.Proofs.YtldilggfmclnlaaGreatDoor
