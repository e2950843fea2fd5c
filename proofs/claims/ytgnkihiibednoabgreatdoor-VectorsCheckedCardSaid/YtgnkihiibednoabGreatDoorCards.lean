/-
  DERIVED. GIVEN WITH THE SEED: THE CARDS: each row of YtgnkihiibednoabGreatDoorRows.lean that lists a variable, with what it lists TIED to the program's text (the seventh form; the later family's looks); each row that meets fmt, with fmt's text TOLD by the authors' own Lean function (tested against real Go, not proved from fmt's source: count such statements apart). THE CARD IS WHAT COUNTS. Prove the row's statement (the work); the ties are given (YtgnkihiibednoabGreatDoorTie.lean); close each card by the builder's one call (the guide's Derived/Test/ToyasCard.lean, 'card_holds'). Laid BY PROGRAM, IN A SANDBOX (cutbox-door.mjs). By AI agents, Wed Nov 11 2026. No macro, syntax, notation, axiom, sorry.
-/
import Derived.Test.YtgnkihiibednoabGreatDoorRows
import GoSem.ClaimSeven
namespace Go.Proofs.YtgnkihiibednoabGreatDoor
namespace Rows

/-- THE TIED CARD OF 'scanlaw1.VectorsChecked'. -/
def vectorsCheckedCard : Claim7 := { stood := { row := vectorsCheckedRow, standIns := [], harness := (true, "fad8fc3675b271865269c80053266a3785672dca4a8e6d49dcb4c47c63c0dc3c"), looks := false }, kinds := [], alts := [], laidByText := true, laidKinds := [.data, .pinned], laidTests := true, laidLooks := .later }
def VectorsCheckedCardSaid : Prop := Claim7.holds Tryz.pinned (.plain (OpenSpec.ofChange vectorsCheckedSpec)) vectorsCheckedCard

/-- THE SECOND FORM's CARD OF 'scanlaw1.VectorsChecked'. -/
def vectorsCheckedUptoCard : Claim7 := { stood := { row := vectorsCheckedUptoRow, standIns := [], harness := (true, "fad8fc3675b271865269c80053266a3785672dca4a8e6d49dcb4c47c63c0dc3c"), looks := false }, kinds := [], alts := [], laidByText := true, laidKinds := [.data, .pinned], laidTests := true, laidLooks := .later }
def VectorsCheckedUptoCardSaid : Prop := Claim7.holds Tryz.pinned (.plain (OpenSpec.upto vectorsCheckedSpec)) vectorsCheckedUptoCard
end Rows
end Go.Proofs.YtgnkihiibednoabGreatDoor
