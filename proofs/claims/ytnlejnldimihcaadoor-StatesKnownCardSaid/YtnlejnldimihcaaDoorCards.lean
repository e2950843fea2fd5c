/-
  DERIVED. GIVEN WITH THE SEED: THE CARDS: each row of YtnlejnldimihcaaDoorRows.lean that lists a variable, with what it lists TIED to the program's text (the seventh form; the later family's looks); each row that meets fmt, with fmt's text TOLD by the authors' own Lean function (tested against real Go, not proved from fmt's source: count such statements apart). THE CARD IS WHAT COUNTS. Prove the row's statement (the work); the ties are given (YtnlejnldimihcaaDoorTie.lean); close each card by the builder's one call (the guide's Derived/Test/ToyasCard.lean, 'card_holds'). Laid BY PROGRAM, IN A SANDBOX (cutbox-door.mjs). By AI agents, Wed Nov 11 2026. No macro, syntax, notation, axiom, sorry.
-/
import Derived.Test.YtnlejnldimihcaaDoorRows
import GoSem.ClaimSeven
namespace Go.Proofs.YtnlejnldimihcaaDoor
namespace Rows

/-- THE TIED CARD OF 'scanlaw1.StatesKnown'. -/
def statesKnownCard : Claim7 := { stood := { row := statesKnownRow, standIns := [], harness := (true, "f8ae6979a8adf48fd0f6a609ca6a78c7c5d1a43e8c8f9f7f427515586c433796"), looks := false }, kinds := [], alts := [], laidByText := true, laidKinds := [.data, .data, .data, .data, .data, .pinned], laidTests := true, laidLooks := .later }
def StatesKnownCardSaid : Prop := Claim7.holds Tryd.pinned (.plain (OpenSpec.ofChange statesKnownSpec)) statesKnownCard

/-- THE TIED CARD OF 'scanlaw1.LongSequences'. -/
def longSequencesCard : Claim7 := { stood := { row := longSequencesRow, standIns := [], harness := (true, "f8ae6979a8adf48fd0f6a609ca6a78c7c5d1a43e8c8f9f7f427515586c433796"), looks := false }, kinds := [], alts := [], laidByText := true, laidKinds := [.data, .data, .data, .data, .data, .pinned], laidTests := true, laidLooks := .later }
def LongSequencesCardSaid : Prop := Claim7.holds Tryd.pinned (.plain (OpenSpec.ofChange longSequencesSpec)) longSequencesCard

/-- THE SECOND FORM's CARD OF 'scanlaw1.StatesKnown'. -/
def statesKnownUptoCard : Claim7 := { stood := { row := statesKnownUptoRow, standIns := [], harness := (true, "f8ae6979a8adf48fd0f6a609ca6a78c7c5d1a43e8c8f9f7f427515586c433796"), looks := false }, kinds := [], alts := [], laidByText := true, laidKinds := [.data, .data, .data, .data, .data, .pinned], laidTests := true, laidLooks := .later }
def StatesKnownUptoCardSaid : Prop := Claim7.holds Tryd.pinned (.plain (OpenSpec.upto statesKnownSpec)) statesKnownUptoCard

/-- THE SECOND FORM's CARD OF 'scanlaw1.LongSequences'. -/
def longSequencesUptoCard : Claim7 := { stood := { row := longSequencesUptoRow, standIns := [], harness := (true, "f8ae6979a8adf48fd0f6a609ca6a78c7c5d1a43e8c8f9f7f427515586c433796"), looks := false }, kinds := [], alts := [], laidByText := true, laidKinds := [.data, .data, .data, .data, .data, .pinned], laidTests := true, laidLooks := .later }
def LongSequencesUptoCardSaid : Prop := Claim7.holds Tryd.pinned (.plain (OpenSpec.upto longSequencesSpec)) longSequencesUptoCard
end Rows
end Go.Proofs.YtnlejnldimihcaaDoor
