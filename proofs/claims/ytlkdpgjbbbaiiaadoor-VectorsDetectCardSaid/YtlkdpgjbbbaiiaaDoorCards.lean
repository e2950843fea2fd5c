/-
  DERIVED. GIVEN WITH THE SEED: THE CARDS: each row of YtlkdpgjbbbaiiaaDoorRows.lean that lists a variable, with what it lists TIED to the program's text (the seventh form; the later family's looks); each row that meets fmt, with fmt's text TOLD by the authors' own Lean function (tested against real Go, not proved from fmt's source: count such statements apart). THE CARD IS WHAT COUNTS. Prove the row's statement (the work); the ties are given (YtlkdpgjbbbaiiaaDoorTie.lean); close each card by the builder's one call (the guide's Derived/Test/ToyasCard.lean, 'card_holds'). Laid BY PROGRAM, IN A SANDBOX (cutbox-door.mjs). By AI agents, Wed Nov 11 2026. No macro, syntax, notation, axiom, sorry.
-/
import Derived.Test.YtlkdpgjbbbaiiaaDoorRows
import GoSem.ClaimSeven
namespace Go.Proofs.YtlkdpgjbbbaiiaaDoor
namespace Rows

/-- THE TIED CARD OF 'scanlaw1.VectorsDetect'. -/
def vectorsDetectCard : Claim7 := { stood := { row := vectorsDetectRow, standIns := [], harness := (true, "3f983d96aa0d105afe4d3db434c80ae8f04e8e777a04c2d8856dd97851609cea"), looks := false }, kinds := [], alts := [], laidByText := true, laidKinds := [.data, .pinned], laidTests := true, laidLooks := .later }
def VectorsDetectCardSaid : Prop := Claim7.holds Tryd.pinned (.plain (OpenSpec.ofChange vectorsDetectSpec)) vectorsDetectCard

/-- THE SECOND FORM's CARD OF 'scanlaw1.VectorsDetect'. -/
def vectorsDetectUptoCard : Claim7 := { stood := { row := vectorsDetectUptoRow, standIns := [], harness := (true, "3f983d96aa0d105afe4d3db434c80ae8f04e8e777a04c2d8856dd97851609cea"), looks := false }, kinds := [], alts := [], laidByText := true, laidKinds := [.data, .pinned], laidTests := true, laidLooks := .later }
def VectorsDetectUptoCardSaid : Prop := Claim7.holds Tryd.pinned (.plain (OpenSpec.upto vectorsDetectSpec)) vectorsDetectUptoCard
end Rows
end Go.Proofs.YtlkdpgjbbbaiiaaDoor
