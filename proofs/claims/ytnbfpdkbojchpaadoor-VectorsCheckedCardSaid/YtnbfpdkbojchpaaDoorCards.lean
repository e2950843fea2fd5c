/-
  DERIVED. GIVEN WITH THE SEED: THE CARDS: each row of YtnbfpdkbojchpaaDoorRows.lean that lists a variable, with what it lists TIED to the program's text (the seventh form; the later family's looks); each row that meets fmt, with fmt's text TOLD by the authors' own Lean function (tested against real Go, not proved from fmt's source: count such statements apart). THE CARD IS WHAT COUNTS. Prove the row's statement (the work); the ties are given (YtnbfpdkbojchpaaDoorTie.lean); close each card by the builder's one call (the guide's Derived/Test/ToyasCard.lean, 'card_holds'). Laid BY PROGRAM, IN A SANDBOX (cutbox-door.mjs). By AI agents, Wed Nov 11 2026. No macro, syntax, notation, axiom, sorry.
-/
import Derived.Test.YtnbfpdkbojchpaaDoorRows
import GoSem.ClaimSeven
namespace Go.Proofs.YtnbfpdkbojchpaaDoor
namespace Rows

/-- THE TIED CARD OF 'scanlaw1.VectorsChecked'. -/
def vectorsCheckedCard : Claim7 := { stood := { row := vectorsCheckedRow, standIns := [], harness := (true, "ef0d1a79806bddfd06463abb897948dfe1868d0cc7532ff14378779273331cbc"), looks := false }, kinds := [], alts := [], laidByText := true, laidKinds := [.data, .pinned], laidTests := true, laidLooks := .later }
def VectorsCheckedCardSaid : Prop := Claim7.holds Tryd.pinned (.plain (OpenSpec.ofChange vectorsCheckedSpec)) vectorsCheckedCard

/-- THE TIED CARD OF 'scanlaw1.VectorsDetect'. -/
def vectorsDetectCard : Claim7 := { stood := { row := vectorsDetectRow, standIns := [], harness := (true, "ef0d1a79806bddfd06463abb897948dfe1868d0cc7532ff14378779273331cbc"), looks := false }, kinds := [], alts := [], laidByText := true, laidKinds := [.data, .pinned], laidTests := true, laidLooks := .later }
def VectorsDetectCardSaid : Prop := Claim7.holds Tryd.pinned (.plain (OpenSpec.ofChange vectorsDetectSpec)) vectorsDetectCard

/-- THE SECOND FORM's CARD OF 'scanlaw1.VectorsChecked'. -/
def vectorsCheckedUptoCard : Claim7 := { stood := { row := vectorsCheckedUptoRow, standIns := [], harness := (true, "ef0d1a79806bddfd06463abb897948dfe1868d0cc7532ff14378779273331cbc"), looks := false }, kinds := [], alts := [], laidByText := true, laidKinds := [.data, .pinned], laidTests := true, laidLooks := .later }
def VectorsCheckedUptoCardSaid : Prop := Claim7.holds Tryd.pinned (.plain (OpenSpec.upto vectorsCheckedSpec)) vectorsCheckedUptoCard

/-- THE SECOND FORM's CARD OF 'scanlaw1.VectorsDetect'. -/
def vectorsDetectUptoCard : Claim7 := { stood := { row := vectorsDetectUptoRow, standIns := [], harness := (true, "ef0d1a79806bddfd06463abb897948dfe1868d0cc7532ff14378779273331cbc"), looks := false }, kinds := [], alts := [], laidByText := true, laidKinds := [.data, .pinned], laidTests := true, laidLooks := .later }
def VectorsDetectUptoCardSaid : Prop := Claim7.holds Tryd.pinned (.plain (OpenSpec.upto vectorsDetectSpec)) vectorsDetectUptoCard
end Rows
end Go.Proofs.YtnbfpdkbojchpaaDoor
