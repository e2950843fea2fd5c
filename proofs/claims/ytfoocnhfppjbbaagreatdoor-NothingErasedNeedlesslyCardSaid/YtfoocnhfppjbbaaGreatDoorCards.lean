/-
  DERIVED. GIVEN WITH THE SEED: THE CARDS: each row of YtfoocnhfppjbbaaGreatDoorRows.lean that lists a variable, with what it lists TIED to the program's text (the seventh form; the later family's looks); each row that meets fmt, with fmt's text TOLD by the authors' own Lean function (tested against real Go, not proved from fmt's source: count such statements apart). THE CARD IS WHAT COUNTS. Prove the row's statement (the work); the ties are given (YtfoocnhfppjbbaaGreatDoorTie.lean); close each card by the builder's one call (the guide's Derived/Test/ToyasCard.lean, 'card_holds'). Laid BY PROGRAM, IN A SANDBOX (cutbox-door.mjs). By AI agents, Wed Nov 11 2026. No macro, syntax, notation, axiom, sorry.
-/
import Derived.Test.YtfoocnhfppjbbaaGreatDoorRows
import GoSem.ClaimSeven
namespace Go.Proofs.YtfoocnhfppjbbaaGreatDoor
namespace Rows

/-- THE TIED CARD OF 'scankeep1.PlansArrive'. -/
def plansArriveCard : Claim7 := { stood := { row := plansArriveRow, standIns := [], harness := (true, "d6a2a85093a10155357724ac2b89e038c22ff42db85864b32e69c32da35b937e"), looks := false }, kinds := [], alts := [], laidByText := true, laidKinds := [.data, .data, .data, .data, .data, .pinned], laidTests := true, laidLooks := .later }
def PlansArriveCardSaid : Prop := Claim7.holds Tryz.pinned (.plain (OpenSpec.ofChange plansArriveSpec)) plansArriveCard

/-- THE TIED CARD OF 'scankeep1.NothingErasedNeedlessly'. -/
def nothingErasedNeedlesslyCard : Claim7 := { stood := { row := nothingErasedNeedlesslyRow, standIns := [], harness := (true, "d6a2a85093a10155357724ac2b89e038c22ff42db85864b32e69c32da35b937e"), looks := false }, kinds := [], alts := [], laidByText := true, laidKinds := [.data, .data, .data, .data, .data, .pinned], laidTests := true, laidLooks := .later }
def NothingErasedNeedlesslyCardSaid : Prop := Claim7.holds Tryz.pinned (.plain (OpenSpec.ofChange nothingErasedNeedlesslySpec)) nothingErasedNeedlesslyCard

/-- THE SECOND FORM's CARD OF 'scankeep1.PlansArrive'. -/
def plansArriveUptoCard : Claim7 := { stood := { row := plansArriveUptoRow, standIns := [], harness := (true, "d6a2a85093a10155357724ac2b89e038c22ff42db85864b32e69c32da35b937e"), looks := false }, kinds := [], alts := [], laidByText := true, laidKinds := [.data, .data, .data, .data, .data, .pinned], laidTests := true, laidLooks := .later }
def PlansArriveUptoCardSaid : Prop := Claim7.holds Tryz.pinned (.plain (OpenSpec.upto plansArriveSpec)) plansArriveUptoCard

/-- THE SECOND FORM's CARD OF 'scankeep1.NothingErasedNeedlessly'. -/
def nothingErasedNeedlesslyUptoCard : Claim7 := { stood := { row := nothingErasedNeedlesslyUptoRow, standIns := [], harness := (true, "d6a2a85093a10155357724ac2b89e038c22ff42db85864b32e69c32da35b937e"), looks := false }, kinds := [], alts := [], laidByText := true, laidKinds := [.data, .data, .data, .data, .data, .pinned], laidTests := true, laidLooks := .later }
def NothingErasedNeedlesslyUptoCardSaid : Prop := Claim7.holds Tryz.pinned (.plain (OpenSpec.upto nothingErasedNeedlesslySpec)) nothingErasedNeedlesslyUptoCard
end Rows
end Go.Proofs.YtfoocnhfppjbbaaGreatDoor
