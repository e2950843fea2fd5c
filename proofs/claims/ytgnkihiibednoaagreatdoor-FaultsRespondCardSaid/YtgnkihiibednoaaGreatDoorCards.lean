/-
  DERIVED. GIVEN WITH THE SEED: THE CARDS: each row of YtgnkihiibednoaaGreatDoorRows.lean that lists a variable, with what it lists TIED to the program's text (the seventh form; the later family's looks); each row that meets fmt, with fmt's text TOLD by the authors' own Lean function (tested against real Go, not proved from fmt's source: count such statements apart). THE CARD IS WHAT COUNTS. Prove the row's statement (the work); the ties are given (YtgnkihiibednoaaGreatDoorTie.lean); close each card by the builder's one call (the guide's Derived/Test/ToyasCard.lean, 'card_holds'). Laid BY PROGRAM, IN A SANDBOX (cutbox-door.mjs). By AI agents, Wed Nov 11 2026. No macro, syntax, notation, axiom, sorry.
-/
import Derived.Test.YtgnkihiibednoaaGreatDoorRows
import GoSem.ClaimSeven
namespace Go.Proofs.YtgnkihiibednoaaGreatDoor
namespace Rows

/-- THE TIED CARD OF 'scanlaw2.FaultsRespond'. -/
def faultsRespondCard : Claim7 := { stood := { row := faultsRespondRow, standIns := [], harness := (true, "938d664691f990c2b0df1b558fceba4ba496b18acd73ff26e068242ec9b5c496"), looks := false }, kinds := [], alts := [], laidByText := true, laidKinds := [.data, .pinned], laidTests := true, laidLooks := .later }
def FaultsRespondCardSaid : Prop := Claim7.holds Tryz.pinned (.plain (OpenSpec.ofChange faultsRespondSpec)) faultsRespondCard

/-- THE SECOND FORM's CARD OF 'scanlaw2.FaultsRespond'. -/
def faultsRespondUptoCard : Claim7 := { stood := { row := faultsRespondUptoRow, standIns := [], harness := (true, "938d664691f990c2b0df1b558fceba4ba496b18acd73ff26e068242ec9b5c496"), looks := false }, kinds := [], alts := [], laidByText := true, laidKinds := [.data, .pinned], laidTests := true, laidLooks := .later }
def FaultsRespondUptoCardSaid : Prop := Claim7.holds Tryz.pinned (.plain (OpenSpec.upto faultsRespondSpec)) faultsRespondUptoCard
end Rows
end Go.Proofs.YtgnkihiibednoaaGreatDoor
