/-
  DERIVED. GIVEN WITH THE SEED: THE CARDS: each row of YtkipkkaloiefpaaGreatDoorRows.lean that lists a variable, with what it lists TIED to the program's text (the seventh form; the later family's looks); each row that meets fmt, with fmt's text TOLD by the authors' own Lean function (tested against real Go, not proved from fmt's source: count such statements apart). THE CARD IS WHAT COUNTS. Prove the row's statement (the work); the ties are given (YtkipkkaloiefpaaGreatDoorTie.lean); close each card by the builder's one call (the guide's Derived/Test/ToyasCard.lean, 'card_holds'). Laid BY PROGRAM, IN A SANDBOX (cutbox-door.mjs). By AI agents, Wed Nov 11 2026. No macro, syntax, notation, axiom, sorry.
-/
import Derived.Test.YtkipkkaloiefpaaGreatDoorRows
import GoSem.ClaimSeven
namespace Go.Proofs.YtkipkkaloiefpaaGreatDoor
namespace Rows

/-- THE TIED CARD OF 'scanlaw1.ChainsClocked'. -/
def chainsClockedCard : Claim7 := { stood := { row := chainsClockedRow, standIns := [], harness := (true, "0766ba387a665f57eb28dd1a8699d7d31239506ebffd777b15c779a100abbc40"), looks := false }, kinds := [], alts := [], laidByText := true, laidKinds := [.data, .data, .data, .data, .data, .pinned], laidTests := true, laidLooks := .later }
def ChainsClockedCardSaid : Prop := Claim7.holds Tryz.pinned (.plain (OpenSpec.ofChange chainsClockedSpec)) chainsClockedCard

/-- THE SECOND FORM's CARD OF 'scanlaw1.ChainsClocked'. -/
def chainsClockedUptoCard : Claim7 := { stood := { row := chainsClockedUptoRow, standIns := [], harness := (true, "0766ba387a665f57eb28dd1a8699d7d31239506ebffd777b15c779a100abbc40"), looks := false }, kinds := [], alts := [], laidByText := true, laidKinds := [.data, .data, .data, .data, .data, .pinned], laidTests := true, laidLooks := .later }
def ChainsClockedUptoCardSaid : Prop := Claim7.holds Tryz.pinned (.plain (OpenSpec.upto chainsClockedSpec)) chainsClockedUptoCard
end Rows
end Go.Proofs.YtkipkkaloiefpaaGreatDoor
