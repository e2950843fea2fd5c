/- The contract of Tms: a sequence that is not long. -/
import Derived.Test.YtkipkkaloiefpaaGreatDoorChanged
import Derived.Deep.CutBlock
import Derived.Deep.DeepCutAuto
namespace Go.Proofs.YtkipkkaloiefpaaGreatDoor
open Go.RowKit

def strLen : Value → Nat
  | .string s => s.size
  | _ => 0
/-- The pieces of which a sequence is made. -/
def pieces (b : ByteArray) : List ByteArray := [⟨#[48]⟩, ⟨#[49]⟩, ⟨#[48, 48]⟩, ⟨#[48, 49, 49, 48, 48]⟩, ⟨#[48, 49, 48, 48]⟩, ⟨#[49, 49, 49, 49, 49]⟩, ⟨#[48, 48, 48, 48]⟩, b]
theorem pieces_size (b : ByteArray) (hb : b.size = 3) (j : Nat) (hj : j < 8) : 1 ≤ ((pieces b).getD j ⟨#[]⟩).size ∧ ((pieces b).getD j ⟨#[]⟩).size ≤ 5 := by
  have : j = 0 ∨ j = 1 ∨ j = 2 ∨ j = 3 ∨ j = 4 ∨ j = 5 ∨ j = 6 ∨ j = 7 := by omega
  rcases this with rfl | rfl | rfl | rfl | rfl | rfl | rfl | rfl
  · show 1 ≤ (⟨#[48]⟩ : ByteArray).size ∧ (⟨#[48]⟩ : ByteArray).size ≤ 5; decide
  · show 1 ≤ (⟨#[49]⟩ : ByteArray).size ∧ (⟨#[49]⟩ : ByteArray).size ≤ 5; decide
  · show 1 ≤ (⟨#[48, 48]⟩ : ByteArray).size ∧ (⟨#[48, 48]⟩ : ByteArray).size ≤ 5; decide
  · show 1 ≤ (⟨#[48, 49, 49, 48, 48]⟩ : ByteArray).size ∧ (⟨#[48, 49, 49, 48, 48]⟩ : ByteArray).size ≤ 5; decide
  · show 1 ≤ (⟨#[48, 49, 48, 48]⟩ : ByteArray).size ∧ (⟨#[48, 49, 48, 48]⟩ : ByteArray).size ≤ 5; decide
  · show 1 ≤ (⟨#[49, 49, 49, 49, 49]⟩ : ByteArray).size ∧ (⟨#[49, 49, 49, 49, 49]⟩ : ByteArray).size ≤ 5; decide
  · show 1 ≤ (⟨#[48, 48, 48, 48]⟩ : ByteArray).size ∧ (⟨#[48, 48, 48, 48]⟩ : ByteArray).size ≤ 5; decide
  · show 1 ≤ b.size ∧ b.size ≤ 5; omega

/-- What stands behind the loop. -/
def TmsMid (sb t most : Nat) (w : World) (v : Value) (wx : World) : Prop := ∃ s : ByteArray, v = .string s ∧ s.size ≤ most + 5 ∧ ∃ K, K ≤ 5 * (most + 5) ∧ Ran sb t K w wx

end Go.Proofs.YtkipkkaloiefpaaGreatDoor
