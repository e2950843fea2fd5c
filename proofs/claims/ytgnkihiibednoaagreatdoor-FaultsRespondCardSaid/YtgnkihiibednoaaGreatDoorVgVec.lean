/- Package pattern's vectorsOf, over each function that is handed to it. -/
import Derived.Test.YtgnkihiibednoaaGreatDoorTurned
namespace Go.Proofs.YtgnkihiibednoaaGreatDoor
open Go.RowKit

theorem str_one (v : Value) (h : ∃ s, v = .string s) : v.cells.size = 1 := by
  obtain ⟨s, rfl⟩ := h
  rfl

end Go.Proofs.YtgnkihiibednoaaGreatDoor
