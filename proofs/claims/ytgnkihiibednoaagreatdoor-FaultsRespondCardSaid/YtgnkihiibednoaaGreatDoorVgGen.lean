/- Package pattern's Generate, Counting, Minimum. -/
import Derived.Test.YtgnkihiibednoaaGreatDoorVgVec
import Derived.StillTailTactics
namespace Go.Proofs.YtgnkihiibednoaaGreatDoor
open Go.RowKit

/-- The codes of a goal are small. -/
theorem codes_small (goal k x : Nat) (hk : k ≤ 9) (hx : x ∈ codesL goal k) : x < 1024 := by
  unfold codesL codesTo at hx
  have h1 := (List.mem_filter.1 hx).1
  have h2 := List.mem_range.1 h1
  have := pow_nine k hk
  omega
theorem genS_map (goal nets k : Nat) (h : nets ≤ (codesL goal k).length) : (List.range nets).map (fun j => digL ((codesL goal k).getD j 0) k) = genS goal nets k := by
  unfold genS
  apply List.ext_getElem
  · simp; omega
  · intro i h1 h2
    have hi : i < nets := by simpa using h1
    have hi2 : i < (codesL goal k).length := by omega
    simp [List.getD, hi2]

end Go.Proofs.YtgnkihiibednoaaGreatDoor
