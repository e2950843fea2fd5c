/- The contract of Synchronizes. -/
import Derived.Test.YtfoocnhfppjbbaaGreatDoorBits
namespace Go.Proofs.YtfoocnhfppjbbaaGreatDoor
open Go.RowKit

/-- All states below k lead where state 0 leads. -/
def AllTo (l : List UInt8) (k : Nat) : Prop := ∀ j, j < k → nxs j l = nxs 0 l

theorem AllTo.succ {l : List UInt8} {k : Nat} (h : AllTo l k) (e : nxs k l = nxs 0 l) : AllTo l (k + 1) := fun j hj => by
  by_cases hjk : j = k
  · rw [hjk]; exact e
  · exact h j (by omega)

theorem clockErr_size {s : ByteArray} (h : clockErr s = 0) : s.size ≤ 20000 := by
  unfold clockErr at h
  by_cases h1 : 20000 < s.size
  · rw [if_pos h1] at h; omega
  · omega
theorem clockErr_bits {s : ByteArray} (h : clockErr s = 0) : s.data.toList.all bitB = true := by
  unfold clockErr at h
  by_cases h1 : 20000 < s.size
  · rw [if_pos h1] at h; omega
  · rw [if_neg h1] at h
    by_cases h2 : s.data.toList.all bitB = true
    · exact h2
    · rw [if_neg h2] at h; omega

end Go.Proofs.YtfoocnhfppjbbaaGreatDoor
