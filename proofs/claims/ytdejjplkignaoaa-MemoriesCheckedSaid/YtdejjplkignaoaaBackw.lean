/- slices.Backward over bytes, as a range walks it: the index goes down, whatever the rounds write into the bytes. -/
import Derived.RangeFuncBox
import Derived.RangeFuncNested
import Derived.RangeFuncBound
import Derived.RangeFuncCalls
import Derived.RangeFuncLeaves
import Derived.Shelf.Abstract
import Derived.Shelf.RegionOpen
import Derived.WalkKit
import Derived.OwnWalkIn
import Derived.TacticsInMore
import Derived.LoopNIn
import Derived.LoopIn
import Derived.Test.YtdejjplkignaoaaProg
import Derived.Lib.Hide
namespace Go.Proofs.Ytdejjplkignaoaa
open Go.RowKit Go.Shelf

attribute [local go_sem] Oper.semAt_some

/-- An index of so many bytes, and a byte. -/
abbrev Ixb (len : Nat) := { x : Nat × Int // x.1 < len }
/-- The bytes can be read: the slice in block Bs, in block g. -/
def Byt (Bs g len cap : Nat) (W : World) : Prop := W.cell? ⟨Bs, 0, none⟩ = some (.slice (some ⟨g, 0, none⟩) len cap) ∧ ∀ j, j < len → ∃ v : Int, W.cell? ⟨g, j, none⟩ = some (.int .u8 v)
/-- The first k indices that come, going down. -/
def downTo (len k : Nat) : List Nat := (List.range k).map fun j => len - 1 - j
theorem downTo_succ (len k : Nat) : downTo len (k + 1) = downTo len k ++ [len - 1 - k] := by
  unfold downTo
  rw [List.range_succ, List.map_append]
  rfl
theorem downTo_len (len k : Nat) : (downTo len k).length = k := by simp [downTo]

end Go.Proofs.Ytdejjplkignaoaa
