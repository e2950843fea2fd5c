/- The reference's tests of numbers. -/
import Derived.Test.YtldilggfmclnlaaGreatDoorVgM
import Derived.Test.YtldilggfmclnlaaGreatDoorProg
import Derived.Test.YtldilggfmclnlaaGreatDoorStream
namespace Go.Proofs.YtldilggfmclnlaaGreatDoor
open Go.RowKit

def inB (n low high : Int) : Bool := decide (low ≤ n) && decide (n ≤ high)
/-- ErrArg of a number outside a span. -/
def spanErr (n low high : Int) : Int := if inB n low high = true then 0 else 1
/-- ErrKind of a goal. -/
def goalErr (n : Int) : Int := if inB n 1 3 = true then 0 else 4
end Go.Proofs.YtldilggfmclnlaaGreatDoor
