/- What the cards of this seat ask of the program. -/
import Derived.Test.YtgnkihiibednoabGreatDoorRows
import Derived.Test.YtgnkihiibednoabGreatDoorPvLaw
import Derived.ProofKit
import Derived.LaidMore
import Derived.OpenShut
import Derived.Lay
import Derived.Lib.LaidU8
import Derived.Lib.LaidTab
import Derived.Stop.Joined
namespace Go.Proofs.YtgnkihiibednoabGreatDoor
open Go.ChangeShapes Go.WideShapes Go.ChangeAt Go.RowKit

theorem Tryz.own : ownKnob Tryz.prog.godebug = none := by kernel_rfl
theorem Tryz.laidOut : laidOutB Tryz.prog = true := by kernel_rfl
theorem Tryz.bytesInt : Tryz.prog.bytesOf 3 = 8 := by kernel_rfl
theorem Tryz.cInt : Tryz.prog.cellsOf 3 = 1 := by kernel_rfl
end Go.Proofs.YtgnkihiibednoabGreatDoor
