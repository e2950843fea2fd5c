/- Rows of numbers are compared; rows of such rows; cmp.Or of two errors. -/
import Derived.Test.YtoipgliokelcfaaGreatDoorPdG
namespace Go.Proofs.YtoipgliokelcfaaGreatDoor
open Go.RowKit Go.Maps

end Go.Proofs.YtoipgliokelcfaaGreatDoor
