/- What is wrong with rows of strings of which the first one tells a length: the reference's SequencesFault and PatternLinesFault, the program's checkLines. -/
import Derived.Test.YtldilggfmclnlaaGreatDoorPvChk
namespace Go.Proofs.YtldilggfmclnlaaGreatDoor
open Go.RowKit

def lineErr (long : Int) (l : List UInt8) : Int := if l = [] then 8 else if 100 < l.length then 2 else wordErr long l
theorem lineErr_at (long : Int) (l : List UInt8) : lineErr long l = if l = [] then 8 else if 100 < l.length then 2 else wordErr long l := rfl
theorem wordErr_at (long : Int) (l : List UInt8) (z : Int) (h : z = (l.length : Int)) : wordErr long l = if z = long then (if l.all bitB = true then 0 else 9) else 3 := by
  subst h
  rfl
theorem firstErr_one (f : List UInt8 → Int) (l : List UInt8) : firstErr f [l] = f l := by
  unfold firstErr
  split
  · rename_i h
    rw [h]
    rfl
  · rfl
def linesErr (S : List (List UInt8)) : Int := if 200 < S.length then 2 else firstErr (lineErr ((S.getD 0 []).length : Int)) S

end Go.Proofs.YtldilggfmclnlaaGreatDoor
