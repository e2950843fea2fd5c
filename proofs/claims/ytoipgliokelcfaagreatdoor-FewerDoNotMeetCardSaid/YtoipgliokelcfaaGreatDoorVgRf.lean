/- The reference's tests of numbers. -/
import Derived.Test.YtoipgliokelcfaaGreatDoorVgM
import Derived.Test.YtoipgliokelcfaaGreatDoorProg
import Derived.Test.YtoipgliokelcfaaGreatDoorStream
namespace Go.Proofs.YtoipgliokelcfaaGreatDoor
open Go.RowKit

def inB (n low high : Int) : Bool := decide (low ≤ n) && decide (n ≤ high)
theorem rin_any (n low high : Int) (w : World) : Calls Tryz.prog 95 #[.int .i64 n, .int .i64 low, .int .i64 high] w fun e w' => e = .returned (.bool (inB n low high)) ∧ w = w' := by
  cases h1 : decide (low ≤ n) with
  | false =>
    have e : inB n low high = false := by simp [inB, h1]
    rw [e]
    go_enter Tryz.func95, Tryz.ntmps95
    go_wp2
    go_ret
    exact ⟨rfl, rfl⟩
  | true =>
    cases h2 : decide (n ≤ high) with
    | false =>
      have e : inB n low high = false := by simp [inB, h2]
      rw [e]
      go_enter Tryz.func95, Tryz.ntmps95
      go_wp2
      go_ret
      exact ⟨rfl, rfl⟩
    | true =>
      have e : inB n low high = true := by simp [inB, h1, h2]
      rw [e]
      go_enter Tryz.func95, Tryz.ntmps95
      go_wp2
      go_ret
      exact ⟨rfl, rfl⟩
/-- ErrArg of a number outside a span. -/
def spanErr (n low high : Int) : Int := if inB n low high = true then 0 else 1
/-- ErrKind of a goal. -/
def goalErr (n : Int) : Int := if inB n 1 3 = true then 0 else 4
end Go.Proofs.YtoipgliokelcfaaGreatDoor
