/- The reference's tests of numbers. -/
import Derived.Test.YtlkdpgjbbbaiiaaDoorVgM
import Derived.Test.YtlkdpgjbbbaiiaaDoorProg
import Derived.Test.YtlkdpgjbbbaiiaaDoorStream
namespace Go.Proofs.YtlkdpgjbbbaiiaaDoor
open Go.RowKit

def inB (n low high : Int) : Bool := decide (low ≤ n) && decide (n ≤ high)
theorem rin_any (n low high : Int) (w : World) : Calls Tryd.prog 30 #[.int .i64 n, .int .i64 low, .int .i64 high] w fun e w' => e = .returned (.bool (inB n low high)) ∧ w = w' := by
  cases h1 : decide (low ≤ n) with
  | false =>
    have e : inB n low high = false := by simp [inB, h1]
    rw [e]
    go_enter Tryd.func30, Tryd.ntmps30
    go_wp2
    go_ret
    exact ⟨rfl, rfl⟩
  | true =>
    cases h2 : decide (n ≤ high) with
    | false =>
      have e : inB n low high = false := by simp [inB, h2]
      rw [e]
      go_enter Tryd.func30, Tryd.ntmps30
      go_wp2
      go_ret
      exact ⟨rfl, rfl⟩
    | true =>
      have e : inB n low high = true := by simp [inB, h1, h2]
      rw [e]
      go_enter Tryd.func30, Tryd.ntmps30
      go_wp2
      go_ret
      exact ⟨rfl, rfl⟩
/-- ErrArg of a number outside a span. -/
def spanErr (n low high : Int) : Int := if inB n low high = true then 0 else 1
/-- ErrKind of a goal. -/
def goalErr (n : Int) : Int := if inB n 1 3 = true then 0 else 4
theorem goalFault_any (n : Int) (w : World) : Calls Tryd.prog 13 #[.int .i64 n] w fun e w' => e = .returned (.int .i64 (goalErr n)) ∧ w = w' := by
  have h := rin_any n 1 3 w
  cases hb : inB n 1 3 with
  | false =>
    have e : goalErr n = 4 := by simp [goalErr, hb]
    rw [e]; rw [hb] at h
    go_enter Tryd.func13, Tryd.ntmps13
    go_wp2_with fail
    refine h.mono ?_
    rintro e w' ⟨rfl, rfl⟩
    go_wp2
    go_ret
    exact ⟨rfl, rfl⟩
  | true =>
    have e : goalErr n = 0 := by simp [goalErr, hb]
    rw [e]; rw [hb] at h
    go_enter Tryd.func13, Tryd.ntmps13
    go_wp2_with fail
    refine h.mono ?_
    rintro e w' ⟨rfl, rfl⟩
    go_wp2
    go_ret
    exact ⟨rfl, rfl⟩
end Go.Proofs.YtlkdpgjbbbaiiaaDoor
