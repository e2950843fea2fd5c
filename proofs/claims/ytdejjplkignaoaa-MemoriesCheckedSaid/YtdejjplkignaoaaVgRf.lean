/- The reference's tests of numbers. -/
import Derived.Test.YtdejjplkignaoaaVgM
import Derived.Test.YtdejjplkignaoaaProg
import Derived.Test.YtdejjplkignaoaaStream
namespace Go.Proofs.Ytdejjplkignaoaa
open Go.RowKit

def inB (n low high : Int) : Bool := decide (low ≤ n) && decide (n ≤ high)
theorem rin_any (n low high : Int) (w : World) : Calls Try.prog 48 #[.int .i64 n, .int .i64 low, .int .i64 high] w fun e w' => e = .returned (.bool (inB n low high)) ∧ w = w' := by
  cases h1 : decide (low ≤ n) with
  | false =>
    have e : inB n low high = false := by simp [inB, h1]
    rw [e]
    go_enter Try.func48, Try.ntmps48
    go_wp2
    go_ret
    exact ⟨rfl, rfl⟩
  | true =>
    cases h2 : decide (n ≤ high) with
    | false =>
      have e : inB n low high = false := by simp [inB, h2]
      rw [e]
      go_enter Try.func48, Try.ntmps48
      go_wp2
      go_ret
      exact ⟨rfl, rfl⟩
    | true =>
      have e : inB n low high = true := by simp [inB, h1, h2]
      rw [e]
      go_enter Try.func48, Try.ntmps48
      go_wp2
      go_ret
      exact ⟨rfl, rfl⟩
/-- ErrArg of a number outside a span. -/
def spanErr (n low high : Int) : Int := if inB n low high = true then 0 else 1
theorem spanFault_any (n low high : Int) (w : World) : Calls Try.prog 41 #[.int .i64 n, .int .i64 low, .int .i64 high] w fun e w' => e = .returned (.int .i64 (spanErr n low high)) ∧ w = w' := by
  have h := rin_any n low high w
  cases hb : inB n low high with
  | false =>
    have e : spanErr n low high = 1 := by simp [spanErr, hb]
    rw [e]; rw [hb] at h
    go_enter Try.func41, Try.ntmps41
    go_wp2_with fail
    refine h.mono ?_
    rintro e w' ⟨rfl, rfl⟩
    go_wp2
    go_ret
    exact ⟨rfl, rfl⟩
  | true =>
    have e : spanErr n low high = 0 := by simp [spanErr, hb]
    rw [e]; rw [hb] at h
    go_enter Try.func41, Try.ntmps41
    go_wp2_with fail
    refine h.mono ?_
    rintro e w' ⟨rfl, rfl⟩
    go_wp2
    go_ret
    exact ⟨rfl, rfl⟩
/-- ErrKind of a goal. -/
def goalErr (n : Int) : Int := if inB n 1 3 = true then 0 else 4
end Go.Proofs.Ytdejjplkignaoaa
