/- All goals, both bits, in one contract each. -/
import Derived.Test.YtlcknglnpcggaaaGreatDoorVgStr
namespace Go.Proofs.YtlcknglnpcggaaaGreatDoor
open Go.RowKit

/-- A goal that there is. -/
def GoalIn (z : Int) : Prop := ∃ g : Nat, z = (g : Int) ∧ (g = 1 ∨ g = 2 ∨ g = 3)
theorem minimum_ok (z : Int) (hz : GoalIn z) (nets : Nat) (h1 : 1 ≤ nets) (h2 : nets ≤ 100) (w : World) : Calls Tryz.prog 12 #[.int .i64 (nets : Int), .int .i64 z] w fun e w' => ∃ k : Nat, k ≤ 9 ∧ Least z.toNat nets k ∧ e = .returned (.tuple #[.int .i64 (k : Int), .int .i64 0]) ∧ Below w.heap.size w w' := by
  obtain ⟨g, rfl, rfl | rfl | rfl⟩ := hz
  · exact minimum1_ok nets h1 h2 w
  · exact minimum2_ok nets h1 h2 w
  · exact minimum3_ok nets h1 h2 w
theorem generate_ok (z : Int) (hz : GoalIn z) (nets : Nat) (h1 : 1 ≤ nets) (h2 : nets ≤ 100) (w : World) : Calls Tryz.prog 13 #[.int .i64 (nets : Int), .int .i64 z] w fun e w' => ∃ (k : Nat) (v : Value), k ≤ 9 ∧ Least z.toNat nets k ∧ e = .returned (.tuple #[v, .int .i64 0]) ∧ StrsAt w.heap.size w' v (turnL (genS z.toNat nets k) k) ∧ Below w.heap.size w w' := by
  obtain ⟨g, rfl, rfl | rfl | rfl⟩ := hz
  · exact generate1_ok nets h1 h2 w
  · exact generate2_ok nets h1 h2 w
  · exact generate3_ok nets h1 h2 w
theorem leastOf_ok (z : Int) (hz : GoalIn z) (nets : Nat) (h1 : 1 ≤ nets) (h2 : nets ≤ 100) (w : World) (hT : Tz w) : Calls Tryz.prog 20 #[.int .i64 (nets : Int), .int .i64 z] w fun e w' => ∃ k : Nat, k ≤ 9 ∧ Least z.toNat nets k ∧ e = .returned (.int .i64 (k : Int)) ∧ Below w.heap.size w w' := by
  obtain ⟨g, rfl, rfl | rfl | rfl⟩ := hz
  · exact least1_any nets h1 h2 w hT
  · exact least2_any nets h1 h2 w hT
  · exact least3_any nets h1 h2 w hT
theorem generatedOf_ok (z : Int) (hz : GoalIn z) (nets : Nat) (h1 : 1 ≤ nets) (h2 : nets ≤ 100) (w : World) (hT : Tz w) : Calls Tryz.prog 21 #[.int .i64 (nets : Int), .int .i64 z] w fun e w' => ∃ (k : Nat) (v : Value), k ≤ 9 ∧ Least z.toNat nets k ∧ e = .returned v ∧ StrsAt w.heap.size w' v (turnL (genS z.toNat nets k) k) ∧ Below w.heap.size w w' := by
  obtain ⟨g, rfl, rfl | rfl | rfl⟩ := hz
  · exact generated1_any nets h1 h2 w hT
  · exact generated2_any nets h1 h2 w hT
  · exact generated3_any nets h1 h2 w hT
/-- A bit. -/
def BitIn (z : Int) : Prop := z = 0 ∨ z = 1
theorem walking_ok (z : Int) (hz : BitIn z) (nets : Nat) (h1 : 1 ≤ nets) (h2 : nets ≤ 100) (w : World) : Calls Tryz.prog 11 #[.int .i64 (nets : Int), .int .i64 z] w fun e w' => ∃ v : Value, e = .returned (.tuple #[v, .int .i64 0]) ∧ StrsAt w.heap.size w' v (turnL (walkS nets z.toNat) nets) ∧ Below w.heap.size w w' := by
  obtain rfl | rfl := hz
  · exact walking0_ok nets h1 h2 w
  · exact walking1_ok nets h1 h2 w
theorem walkingOf_ok (z : Int) (hz : BitIn z) (nets : Nat) (h1 : 1 ≤ nets) (h2 : nets ≤ 100) (w : World) : Calls Tryz.prog 18 #[.int .i64 (nets : Int), .int .i64 z] w fun e w' => ∃ v : Value, e = .returned v ∧ StrsAt w.heap.size w' v (turnL (walkS nets z.toNat) nets) ∧ Below w.heap.size w w' := by
  obtain rfl | rfl := hz
  · exact walkingOf0_any nets h1 h2 w
  · exact walkingOf1_any nets h1 h2 w
theorem goal_dec (z : Int) : (GoalIn z ∧ goalErr z = 0) ∨ (z ≠ 1 ∧ z ≠ 2 ∧ z ≠ 3 ∧ goalErr z = 4) := by
  unfold goalErr inB
  by_cases h : 1 ≤ z ∧ z ≤ 3
  · left
    refine ⟨⟨z.toNat, by omega, by omega⟩, by simp [h.1, h.2]⟩
  · right
    refine ⟨by omega, by omega, by omega, ?_⟩
    have : (decide (1 ≤ z) && decide (z ≤ 3)) = false := by simp; omega
    simp [this]
end Go.Proofs.YtlcknglnpcggaaaGreatDoor
