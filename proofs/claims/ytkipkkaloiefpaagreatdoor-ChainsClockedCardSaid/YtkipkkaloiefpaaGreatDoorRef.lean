/- The contracts of the reference's small functions. -/
import Derived.Test.YtkipkkaloiefpaaGreatDoorTms
namespace Go.Proofs.YtkipkkaloiefpaaGreatDoor
open Go.RowKit

/-- The reference's table as a value. -/
abbrev table16 : Value := .agg #[.int .i64 1, .int .i64 0, .int .i64 1, .int .i64 2, .int .i64 3, .int .i64 9, .int .i64 4, .int .i64 5, .int .i64 4, .int .i64 5, .int .i64 6, .int .i64 8, .int .i64 6, .int .i64 7, .int .i64 4, .int .i64 8, .int .i64 1, .int .i64 2, .int .i64 10, .int .i64 0, .int .i64 11, .int .i64 12, .int .i64 11, .int .i64 12, .int .i64 13, .int .i64 15, .int .i64 13, .int .i64 14, .int .i64 11, .int .i64 15, .int .i64 1, .int .i64 2]
theorem Tryz.row0 (W : World) : (Instr.index 125 table16 (.int .i64 0)).run Tryz.prog W = .ok (.agg #[.int .i64 1, .int .i64 0]) W := by kernel_rfl
theorem Tryz.row1 (W : World) : (Instr.index 125 table16 (.int .i64 1)).run Tryz.prog W = .ok (.agg #[.int .i64 1, .int .i64 2]) W := by kernel_rfl
theorem Tryz.row2 (W : World) : (Instr.index 125 table16 (.int .i64 2)).run Tryz.prog W = .ok (.agg #[.int .i64 3, .int .i64 9]) W := by kernel_rfl
theorem Tryz.row3 (W : World) : (Instr.index 125 table16 (.int .i64 3)).run Tryz.prog W = .ok (.agg #[.int .i64 4, .int .i64 5]) W := by kernel_rfl
theorem Tryz.row4 (W : World) : (Instr.index 125 table16 (.int .i64 4)).run Tryz.prog W = .ok (.agg #[.int .i64 4, .int .i64 5]) W := by kernel_rfl
theorem Tryz.row5 (W : World) : (Instr.index 125 table16 (.int .i64 5)).run Tryz.prog W = .ok (.agg #[.int .i64 6, .int .i64 8]) W := by kernel_rfl
theorem Tryz.row6 (W : World) : (Instr.index 125 table16 (.int .i64 6)).run Tryz.prog W = .ok (.agg #[.int .i64 6, .int .i64 7]) W := by kernel_rfl
theorem Tryz.row7 (W : World) : (Instr.index 125 table16 (.int .i64 7)).run Tryz.prog W = .ok (.agg #[.int .i64 4, .int .i64 8]) W := by kernel_rfl
theorem Tryz.row8 (W : World) : (Instr.index 125 table16 (.int .i64 8)).run Tryz.prog W = .ok (.agg #[.int .i64 1, .int .i64 2]) W := by kernel_rfl
theorem Tryz.row9 (W : World) : (Instr.index 125 table16 (.int .i64 9)).run Tryz.prog W = .ok (.agg #[.int .i64 10, .int .i64 0]) W := by kernel_rfl
theorem Tryz.row10 (W : World) : (Instr.index 125 table16 (.int .i64 10)).run Tryz.prog W = .ok (.agg #[.int .i64 11, .int .i64 12]) W := by kernel_rfl
theorem Tryz.row11 (W : World) : (Instr.index 125 table16 (.int .i64 11)).run Tryz.prog W = .ok (.agg #[.int .i64 11, .int .i64 12]) W := by kernel_rfl
theorem Tryz.row12 (W : World) : (Instr.index 125 table16 (.int .i64 12)).run Tryz.prog W = .ok (.agg #[.int .i64 13, .int .i64 15]) W := by kernel_rfl
theorem Tryz.row13 (W : World) : (Instr.index 125 table16 (.int .i64 13)).run Tryz.prog W = .ok (.agg #[.int .i64 13, .int .i64 14]) W := by kernel_rfl
theorem Tryz.row14 (W : World) : (Instr.index 125 table16 (.int .i64 14)).run Tryz.prog W = .ok (.agg #[.int .i64 11, .int .i64 15]) W := by kernel_rfl
theorem Tryz.row15 (W : World) : (Instr.index 125 table16 (.int .i64 15)).run Tryz.prog W = .ok (.agg #[.int .i64 1, .int .i64 2]) W := by kernel_rfl
/-- A row of it. -/
theorem Tryz.rowAt (s : Nat) (hs : s < 16) (W : World) : (Instr.index 125 table16 (.int .i64 (s : Int))).run Tryz.prog W = .ok (.agg #[.int .i64 ((nx s 48 : Nat) : Int), .int .i64 ((nx s 49 : Nat) : Int)]) W := by
  have h : s = 0 ∨ s = 1 ∨ s = 2 ∨ s = 3 ∨ s = 4 ∨ s = 5 ∨ s = 6 ∨ s = 7 ∨ s = 8 ∨ s = 9 ∨ s = 10 ∨ s = 11 ∨ s = 12 ∨ s = 13 ∨ s = 14 ∨ s = 15 := by omega
  rcases h with rfl | rfl | rfl | rfl | rfl | rfl | rfl | rfl | rfl | rfl | rfl | rfl | rfl | rfl | rfl | rfl
  · exact Tryz.row0 W
  · exact Tryz.row1 W
  · exact Tryz.row2 W
  · exact Tryz.row3 W
  · exact Tryz.row4 W
  · exact Tryz.row5 W
  · exact Tryz.row6 W
  · exact Tryz.row7 W
  · exact Tryz.row8 W
  · exact Tryz.row9 W
  · exact Tryz.row10 W
  · exact Tryz.row11 W
  · exact Tryz.row12 W
  · exact Tryz.row13 W
  · exact Tryz.row14 W
  · exact Tryz.row15 W

theorem rafter_zero (s : Nat) (w : World) (hs : s < 16) : Calls Tryz.prog 33 #[.int .i64 (s : Int), .int .i64 0] w fun e w' => e = .returned (.int .i64 ((nx s 48 : Nat) : Int)) ∧ w = w' := by
  have h1 := Tryz.rowAt s hs
  have h2 := fun (x y : Value) (W : World) => Tryz.idx0 x y W
  generalize nx s 48 = a at h1 ⊢
  generalize nx s 49 = b at h1
  go_enter Tryz.func33, Tryz.ntmps33
  go_wp2
  go_ret
  exact ⟨rfl, rfl⟩
theorem rafter_one (s : Nat) (w : World) (hs : s < 16) : Calls Tryz.prog 33 #[.int .i64 (s : Int), .int .i64 1] w fun e w' => e = .returned (.int .i64 ((nx s 49 : Nat) : Int)) ∧ w = w' := by
  have h1 := Tryz.rowAt s hs
  have h2 := fun (x y : Value) (W : World) => Tryz.idx1 x y W
  generalize nx s 48 = a at h1
  generalize nx s 49 = b at h1 ⊢
  go_enter Tryz.func33, Tryz.ntmps33
  go_wp2
  go_ret
  exact ⟨rfl, rfl⟩
def inB (n low high : Int) : Bool := decide (low ≤ n) && decide (n ≤ high)
theorem rin_any (n low high : Int) (w : World) : Calls Tryz.prog 26 #[.int .i64 n, .int .i64 low, .int .i64 high] w fun e w' => e = .returned (.bool (inB n low high)) ∧ w = w' := by
  cases h1 : decide (low ≤ n) with
  | false =>
    have e : inB n low high = false := by simp [inB, h1]
    rw [e]
    go_enter Tryz.func26, Tryz.ntmps26
    go_wp2
    go_ret
    exact ⟨rfl, rfl⟩
  | true =>
    cases h2 : decide (n ≤ high) with
    | false =>
      have e : inB n low high = false := by simp [inB, h2]
      rw [e]
      go_enter Tryz.func26, Tryz.ntmps26
      go_wp2
      go_ret
      exact ⟨rfl, rfl⟩
    | true =>
      have e : inB n low high = true := by simp [inB, h1, h2]
      rw [e]
      go_enter Tryz.func26, Tryz.ntmps26
      go_wp2
      go_ret
      exact ⟨rfl, rfl⟩
/-- ErrArg of a number outside a span. -/
def spanErr (n low high : Int) : Int := if inB n low high = true then 0 else 1
theorem spanFault_any (n low high : Int) (w : World) : Calls Tryz.prog 47 #[.int .i64 n, .int .i64 low, .int .i64 high] w fun e w' => e = .returned (.int .i64 (spanErr n low high)) ∧ w = w' := by
  have h := rin_any n low high w
  cases hb : inB n low high with
  | false =>
    have e : spanErr n low high = 1 := by simp [spanErr, hb]
    rw [e]; rw [hb] at h
    go_enter Tryz.func47, Tryz.ntmps47
    go_wp2_with fail
    refine h.mono ?_
    rintro e w' ⟨rfl, rfl⟩
    go_wp2
    go_ret
    exact ⟨rfl, rfl⟩
  | true =>
    have e : spanErr n low high = 0 := by simp [spanErr, hb]
    rw [e]; rw [hb] at h
    go_enter Tryz.func47, Tryz.ntmps47
    go_wp2_with fail
    refine h.mono ?_
    rintro e w' ⟨rfl, rfl⟩
    go_wp2
    go_ret
    exact ⟨rfl, rfl⟩
theorem isBit_any (n : Int) (w : World) : Calls Tryz.prog 29 #[.int .i64 n] w fun e w' => e = .returned (.bool (inB n 0 1)) ∧ w = w' := by
  by_cases h0 : n = 0
  · subst h0
    go_enter Tryz.func29, Tryz.ntmps29
    go_wp2
    go_ret
    exact ⟨rfl, rfl⟩
  · by_cases h1 : n = 1
    · subst h1
      go_enter Tryz.func29, Tryz.ntmps29
      go_wp2
      go_ret
      exact ⟨rfl, rfl⟩
    · have e : inB n 0 1 = false := by simp [inB]; omega
      have e0 : (n == 0) = false := by simpa using h0
      have e1 : (n == 1) = false := by simpa using h1
      rw [e]
      clear e h0 h1
      go_enter Tryz.func29, Tryz.ntmps29
      go_wp2
      go_ret
      exact ⟨rfl, rfl⟩

theorem bitsFault_any (s : ByteArray) (w : World) (hs : s.size ≤ 9223372036854775807) :
    Calls Tryz.prog 80 #[.string s] w fun e w' => e = .returned (.int .i64 (if s.data.toList.all bitB = true then 0 else 9)) ∧ Below w.heap.size w w' := by
  have hcon := Any.strings_Trim_laid Tryz.lays160 (by kernel_rfl) s ⟨#[48, 49]⟩ w hs (by decide) (ascii_of_all (by decide))
  change Calls Tryz.prog 63 _ _ (fun e w' => e = .returned (.string ⟨(Lib.trimS s.data.toList [48, 49]).toArray⟩) ∧ Below w.heap.size w w') at hcon
  rw [← trim_bits]
  generalize Lib.trimS s.data.toList [48, 49] = l at hcon ⊢
  cases hl : l.isEmpty with
  | true =>
    rw [if_pos rfl]
    obtain rfl : l = [] := by simpa using hl
    clear hl
    go_enter Tryz.func80, Tryz.ntmps80
    go_wp2_with fail
    refine hcon.mono ?_
    rintro e w' ⟨rfl, hB⟩
    go_wp2_with fail
    go_ret
    exact ⟨rfl, hB⟩
  | false =>
    rw [if_neg (by decide)]
    have h2 : (⟨l.toArray⟩ : ByteArray).toList.isEmpty = false := by rw [ByteArray.toList_eq]; simpa using hl
    go_enter Tryz.func80, Tryz.ntmps80
    go_wp2_with fail
    refine hcon.mono ?_
    rintro e w' ⟨rfl, hB⟩
    go_wp2_with fail
    go_ret
    exact ⟨rfl, hB⟩
theorem tmsFault_any (s : ByteArray) (w : World) (hs : s.size ≤ 9223372036854775807) :
    Calls Tryz.prog 82 #[.string s] w fun e w' => e = .returned (.int .i64 (clockErr s)) ∧ Below w.heap.size w w' := by
  have hcon := bitsFault_any s w hs
  by_cases h1 : 20000 < s.size
  · have e : clockErr s = 2 := by unfold clockErr; rw [if_pos h1]
    rw [e]
    clear hcon e
    go_enter Tryz.func82, Tryz.ntmps82
    go_wp2_with fail
    go_ret
    exact ⟨rfl, Below.refl _ _⟩
  · have e : clockErr s = (if s.data.toList.all bitB = true then 0 else 9) := by unfold clockErr; rw [if_neg h1]
    rw [e]
    generalize (if s.data.toList.all bitB = true then (0 : Int) else 9) = x at hcon ⊢
    clear e
    go_enter Tryz.func82, Tryz.ntmps82
    go_wp2_with fail
    refine hcon.mono ?_
    rintro e w' ⟨rfl, hB⟩
    go_wp2_with fail
    go_ret
    exact ⟨rfl, hB⟩
end Go.Proofs.YtkipkkaloiefpaaGreatDoor
