/- Package pattern's small functions: checkNets, ones, countOnes, serving's functions. -/
import Derived.Test.YtoipgliokelcfaaGreatDoorStream
import Derived.Test.YtoipgliokelcfaaGreatDoorVgM
namespace Go.Proofs.YtoipgliokelcfaaGreatDoor
open Go.RowKit

/-- What is wrong with a number of nets. -/
def netsErr (n : Int) : Int := if 1 ≤ n ∧ n ≤ 100 then 0 else 1
theorem checkNets_any (n : Int) (w : World) : Calls Tryz.prog 40 #[.int .i64 n] w fun e w' => e = .returned (.int .i64 (netsErr n)) ∧ w = w' := by
  unfold netsErr
  by_cases h1 : n < 1
  · rw [if_neg (by omega)]
    go_enter Tryz.func40, Tryz.ntmps40
    go_wp2_with fail
    go_ret
    exact ⟨rfl, rfl⟩
  by_cases h2 : 100 < n
  · rw [if_neg (by omega)]
    go_enter Tryz.func40, Tryz.ntmps40
    go_wp2_with fail
    go_ret
    exact ⟨rfl, rfl⟩
  · rw [if_pos (by omega)]
    have h3 : n ≤ 100 := by omega
    have h4 : 1 ≤ n := by omega
    go_enter Tryz.func40, Tryz.ntmps40
    go_wp2_with fail
    go_ret
    exact ⟨rfl, rfl⟩

theorem ones_any (long : Nat) (h : long ≤ 9) (w : World) : Calls Tryz.prog 117 #[.int .i64 (long : Int)] w fun e w' => e = .returned (.int .i64 ((2 ^ long : Nat) - 1 : Int)) ∧ w = w' := by
  have : long = 0 ∨ long = 1 ∨ long = 2 ∨ long = 3 ∨ long = 4 ∨ long = 5 ∨ long = 6 ∨ long = 7 ∨ long = 8 ∨ long = 9 := by omega
  rcases this with rfl | rfl | rfl | rfl | rfl | rfl | rfl | rfl | rfl | rfl
  all_goals
    go_enter Tryz.func117, Tryz.ntmps117
    go_wp2_with fail
    go_ret
    exact ⟨rfl, rfl⟩

theorem onesCount64_any (n : Nat) (h : n < 512) (w : World) : Calls Tryz.prog 148 #[.int .u64 (n : Int)] w fun e w' => e = .returned (.int .i64 (popN n : Int)) ∧ w = w' := by
  have h0 : (0 : Int) ≤ (n : Int) := by omega
  go_enter Tryz.func148, Tryz.ntmps148
  go_wp2_with fail
  go_ret
  refine ⟨?_, rfl⟩
  show Ending.returned (Value.int IntKind.i64 _) = _
  refine congrArg (fun z => Ending.returned (Value.int IntKind.i64 z)) ?_
  clear h0
  revert h
  revert n
  decide +kernel
set_option maxRecDepth 100000 in
theorem onesCount_any (n : Nat) (h : n < 512) (w : World) : Calls Tryz.prog 135 #[.int .u64 (n : Int)] w fun e w' => e = .returned (.int .i64 (popN n : Int)) ∧ w = w' := by
  have hc := fun W => onesCount64_any n h W
  clear h
  go_enter Tryz.func135, Tryz.ntmps135
  go_wp2_with fail
  refine (hc _).mono ?_
  rintro e w' ⟨rfl, rfl⟩
  go_wp2_with fail
  go_ret
  exact ⟨rfl, rfl⟩
set_option maxRecDepth 100000 in
theorem countOnes_any (n : Nat) (h : n < 512) (w : World) : Calls Tryz.prog 119 #[.int .i64 (n : Int)] w fun e w' => e = .returned (.int .i64 (popN n : Int)) ∧ w = w' := by
  have hc := fun W => onesCount_any n h W
  have h0 : (0 : Int) ≤ (n : Int) := by omega
  have h1 : (n : Int) ≤ 512 := by omega
  clear h
  go_enter Tryz.func119, Tryz.ntmps119
  go_wp2_with fail
  refine (hc _).mono ?_
  rintro e w' ⟨rfl, rfl⟩
  go_wp2_with fail
  go_ret
  exact ⟨rfl, rfl⟩

theorem popN_le (n : Nat) : popN n ≤ 10 := by
  unfold popN
  have := List.length_filter_le (fun i => n.testBit i) (List.range 10)
  simpa using this

/-- The three functions that tell whether a number serves. -/
theorem serv1_any (n long : Nat) (w : World) : Calls Tryz.prog 115 #[.int .i64 (n : Int), .int .i64 (long : Int)] w fun e w' => e = .returned (.bool (servB 1 long n)) ∧ w = w' := by
  go_enter Tryz.func115, Tryz.ntmps115
  go_wp2_with fail
  go_ret
  exact ⟨rfl, rfl⟩
theorem serv2_any (n long : Nat) (hl : long ≤ 9) (w : World) : Calls Tryz.prog 116 #[.int .i64 (n : Int), .int .i64 (long : Int)] w fun e w' => e = .returned (.bool (servB 2 long n)) ∧ w = w' := by
  have hone := fun W => ones_any long hl W
  have hp : 1 ≤ 2 ^ long := Nat.one_le_two_pow
  by_cases h0 : n = 0
  · subst h0
    have e : servB 2 long 0 = false := rfl
    rw [e]
    clear e hone
    go_enter Tryz.func116, Tryz.ntmps116
    go_wp2_with fail
    go_ret
    exact ⟨rfl, rfl⟩
  · have hn1 : ((n : Int) != 0) = true := by simpa using h0
    have hn2 : ((n : Int) == 0) = false := by simpa using h0
    have e : servB 2 long n = (n != 2 ^ long - 1) := by
      unfold servB
      rw [if_neg (by decide), if_pos rfl]
      have : (n != 0) = true := by simpa using h0
      rw [this, Bool.true_and]
    have e2 : ((n : Int) != ((2 ^ long : Nat) - 1 : Int)) = servB 2 long n := by
      rw [e, Bool.eq_iff_iff]
      simp only [bne_iff_ne, ne_eq]
      omega
    have HE := Lib.hid e2
    clear e e2 h0
    generalize ((2 ^ long : Nat) - 1 : Int) = z at hone HE
    go_enter Tryz.func116, Tryz.ntmps116
    go_wp2_with fail
    refine (hone _).mono ?_
    rintro e w' ⟨rfl, rfl⟩
    go_wp2_with fail
    go_ret
    rw [← HE.out]
    exact ⟨rfl, rfl⟩
theorem serv3_any (n long : Nat) (h : n < 512) (hlong : long ≤ 9) (w : World) : Calls Tryz.prog 118 #[.int .i64 (n : Int), .int .i64 (long : Int)] w fun e w' => e = .returned (.bool (servB 3 long n)) ∧ w = w' := by
  have hc := fun W => countOnes_any n h W
  have e2 : ((popN n : Int) == (long : Int) / 2) = servB 3 long n := by
    unfold servB
    rw [if_neg (by decide), if_neg (by decide), Bool.eq_iff_iff]
    simp only [beq_iff_eq]
    omega
  have HE := Lib.hid e2
  have hl : (0 : Int) ≤ (long : Int) := by omega
  have hl9 : (long : Int) ≤ 9 := by omega
  clear e2 h
  generalize (popN n : Int) = z at hc HE
  go_enter Tryz.func118, Tryz.ntmps118
  go_wp2_with fail
  refine (hc _).mono ?_
  rintro e w' ⟨rfl, rfl⟩
  go_wp2_with fail
  go_ret
  rw [← HE.out]
  exact ⟨rfl, rfl⟩
end Go.Proofs.YtoipgliokelcfaaGreatDoor
