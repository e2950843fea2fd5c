/- The contract of Synchronizes. -/
import Derived.Test.YtoipgliokelcfaaGreatDoorBits
namespace Go.Proofs.YtoipgliokelcfaaGreatDoor
open Go.RowKit

/-- All states below k lead where state 0 leads. -/
def AllTo (l : List UInt8) (k : Nat) : Prop := ∀ j, j < k → nxs j l = nxs 0 l

theorem AllTo.succ {l : List UInt8} {k : Nat} (h : AllTo l k) (e : nxs k l = nxs 0 l) : AllTo l (k + 1) := fun j hj => by
  by_cases hjk : j = k
  · rw [hjk]; exact e
  · exact h j (by omega)

theorem clockErr_size {s : ByteArray} (h : clockErr s = 0) : s.size ≤ 20000 := by
  unfold clockErr at h
  by_cases h1 : 20000 < s.size
  · rw [if_pos h1] at h; omega
  · omega
theorem clockErr_bits {s : ByteArray} (h : clockErr s = 0) : s.data.toList.all bitB = true := by
  unfold clockErr at h
  by_cases h1 : 20000 < s.size
  · rw [if_pos h1] at h; omega
  · rw [if_neg h1] at h
    by_cases h2 : s.data.toList.all bitB = true
    · exact h2
    · rw [if_neg h2] at h; omega

theorem sync_err (s : ByteArray) (w : World) (hs : s.size ≤ 9223372036854775807) (he : clockErr s ≠ 0) :
    Calls Tryz.prog 8 #[.string s] w fun e w' => e = .returned (.tuple #[.int .i64 0, .bool false, .int .i64 (clockErr s)]) ∧ Below w.heap.size w w' := by
  have hcon := checkClocks_any s w hs
  have hne : (clockErr s == 0) = false := by simpa using he
  generalize clockErr s = c at hcon he hne ⊢
  go_enter Tryz.func8, Tryz.ntmps8
  go_wp2_with fail
  refine hcon.mono ?_
  rintro e w' ⟨rfl, hB⟩
  go_wp2_with fail
  go_ret3
  exact ⟨rfl, hB⟩

theorem sync_yes (s : ByteArray) (w : World) (he : clockErr s = 0) (hT : Tab w) (hall : AllTo s.data.toList 16) :
    Calls Tryz.prog 8 #[.string s] w fun e w' => e = .returned (.tuple #[.int .i64 (nxs 0 s.data.toList : Int), .bool true, .int .i64 0]) ∧ Below w.heap.size w w' := by
  have hsz := clockErr_size he
  have hbits := clockErr_bits he
  have hcon := checkClocks_any s w (by omega)
  have hlt := hT.lt
  rw [he] at hcon
  clear he
  go_enter Tryz.func8, Tryz.ntmps8
  go_wp2_with fail
  refine hcon.mono ?_
  rintro e w1 ⟨rfl, hB⟩
  have hT1 := hT.below hB hlt
  go_wp2_with fail
  refine (lastState_any 0 s w1 (by omega) (by omega) hbits hT1).mono ?_
  rintro e w' ⟨rfl, rfl⟩
  go_wp2_with fail
  go_loop [7, 15] (fun _ i => ∃ k : Nat, k ≤ 16 ∧ i = .int .i64 (k : Int)) (fun _ i => 16 - (intOf i).toNat)
  case atStart => exact ⟨0, by omega, rfl⟩
  case round =>
    obtain ⟨k, hk, rfl⟩ := hrel
    by_cases hk16 : k < 16
    · have hcl := fun (W : World) (hW : Tab W) => lastState_any k s W (by omega) (by omega) hbits hW
      rw [hall k hk16] at hcl
      clear hall hcon
      generalize nxs 0 s.data.toList = a at hcl ⊢
      go_wp2_with fail
      refine (hcl _ hT1).mono ?_
      rintro e w' ⟨rfl, rfl⟩
      go_wp2_with fail
      go_round
      case rel => exact ⟨k + 1, by omega, by go_num⟩
      case measure => simp [intOf]; omega
    · obtain rfl : k = 16 := by omega
      go_wp2
      go_ret3
      exact ⟨rfl, hB⟩

theorem sync_no (s : ByteArray) (w : World) (he : clockErr s = 0) (hT : Tab w) (hall : ¬ AllTo s.data.toList 16) :
    Calls Tryz.prog 8 #[.string s] w fun e w' => e = .returned (.tuple #[.int .i64 0, .bool false, .int .i64 0]) ∧ Below w.heap.size w w' := by
  have hsz := clockErr_size he
  have hbits := clockErr_bits he
  have hcon := checkClocks_any s w (by omega)
  have hlt := hT.lt
  rw [he] at hcon
  clear he
  go_enter Tryz.func8, Tryz.ntmps8
  go_wp2_with fail
  refine hcon.mono ?_
  rintro e w1 ⟨rfl, hB⟩
  have hT1 := hT.below hB hlt
  go_wp2_with fail
  refine (lastState_any 0 s w1 (by omega) (by omega) hbits hT1).mono ?_
  rintro e w' ⟨rfl, rfl⟩
  go_wp2_with fail
  go_loop [7, 15] (fun _ i => ∃ k : Nat, k ≤ 16 ∧ i = .int .i64 (k : Int) ∧ AllTo s.data.toList k) (fun _ i => 16 - (intOf i).toNat)
  case atStart => exact ⟨0, by omega, rfl, fun j hj => by omega⟩
  case round =>
    obtain ⟨k, hk, rfl, hto⟩ := hrel
    by_cases hk16 : k < 16
    · have hcl := fun (W : World) (hW : Tab W) => lastState_any k s W (by omega) (by omega) hbits hW
      by_cases hab : nxs k s.data.toList = nxs 0 s.data.toList
      · have hnext := hto.succ hab
        rw [hab] at hcl
        clear hab hto hall hcon
        generalize nxs 0 s.data.toList = a at hcl ⊢
        go_wp2_with fail
        refine (hcl _ hT1).mono ?_
        rintro e w' ⟨rfl, rfl⟩
        go_wp2_with fail
        go_round
        case rel => exact ⟨k + 1, by omega, by go_num, hnext⟩
        case measure => simp [intOf]; omega
      · clear hto hall hcon
        generalize nxs 0 s.data.toList = a at hcl hab ⊢
        generalize nxs k s.data.toList = b at hcl hab ⊢
        have hne : ((b : Int) == (a : Int)) = false := by simp; omega
        have hne2 : (b == a) = false := by simpa using hab
        go_wp2_with fail
        refine (hcl _ hT1).mono ?_
        rintro e w' ⟨rfl, rfl⟩
        go_wp2_with fail
        go_ret3
        exact ⟨rfl, hB⟩
    · obtain rfl : k = 16 := by omega
      exact absurd hto hall
end Go.Proofs.YtoipgliokelcfaaGreatDoor
