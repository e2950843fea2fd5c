/- The contracts of cmp.Or at two errors, and of Next. -/
import Derived.Test.YtnlejnldimihcaaDoorRef
namespace Go.Proofs.YtnlejnldimihcaaDoor
open Go.RowKit

def or2 (x y : Int) : Int := if x = 0 then y else x
theorem or_any (g : Nat) (x y : Int) (w : World) (h0 : w.cell? ⟨g, 0, none⟩ = some (.int .i64 x)) (h1 : w.cell? ⟨g, 1, none⟩ = some (.int .i64 y)) :
    Calls Tryd.prog 8 #[.slice (some ⟨g, 0, none⟩) 2 2] w fun e w' => e = .returned (.int .i64 (or2 x y)) ∧ w = w' := by
  by_cases hx : x = 0
  · subst hx
    have e : or2 0 y = y := by simp [or2]
    rw [e]
    by_cases hy : y = 0
    · subst hy
      clear e
      go_enter Tryd.func8, Tryd.ntmps8
      go_wp2_with fail
      go_loop [5, 8] (fun _ i => ∃ k : Nat, k ≤ 2 ∧ i = .int .i64 (k : Int)) (fun _ i => 2 - (intOf i).toNat)
      case atStart => exact ⟨0, by omega, rfl⟩
      case round =>
        obtain ⟨k, hk, rfl⟩ := hrel
        have : k = 0 ∨ k = 1 ∨ k = 2 := by omega
        rcases this with rfl | rfl | rfl
        · go_wp2_with fail
          go_round
          case rel => exact ⟨1, by omega, by go_num⟩
          case measure => simp [intOf]
        · go_wp2_with fail
          go_round
          case rel => exact ⟨2, by omega, by go_num⟩
          case measure => simp [intOf]
        · go_wp2
          go_ret
          exact ⟨rfl, rfl⟩
    · have hne : (y == 0) = false := by simpa using hy
      clear e hy
      go_enter Tryd.func8, Tryd.ntmps8
      go_wp2_with fail
      go_loop [5, 8] (fun _ i => ∃ k : Nat, k ≤ 1 ∧ i = .int .i64 (k : Int)) (fun _ i => 2 - (intOf i).toNat)
      case atStart => exact ⟨0, by omega, rfl⟩
      case round =>
        obtain ⟨k, hk, rfl⟩ := hrel
        have : k = 0 ∨ k = 1 := by omega
        rcases this with rfl | rfl
        · go_wp2_with fail
          go_round
          case rel => exact ⟨1, by omega, by go_num⟩
          case measure => simp [intOf]
        · go_wp2
          go_ret
          exact ⟨rfl, rfl⟩
  · have e : or2 x y = x := by simp [or2, hx]
    rw [e]
    have hne : (x == 0) = false := by simpa using hx
    clear e hx
    go_enter Tryd.func8, Tryd.ntmps8
    go_wp2_with fail
    go_loop [5, 8] (fun _ i => i = .int .i64 (((0 : Nat) : Nat) : Int)) (fun _ i => 2 - (intOf i).toNat)
    case atStart => rfl
    case round =>
      obtain rfl := hrel
      go_wp2
      go_ret
      exact ⟨rfl, rfl⟩

/-- Next of a right state and a right bit. -/
theorem next_zero (s : Nat) (w : World) (hs : s < 16) (hT : Tab w) : Calls Tryd.prog 12 #[.int .i64 (s : Int), .int .i64 0] w fun e w' => e = .returned (.tuple #[.int .i64 ((nx s 48 : Nat) : Int), .int .i64 0]) ∧ w = w' := by
  have h1 := isState_yes (s : Int) w (by omega) (by omega)
  have h2 : Calls Tryd.prog 33 #[.int .i64 0] w fun e w' => e = .returned (.bool true) ∧ w = w' := isBit_any 0 w
  have h3 := hT.at0 hs
  clear hT
  generalize nx s 48 = v at h3 ⊢
  go_enter Tryd.func12, Tryd.ntmps12
  go_wp2_with fail
  refine h1.mono ?_
  rintro e w' ⟨rfl, rfl⟩
  go_wp2_with fail
  refine h2.mono ?_
  rintro e w' ⟨rfl, rfl⟩
  go_wp2_with fail
  go_ret2
  exact ⟨rfl, rfl⟩
theorem next_one (s : Nat) (w : World) (hs : s < 16) (hT : Tab w) : Calls Tryd.prog 12 #[.int .i64 (s : Int), .int .i64 1] w fun e w' => e = .returned (.tuple #[.int .i64 ((nx s 49 : Nat) : Int), .int .i64 0]) ∧ w = w' := by
  have h1 := isState_yes (s : Int) w (by omega) (by omega)
  have h2 : Calls Tryd.prog 33 #[.int .i64 1] w fun e w' => e = .returned (.bool true) ∧ w = w' := isBit_any 1 w
  have h3 := hT.at1 hs
  clear hT
  generalize nx s 49 = v at h3 ⊢
  go_enter Tryd.func12, Tryd.ntmps12
  go_wp2_with fail
  refine h1.mono ?_
  rintro e w' ⟨rfl, rfl⟩
  go_wp2_with fail
  refine h2.mono ?_
  rintro e w' ⟨rfl, rfl⟩
  go_wp2_with fail
  go_ret2
  exact ⟨rfl, rfl⟩
/-- Next of a wrong one. -/
theorem next_state (a bit : Int) (w : World) (h : a < 0 ∨ 16 ≤ a) : Calls Tryd.prog 12 #[.int .i64 a, .int .i64 bit] w fun e w' => e = .returned (.tuple #[.int .i64 0, .int .i64 1]) ∧ w = w' := by
  have h1 := isState_no a w h
  clear h
  go_enter Tryd.func12, Tryd.ntmps12
  go_wp2_with fail
  refine h1.mono ?_
  rintro e w' ⟨rfl, rfl⟩
  go_wp2_with fail
  go_ret2
  exact ⟨rfl, rfl⟩
theorem next_bit (a bit : Int) (w : World) (h0 : 0 ≤ a) (h1 : a < 16) (hb : inB bit 0 1 = false) : Calls Tryd.prog 12 #[.int .i64 a, .int .i64 bit] w fun e w' => e = .returned (.tuple #[.int .i64 0, .int .i64 1]) ∧ w = w' := by
  have h2 := isState_yes a w h0 h1
  have h3 := isBit_any bit w
  rw [hb] at h3
  clear hb h0 h1
  go_enter Tryd.func12, Tryd.ntmps12
  go_wp2_with fail
  refine h2.mono ?_
  rintro e w' ⟨rfl, rfl⟩
  go_wp2_with fail
  refine h3.mono ?_
  rintro e w' ⟨rfl, rfl⟩
  go_wp2_with fail
  go_ret2
  exact ⟨rfl, rfl⟩
end Go.Proofs.YtnlejnldimihcaaDoor
