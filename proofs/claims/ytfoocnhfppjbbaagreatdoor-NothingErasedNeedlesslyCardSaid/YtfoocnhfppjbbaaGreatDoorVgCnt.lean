/- Package pattern's Counting; patterned: the package counts. -/
import Derived.Test.YtfoocnhfppjbbaaGreatDoorVgGen
import Derived.Test.YtfoocnhfppjbbaaGreatDoorShelf
namespace Go.Proofs.YtfoocnhfppjbbaaGreatDoor
open Go.RowKit

theorem drewN_below (w : World) (q : Nat) : Below w.heap.size w (w.drewN q) := ⟨rfl, rfl, rfl, Nat.le_refl _, fun _ _ => rfl⟩
set_option maxRecDepth 100000 in
theorem counting_ok (nets : Nat) (h1 : 1 ≤ nets) (h2 : nets ≤ 100) (w : World) : Calls Tryz.prog 28 #[.int .i64 (nets : Int)] w fun e w' => ∃ (k : Nat) (v : Value), k ≤ 9 ∧ Least 2 nets k ∧ e = .returned (.tuple #[v, .int .i64 0]) ∧ StrsAt w.heap.size w' v (turnL (genS 2 nets k) k) ∧ Below w.heap.size w w' := by
  have hs := generate2_ok nets h1 h2 w
  go_enter Tryz.func28, Tryz.ntmps28
  go_wp2_with fail
  refine hs.mono ?_
  rintro e w2 ⟨k, v, hk, hle, rfl, hv, hB⟩
  clear hs
  have HV := Lib.hid (⟨hle, hv, hB⟩ : _ ∧ _ ∧ _)
  clear hle hB
  obtain ⟨-, ⟨rfl, h0⟩ | ⟨g, cap, cur, rfl, -⟩⟩ := hv
  · clear h0
    go_wp2_with fail
    go_ret2
    exact ⟨k, _, hk, HV.out.1, rfl, HV.out.2⟩
  · go_wp2_with fail
    go_ret2
    exact ⟨k, _, hk, HV.out.1, rfl, HV.out.2⟩
set_option maxRecDepth 100000 in
theorem counting_bad (nets : Int) (h : netsErr nets ≠ 0) (w : World) : Calls Tryz.prog 28 #[.int .i64 nets] w fun e w' => e = .returned (.tuple #[.slice none 0 0, .int .i64 1]) ∧ Below w.heap.size w w' := by
  have hs := generate_bad nets 2 1 (by decide) w (shortest_nets nets 2 h w)
  clear h
  go_enter Tryz.func28, Tryz.ntmps28
  go_wp2_with fail
  refine hs.mono ?_
  rintro e w2 ⟨rfl, hB⟩
  clear hs
  go_wp2_with fail
  go_ret2
  exact ⟨rfl, hB⟩

theorem least_three : Least 2 3 3 := ⟨by decide +kernel, by decide +kernel⟩
theorem turn_three : turnL (genS 2 3 3) 3 = [[48, 48, 48], [48, 49, 49], [49, 48, 49]] := by decide +kernel
end Go.Proofs.YtfoocnhfppjbbaaGreatDoor
