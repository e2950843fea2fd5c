/- The law's 'faulted', by what is to be said of Combined. -/
import Derived.Test.YtgnkihiibednoaaGreatDoorFrS
namespace Go.Proofs.YtgnkihiibednoaaGreatDoor
open Go.RowKit

theorem faulted_err : listErr [[48, 49]] [((2 : Int), [(0 : Int)])] = 0 := by decide +kernel
theorem faulted_resp : respL [[48, 49]] ((2 : Int), [(0 : Int)]) 2 = [[49, 49]] := by decide +kernel
set_option maxHeartbeats 4000000 in
theorem faulted_any (hC : CombSaid) (w : World) : Calls Tryz.prog 21 #[] w fun e w' => e = .returned (.bool true) ∧ Below w.heap.size w w' := by
  have hBa : Below w.heap.size w (w.alloc (.cells #[.string ⟨#[48, 49]⟩] 9)) := (Below.refl _ _).alloc (Nat.le_refl _) _
  have hBb : Below w.heap.size w ((w.alloc (.cells #[.string ⟨#[48, 49]⟩] 9)).alloc (.cells #[.int .i64 0] 3)) := hBa.alloc (by simp) _
  have hS : StrsAt w.heap.size (w.alloc (.cells #[.string ⟨#[48, 49]⟩] 9)) (.slice (some ⟨w.heap.size, 0, none⟩) 1 1) [[48, 49]] :=
    World.ownsRow_lit w #[.string ⟨#[48, 49]⟩] 1 (Nat.le_refl _) (by unfold maxLen; omega) rfl
  have hN : NetsAt ((w.alloc (.cells #[.string ⟨#[48, 49]⟩] 9)).alloc (.cells #[.int .i64 0] 3)) (.slice (some ⟨w.heap.size + 1, 0, none⟩) 1 1) [0] := by
    refine ⟨_, _, rfl, Nat.le_refl _, fun _ => ⟨w.heap.size + 1, 0, rfl, by simp, fun j hj => ?_⟩⟩
    have : j = 0 := by simpa using hj
    subst this
    simp
  have hq := flResponse_any hC [[48, 49]] (by decide) (fun k hk => by
    have : k = 0 := by simpa using hk
    subst this
    decide) 2 [0] (by decide) w.heap.size _ _ _ (row_later hS ((Below.refl _ _).alloc (Nat.le_refl _) (.cells #[.int .i64 0] 3))) hN
  rw [faulted_err, if_pos rfl] at hq
  change Calls _ _ _ _ (fun e w' => ∃ v', _ ∧ StrsAt _ w' v' (respL [[48, 49]] ((2 : Int), [(0 : Int)]) 2) ∧ _) at hq
  rw [faulted_resp] at hq
  have HB := Lib.hid hBb
  clear hBa hBb hS hN
  go_enter Tryz.func21, Tryz.ntmps21
  go_wp2_with fail
  refine hq.mono ?_
  rintro e w3 ⟨v', rfl, hv', hB3⟩
  obtain ⟨va, vc, rfl, hop⟩ := strs_open hv'
  obtain ⟨g, rfl, hg, hcell⟩ := hop (by decide)
  have hc := hcell 0 (by decide)
  change _ = some (Value.string ⟨#[49, 49]⟩) at hc
  have H3 := Lib.hid (HB.out.trans (hB3.mono HB.out.size))
  clear hq hB3 hv' hop hcell
  have e1 : ([[49, 49]] : List (List UInt8)).length = 1 := rfl
  rw [e1]
  clear e1
  go_wp2_with fail
  go_ret
  exact ⟨rfl, H3.out⟩
end Go.Proofs.YtgnkihiibednoaaGreatDoor
