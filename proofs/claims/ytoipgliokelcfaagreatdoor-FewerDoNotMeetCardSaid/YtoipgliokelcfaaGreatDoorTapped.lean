/- The contracts of Path, tapped, when, repeated. -/
import Derived.Test.YtoipgliokelcfaaGreatDoorPath
namespace Go.Proofs.YtoipgliokelcfaaGreatDoor
open Go.RowKit

theorem path_ok (f t : Nat) (w : World) (hf : f < 16) (ht : t < 16) (hT : Tab w) :
    Calls Tryz.prog 10 #[.int .i64 (f : Int), .int .i64 (t : Int)] w fun e w' => e = .returned (.tuple #[.string ⟨(pathOf f t).toArray⟩, .int .i64 0]) ∧ Below w.heap.size w w' := by
  have h1 := isState_yes (f : Int) w (by omega) (by omega)
  have h2 := isState_yes (t : Int) w (by omega) (by omega)
  have h3 := shortest_any f t w hf ht hT
  generalize pathOf f t = pl at h3 ⊢
  go_enter Tryz.func10, Tryz.ntmps10
  go_wp2_with fail
  refine h1.mono ?_
  rintro e w' ⟨rfl, rfl⟩
  go_wp2_with fail
  refine h2.mono ?_
  rintro e w' ⟨rfl, rfl⟩
  go_wp2_with fail
  refine h3.mono ?_
  rintro e w' ⟨rfl, hB⟩
  go_wp2_with fail
  go_ret2
  exact ⟨rfl, hB⟩

theorem path_110 : pathOf 4 1 = [49, 49, 48] := by decide +kernel

end Go.Proofs.YtoipgliokelcfaaGreatDoor
