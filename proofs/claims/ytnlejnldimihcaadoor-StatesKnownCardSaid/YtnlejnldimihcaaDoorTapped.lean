/- The contracts of Path, tapped, when, repeated. -/
import Derived.Test.YtnlejnldimihcaaDoorPath
namespace Go.Proofs.YtnlejnldimihcaaDoor
open Go.RowKit

theorem path_ok (f t : Nat) (w : World) (hf : f < 16) (ht : t < 16) (hT : Tab w) :
    Calls Tryd.prog 14 #[.int .i64 (f : Int), .int .i64 (t : Int)] w fun e w' => e = .returned (.tuple #[.string ⟨(pathOf f t).toArray⟩, .int .i64 0]) ∧ Below w.heap.size w w' := by
  have h1 := isState_yes (f : Int) w (by omega) (by omega)
  have h2 := isState_yes (t : Int) w (by omega) (by omega)
  have h3 := shortest_any f t w hf ht hT
  generalize pathOf f t = pl at h3 ⊢
  go_enter Tryd.func14, Tryd.ntmps14
  go_wp2_with fail
  refine h1.mono ?_
  rintro e w' ⟨rfl, rfl⟩
  go_wp2_with fail
  refine h2.mono ?_
  rintro e w' ⟨rfl, rfl⟩
  go_wp2_with fail
  refine h3.mono ?_
  rintro e w' ⟨rfl, hB⟩
  go_wp2_with fail
  go_ret2
  exact ⟨rfl, hB⟩

theorem path_110 : pathOf 4 1 = [49, 49, 48] := by decide +kernel

/-- tapped: the package knows the way from one state to another one. -/
theorem tapped_any (w : World) (hT : Tab w) : Calls Tryd.prog 21 #[] w fun e w' => e = .returned (.bool true) ∧ Below w.heap.size w w' := by
  have h := path_ok 4 1 w (by decide) (by decide) hT
  rw [path_110] at h
  go_enter Tryd.func21, Tryd.ntmps21
  go_wp2_with fail
  refine h.mono ?_
  rintro e w' ⟨rfl, hB⟩
  go_wp2_with fail
  go_ret
  exact ⟨rfl, hB⟩

theorem when_any (b : Bool) (e0 : Int) (w : World) : Calls Tryd.prog 23 #[.bool b, .int .i64 e0] w fun e w' => e = .returned (.int .i64 (if b then e0 else 0)) ∧ w = w' := by
  cases b
  all_goals
    go_enter Tryd.func23, Tryd.ntmps23
    go_wp2
    go_ret
    exact ⟨rfl, rfl⟩

theorem repeated_any (s : ByteArray) (n : Nat) (w : World) (h : s.size * n ≤ 140737488355328) (hn : n ≤ 9223372036854775807) :
    Calls Tryd.prog 22 #[.string s, .int .i64 (n : Int)] w fun e w' => e = .returned (.string ⟨(Lib.repeatL s.data.toList n).toArray⟩) ∧ Below w.heap.size w w' := by
  have hcon := Tryd.strings_Repeat s n w hn h
  generalize Lib.repeatL s.data.toList n = l at hcon ⊢
  clear h hn
  go_enter Tryd.func22, Tryd.ntmps22
  go_wp2_with fail
  refine hcon.mono ?_
  rintro e w' ⟨rfl, hB⟩
  go_wp2_with fail
  go_ret
  exact ⟨rfl, hB⟩
end Go.Proofs.YtnlejnldimihcaaDoor
