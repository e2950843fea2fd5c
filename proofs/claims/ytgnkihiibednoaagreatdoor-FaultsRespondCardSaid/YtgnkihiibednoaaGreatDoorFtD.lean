/- Package fault's All. -/
import Derived.Test.YtgnkihiibednoaaGreatDoorFtC
import Derived.Laws.AppendOwnNone
namespace Go.Proofs.YtgnkihiibednoaaGreatDoor
open Go.RowKit

theorem allKinds_take (n : Nat) (K : List Int) (i : Nat) (hi : i < K.length) : allKinds n (K.take (i + 1)) = allKinds n (K.take i) ++ allTo (K.getD i 0) n n := by
  have e : K.getD i 0 = K[i] := by simp [hi]
  rw [List.take_succ_eq_append_getElem hi, allKinds_snoc, e]

end Go.Proofs.YtgnkihiibednoaaGreatDoor
