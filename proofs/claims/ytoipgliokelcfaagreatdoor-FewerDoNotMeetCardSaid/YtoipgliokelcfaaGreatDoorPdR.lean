/- A region that draws its order, in a round at the wide fence: by the walk of the same region outside the round. -/
import Derived.Test.YtoipgliokelcfaaGreatDoorPdI
import Derived.OrdersIn
import Derived.RegionIn
namespace Go.Proofs.YtoipgliokelcfaaGreatDoor
open Go.RowKit Go.Shelf

def noDefer (ops : Array Oper) : Bool := ops.all fun o => match o.op with | .defer _ => false | _ => true

theorem noDefer_at {ops : Array Oper} (h : noDefer ops = true) {i : Nat} {o : Oper} (ho : ops[i]? = some o) (c : Call) : o.op ≠ .defer c := by
  intro hc
  unfold noDefer at h
  rw [Array.all_eq_true] at h
  obtain ⟨hi, he⟩ := Array.getElem?_eq_some_iff.1 ho
  have := h i hi
  rw [he, hc] at this
  exact absurd this Bool.false_ne_true

theorem ops_round {F : Fence} (hF : F.round = none) {n : Nat} {P : Program} {ops : Array Oper} {Q : Exit → Act → World → Prop} (l : Nat) (hnd : noDefer ops = true) :
    ∀ (is : List Nat) (a : Act) (w : World), wpOpsIn F n P ops Q is a w → wpOpsIn (F.inRound l) n P ops Q is a w
  | [], _, _, h => h
  | i :: rest, a, w, h => by
    unfold wpOpsIn at h ⊢
    cases ho : ops[i]? with
    | none =>
      simp only [ho] at h ⊢
      exact ops_round hF l hnd rest a w h
    | some o =>
      simp only [ho] at h ⊢
      split
      · rename_i hw
        simp only [hw, if_true] at h
        have h2 := Oper.wpIn_mono (fun a w => ops_round hF l hnd rest a w) h
        unfold Oper.wpIn at h2 ⊢
        rw [hF, Oper.semAt_none] at h2
        rw [Fence.inRound_round, Oper.semAt_some l _ _ (noDefer_at hnd ho)]
        refine ⟨h2.1, ?_⟩
        have h3 := h2.2
        generalize (execOp a.eval o).run P w = r at h3 ⊢
        cases r with
        | ok x w' => cases x <;> exact h3
        | halt x w' => cases x <;> exact h3
      · rename_i hw
        simp only [hw] at h
        exact ⟨h.1, ops_round hF l hnd rest _ w h.2⟩

theorem region_round {F : Fence} {n : Nat} {P : Program} {ops : Array Oper} {Q : Exit → Act → World → Prop} {id l : Nat} {a : Act} {w : World}
    (hF : F.round = none) (hm : P.follows .mixedOrders = true) (hnd : noDefer ops = true)
    (h : wpAnyIn F n P .any ops Q ops.size (Array.replicate ops.size false) a w.drew) : (Code.region id ops true).wpIn (F.inRound l) n P Q a w :=
  wpIn_region_draw fun t => by
    simp only [Region.schedule, hm, Bool.true_or, if_true]
    exact ops_round hF l hnd _ _ _ (wpAnyIn_sound ops.size t _ a _ h)
end Go.Proofs.YtoipgliokelcfaaGreatDoor
