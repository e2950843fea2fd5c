/- The reference's EqualOf. -/
import Derived.Test.YtoipgliokelcfaaGreatDoorPdF
import Derived.Deep.CutRange
namespace Go.Proofs.YtoipgliokelcfaaGreatDoor
open Go.RowKit Go.Maps

theorem own_drewN2 {w : World} {B e size n : Nat} {v : Value} {xs : List Value} (h : w.ownsRow B e size v n xs) (q : Nat) : (w.drewN q).ownsRow B e size v n xs := h
/-- Rows of numbers, each in a block of its own, other than the block of their heads. -/
def GroupsOwn (w : World) (B : Nat) (v : Value) (G : List (List Nat)) : Prop := ∃ vals : List Value, vals.length = G.length ∧ w.ownsRow B 22 1 v G.length vals ∧ ∀ i, i < G.length → (∃ Bi, NatsAt Bi w (vals.getD i undef) (G.getD i [])) ∧ (vals.getD i undef).ownBlock ≠ v.ownBlock
theorem GroupsOwn.at {w : World} {B : Nat} {v : Value} {G : List (List Nat)} (h : GroupsOwn w B v G) : GroupsAt w v G := by
  obtain ⟨vals, h1, h2, h3⟩ := h
  exact ⟨B, vals, h1, h2, fun i hi => (h3 i hi).1⟩
theorem GroupsOwn.later {w w' : World} {B : Nat} {v : Value} {G : List (List Nat)} (h : GroupsOwn w B v G) (hB : Below w.heap.size w w') : GroupsOwn w' B v G := by
  obtain ⟨vals, h1, h2, h3⟩ := h
  refine ⟨vals, h1, row_later h2 hB, fun i hi => ?_⟩
  obtain ⟨⟨Bi, h4⟩, h5⟩ := h3 i hi
  exact ⟨⟨Bi, row_later h4 hB⟩, h5⟩
theorem GroupsOwn.block {w : World} {B : Nat} {v : Value} {G : List (List Nat)} (h : GroupsOwn w B v G) (x : Nat) (hx : v.ownBlock = some x) : B ≤ x ∧ x < w.heap.size := by
  obtain ⟨vals, _, h2, _⟩ := h
  exact h2.lt x hx
theorem GroupsOwn.form {w : World} {B : Nat} {v : Value} {G : List (List Nat)} (h : GroupsOwn w B v G) : ∃ a c, v = .slice a G.length c := by
  obtain ⟨vals, _, h2, _⟩ := h
  exact slice_form h2
/-- One row more. -/
theorem GroupsOwn.push {w w4 : World} {B g5 c5 : Nat} {v x : Value} {G : List (List Nat)} {I : List Nat} {vals : List Value} {Bx : Nat} (h1 : vals.length = G.length) (h3 : ∀ i, i < G.length → (∃ Bi, NatsAt Bi w (vals.getD i undef) (G.getD i [])) ∧ (vals.getD i undef).ownBlock ≠ v.ownBlock)
    (hx : NatsAt Bx w x I) (hxb : x.ownBlock ≠ v.ownBlock) (hown : w4.ownsRow B 22 1 (.slice (some ⟨g5, 0, none⟩) (G.length + 1) c5) (G.length + 1) (vals ++ [x])) (hg : w.grownBy w4 v.ownBlock) (hat : v.ownBlock = some g5 ∨ w.heap.size ≤ g5) :
    GroupsOwn w4 B (.slice (some ⟨g5, 0, none⟩) (G.length + 1) c5) (G ++ [I]) := by
  have hl1 : (G ++ [I]).length = G.length + 1 := by simp
  refine ⟨vals ++ [x], by rw [hl1, List.length_append, h1]; rfl, by rw [hl1]; exact hown, fun i hi => ?_⟩
  have hne : ∀ (y : Value) {By : Nat} {l : List Nat}, NatsAt By w y l → y.ownBlock ≠ v.ownBlock → y.ownBlock ≠ some g5 := fun y By l hy hyb e => by
    have hlt := (World.ownsRow.lt hy g5 e).2
    rcases hat with h | h
    · exact hyb (e.trans h.symm)
    · omega
  by_cases e : i < G.length
  · have e1 : (vals ++ [x]).getD i undef = vals.getD i undef := by
      have : i < vals.length := by rw [h1]; exact e
      simp [List.getD, List.getElem?_append, this]
    have e2 : (G ++ [I]).getD i [] = G.getD i [] := by simp [List.getD, List.getElem?_append, e]
    rw [e1, e2]
    obtain ⟨⟨Bi, h4⟩, h5⟩ := h3 i e
    exact ⟨⟨Bi, World.ownsRow.kept h4 hg (.inr h5)⟩, hne _ h4 h5⟩
  · have e0 : i = G.length := by rw [hl1] at hi; omega
    have e1 : (vals ++ [x]).getD i undef = x := by rw [e0, ← h1]; simp [List.getD]
    have e2 : (G ++ [I]).getD i [] = I := by rw [e0]; simp [List.getD]
    rw [e1, e2]
    exact ⟨⟨Bx, World.ownsRow.kept hx hg (.inr hxb)⟩, hne _ hx hxb⟩

end Go.Proofs.YtoipgliokelcfaaGreatDoor
