/- strings.Cut at a line feed. -/
import Derived.Test.YtlkdpgjbbbaiiaaDoorPvFrom
namespace Go.Proofs.YtlkdpgjbbbaiiaaDoor
open Go.RowKit

/-- What stands before the first line feed, and behind it. -/
def cutLF : List UInt8 → Option (List UInt8 × List UInt8)
  | [] => none
  | c :: l => if c = 10 then some ([], l) else (cutLF l).map fun p => (c :: p.1, p.2)
theorem cutLF_spec : ∀ (l : List UInt8), (Lib.indexByte l 10 = -1 ∧ cutLF l = none) ∨ ∃ i : Nat, Lib.indexByte l 10 = i ∧ i < l.length ∧ cutLF l = some (l.take i, l.drop (i + 1))
  | [] => .inl ⟨rfl, rfl⟩
  | c :: l => by
    by_cases hc : c = 10
    · subst hc
      exact .inr ⟨0, rfl, by simp, by simp [cutLF]⟩
    · have hb : (c == 10) = false := by simpa using hc
      rcases cutLF_spec l with ⟨h1, h2⟩ | ⟨i, h1, h2, h3⟩
      · refine .inl ⟨?_, ?_⟩
        · simp [Lib.indexByte, hb, h1]
        · simp [cutLF, hc, h2]
      · refine .inr ⟨i + 1, ?_, by simp; omega, ?_⟩
        · simp [Lib.indexByte, hb, h1]
        · simp [cutLF, hc, h3]
theorem cutLF_less {l a b : List UInt8} (h : cutLF l = some (a, b)) : a.length + b.length + 1 = l.length ∧ l ≠ [] := by
  rcases cutLF_spec l with ⟨_, h2⟩ | ⟨i, _, h2, h3⟩
  · rw [h2] at h; cases h
  · rw [h3] at h
    simp only [Option.some.injEq, Prod.mk.injEq] at h
    rw [← h.1, ← h.2]
    refine ⟨by simp; omega, ?_⟩
    intro e
    rw [e] at h2
    simp at h2

end Go.Proofs.YtlkdpgjbbbaiiaaDoor
