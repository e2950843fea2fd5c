/- Texts are read line by line: the program's Lines and Read of vectors, the reference's. -/
import Derived.Test.YtlkdpgjbbbaiiaaDoorPvCut
namespace Go.Proofs.YtlkdpgjbbbaiiaaDoor
open Go.RowKit

def strLen : Value → Nat
  | .string s => s.size
  | _ => 0
/-- Reading line by line: what a line makes of what was read, and whether it is good; fuel, the text that is left, the line's number. -/
def readS {σ : Type} (step : σ → List UInt8 → σ × Bool) : Nat → List UInt8 → Nat → σ → Int × Bool × σ
  | 0, _, _, s => (0, true, s)
  | f + 1, t, k, s => if t = [] then (0, true, s) else match cutLF t with
    | none => ((k : Int), false, s)
    | some (a, b) => if (step s a).2 = true then readS step f b (k + 1) (step s a).1 else ((k : Int), false, (step s a).1)
section
variable {σ : Type} {step : σ → List UInt8 → σ × Bool}
theorem readS_nil (f k : Nat) (s : σ) : readS step f [] k s = (0, true, s) := by
  cases f with
  | zero => rfl
  | succ f => unfold readS; rw [if_pos rfl]
theorem readS_none {f k : Nat} {t : List UInt8} (s : σ) (hf : t.length ≤ f) (h0 : t ≠ []) (h : cutLF t = none) : readS step f t k s = ((k : Int), false, s) := by
  have := List.length_pos_iff.2 h0
  obtain ⟨f, rfl⟩ : ∃ g, f = g + 1 := ⟨f - 1, by omega⟩
  unfold readS
  rw [if_neg h0, h]
theorem readS_good {f k : Nat} {t a b : List UInt8} (s : σ) (hf : t.length ≤ f) (h : cutLF t = some (a, b)) (hg : (step s a).2 = true) : ∃ g, b.length ≤ g ∧ readS step f t k s = readS step g b (k + 1) (step s a).1 := by
  have h1 := cutLF_less h
  obtain ⟨f, rfl⟩ : ∃ g, f = g + 1 := ⟨f - 1, by omega⟩
  refine ⟨f, by omega, ?_⟩
  rw [readS.eq_def]
  simp only [if_neg h1.2, h, hg, if_true]
theorem readS_bad {f k : Nat} {t a b : List UInt8} (s : σ) (hf : t.length ≤ f) (h : cutLF t = some (a, b)) (hg : (step s a).2 = false) : readS step f t k s = ((k : Int), false, (step s a).1) := by
  have h1 := cutLF_less h
  obtain ⟨f, rfl⟩ : ∃ g, f = g + 1 := ⟨f - 1, by omega⟩
  rw [readS.eq_def]
  simp [if_neg h1.2, h, hg]
end
/-- What lines of vectors make. -/
def patStep (A : List (List UInt8)) (a : List UInt8) : List (List UInt8) × Bool := (A ++ [a], !a.isEmpty && a.all bitB)
theorem patStep_rows : ∀ (f : Nat) (t : List UInt8) (k : Nat) (A : List (List UInt8)) (m : Nat), t.length ≤ m → (∀ x, x ∈ A → x.length ≤ m) → (readS patStep f t k A).2.2.length ≤ A.length + t.length ∧ ∀ x, x ∈ (readS patStep f t k A).2.2 → x.length ≤ m
  | 0, t, k, A, m, _, hA => ⟨Nat.le_add_right _ _, hA⟩
  | f + 1, t, k, A, m, ht, hA => by
    unfold readS
    by_cases h0 : t = []
    · rw [if_pos h0]
      exact ⟨Nat.le_add_right _ _, hA⟩
    rw [if_neg h0]
    cases hc : cutLF t with
    | none => exact ⟨Nat.le_add_right _ _, hA⟩
    | some p =>
      obtain ⟨a, b⟩ := p
      have hl := cutLF_less hc
      have hA2 : ∀ x, x ∈ (patStep A a).1 → x.length ≤ m := fun x hx => by
        rcases List.mem_append.1 hx with hx | hx
        · exact hA x hx
        · rw [List.mem_singleton.1 hx]; omega
      have hz : (patStep A a).1.length = A.length + 1 := by simp [patStep]
      dsimp only
      split
      · have := patStep_rows f b (k + 1) (patStep A a).1 m (by omega) hA2
        exact ⟨by omega, this.2⟩
      · exact ⟨by show (patStep A a).1.length ≤ _; omega, hA2⟩

/-- A row in blocks that were not touched. -/
theorem row_kept {w w' : World} {B : Nat} {e : TypeId} {size : Nat} {v : Value} {n : Nat} {xs : List Value} (h : w.ownsRow B e size v n xs) (hk : ∀ g, B ≤ g → g < w.heap.size → w'.heap[g]? = w.heap[g]?) : w'.ownsRow B e size v n xs := by
  obtain ⟨h1, h2 | ⟨g, cap, cur, e1, e2, e3, e4⟩⟩ := h
  · exact ⟨h1, .inl h2⟩
  · exact ⟨h1, .inr ⟨g, cap, cur, e1, e2, (hk g e2 (Array.getElem?_eq_some_iff.1 e3).1).trans e3, e4⟩⟩
/-- The variable at block pv holds rows that lie behind it. -/
def RowsVar (w0 : World) (pv : Nat) (k : Nat) (A : List (List UInt8)) (W : World) : Prop :=
  w0.heap.size ≤ pv ∧ Below w0.heap.size w0 W ∧ A.length = k ∧ W.frozen? ⟨pv, 0, none⟩ = false ∧ ∃ v, W.cell? ⟨pv, 0, none⟩ = some v ∧ StrsAt (pv + 1) W v A
theorem RowsVar.lt {w0 : World} {pv k : Nat} {A : List (List UInt8)} {W : World} (h : RowsVar w0 pv k A W) : pv < W.heap.size := by
  obtain ⟨_, _, _, _, v, hc, _⟩ := h
  exact World.block_lt_of_cell? W ⟨pv, 0, none⟩ hc
theorem RowsVar.later {w0 : World} {pv k : Nat} {A : List (List UInt8)} {W W' : World} (h : RowsVar w0 pv k A W) (hB : Below W.heap.size W W') : RowsVar w0 pv k A W' := by
  have hlt := h.lt
  obtain ⟨h1, h2, h3, h4, v, h5, h6⟩ := h
  exact ⟨h1, h2.trans (hB.mono h2.size), h3, (World.frozen?_of_block (a := ⟨pv, 0, none⟩) (hB.block pv hlt)).trans h4, v, (hB.cell (p := ⟨pv, 0, none⟩) hlt).trans h5, row_later h6 hB⟩
end Go.Proofs.YtlkdpgjbbbaiiaaDoor
