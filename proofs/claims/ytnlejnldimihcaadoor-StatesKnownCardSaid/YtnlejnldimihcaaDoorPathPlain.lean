/- All sequences of a length in their order, and the first one that leads from one state to another: plain mathematics. -/
import Derived.Test.YtnlejnldimihcaaDoorSyncTo
namespace Go.Proofs.YtnlejnldimihcaaDoor
open Go.RowKit

def allB : Nat → List (List UInt8)
  | 0 => [[]]
  | d + 1 => (allB d).flatMap fun l => [l ++ [48], l ++ [49]]
def stL (f : Nat) : Nat → List Nat
  | 0 => [f]
  | d + 1 => (stL f d).flatMap fun s => [nx s 48, nx s 49]
theorem all_states (f : Nat) : ∀ d, (allB d).map (nxs f) = stL f d
  | 0 => rfl
  | d + 1 => by
    show ((allB d).flatMap fun l => [l ++ [48], l ++ [49]]).map (nxs f) = (stL f d).flatMap fun s => [nx s 48, nx s 49]
    rw [← all_states f d, List.map_flatMap, List.flatMap_map]
    congr 1
    funext l
    simp [nxs_snoc]
theorem flat_two {α β : Type} (g h : α → β) : ∀ l : List α, (l.flatMap fun x => [g x, h x]).length = 2 * l.length
  | [] => rfl
  | x :: l => by simp [flat_two g h l]; omega
theorem all_len : ∀ d, (allB d).length = 2 ^ d
  | 0 => rfl
  | d + 1 => by
    show ((allB d).flatMap fun l => [l ++ [48], l ++ [49]]).length = 2 ^ (d + 1)
    rw [flat_two, all_len d, Nat.pow_succ]; omega
theorem all_long : ∀ d l, l ∈ allB d → l.length = d ∧ l.all bitB = true
  | 0, l, h => by
    have : l = [] := by simpa [allB] using h
    subst this; exact ⟨rfl, rfl⟩
  | d + 1, l, h => by
    have h' : l ∈ (allB d).flatMap fun l => [l ++ [48], l ++ [49]] := h
    obtain ⟨x, hx, hl⟩ := List.mem_flatMap.1 h'
    obtain ⟨h1, h2⟩ := all_long d x hx
    simp only [List.mem_cons, List.mem_nil_iff, or_false] at hl
    rcases hl with rfl | rfl
    · exact ⟨by simp [h1], by rw [List.all_append, h2]; rfl⟩
    · exact ⟨by simp [h1], by rw [List.all_append, h2]; rfl⟩

def checkP (f t : Nat) : Bool :=
  let D := (pathOf f t).length
  decide (D ≤ 8) && ((List.range D).all fun d => !(stL f d).contains t) && (stL f D).contains t && (allB D)[(stL f D).idxOf t]? == some (pathOf f t)
theorem checkAll : ((List.range 16).all fun f => (List.range 16).all fun t => checkP f t) = true := by decide +kernel
theorem check_at {f t : Nat} (hf : f < 16) (ht : t < 16) : checkP f t = true :=
  List.all_eq_true.1 (List.all_eq_true.1 checkAll f (List.mem_range.2 hf)) t (List.mem_range.2 ht)
theorem path_long {f t : Nat} (hf : f < 16) (ht : t < 16) : (pathOf f t).length ≤ 8 := by
  have h := check_at hf ht
  simp only [checkP, Bool.and_eq_true, decide_eq_true_eq] at h
  exact h.1.1.1

/-- How far the search goes at a length. -/
def upTo (f t d : Nat) : Nat := (stL f d).idxOf t
theorem upTo_le (f t d : Nat) : upTo f t d ≤ (allB d).length := by
  have : (stL f d).length = (allB d).length := by rw [← all_states, List.length_map]
  rw [← this]; exact List.idxOf_le_length
theorem state_at (f d k : Nat) (hk : k < (allB d).length) : (stL f d)[k]? = some (nxs f ((allB d).getD k [])) := by
  rw [← all_states, List.getElem?_map]
  simp [List.getD, hk]
theorem not_yet {f t d k : Nat} (hk : k < (allB d).length) (h : k < upTo f t d) : nxs f ((allB d).getD k []) ≠ t := by
  intro e
  have h1 := state_at f d k hk
  rw [e] at h1
  have hl : k < (stL f d).length := (List.getElem?_eq_some_iff.1 h1).1
  have h2 : (stL f d)[k]'hl = t := (List.getElem?_eq_some_iff.1 h1).2
  have h3 := List.not_of_lt_findIdx (p := fun x => x == t) (xs := stL f d) (i := k) (by simpa [upTo, List.idxOf] using h)
  simp [h2] at h3
theorem is_it {f t d : Nat} (hf : f < 16) (ht : t < 16) (hd : d ≤ (pathOf f t).length) (h : upTo f t d < (allB d).length) : (allB d).getD (upTo f t d) [] = pathOf f t ∧ nxs f (pathOf f t) = t := by
  have hc := check_at hf ht
  simp only [checkP, Bool.and_eq_true] at hc
  have hl : (stL f d).length = (allB d).length := by rw [← all_states, List.length_map]
  have hmem : t ∈ stL f d := by
    have := List.idxOf_lt_length_iff.1 (show (stL f d).idxOf t < (stL f d).length by rw [hl]; exact h)
    exact this
  have hD : d = (pathOf f t).length := by
    by_cases hlt : d < (pathOf f t).length
    · have := List.all_eq_true.1 hc.1.1.2 d (List.mem_range.2 hlt)
      simp [hmem] at this
    · omega
  have h1 : (allB d).getD (upTo f t d) [] = pathOf f t := by
    have := hc.2
    rw [← hD] at this
    have h2 : (allB d)[(stL f d).idxOf t]? = some (pathOf f t) := by simpa using this
    simp [List.getD, upTo, h2]
  refine ⟨h1, ?_⟩
  have h3 := state_at f d _ h
  rw [h1] at h3
  have hl2 : upTo f t d < (stL f d).length := by rw [hl]; exact h
  have h4 : (stL f d)[upTo f t d]'hl2 = t := List.getElem_idxOf hl2
  rw [List.getElem?_eq_getElem hl2, h4] at h3
  exact (Option.some.inj h3).symm
theorem goes_on {f t d : Nat} (hf : f < 16) (ht : t < 16) (hd : d ≤ (pathOf f t).length) (h : upTo f t d = (allB d).length) : d < (pathOf f t).length := by
  have hc := check_at hf ht
  simp only [checkP, Bool.and_eq_true] at hc
  have hl : (stL f d).length = (allB d).length := by rw [← all_states, List.length_map]
  by_cases e : d = (pathOf f t).length
  · have hm : t ∈ stL f d := by rw [e]; simpa using hc.1.2
    have := List.idxOf_lt_length_iff.2 hm
    unfold upTo at h
    omega
  · omega
end Go.Proofs.YtnlejnldimihcaaDoor
