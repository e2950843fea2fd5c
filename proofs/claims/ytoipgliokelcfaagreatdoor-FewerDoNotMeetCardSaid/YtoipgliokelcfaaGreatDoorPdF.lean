/- The reference's EqualOf: its plain side; slices.Contains of strings. -/
import Derived.Test.YtoipgliokelcfaaGreatDoorPdE
namespace Go.Proofs.YtoipgliokelcfaaGreatDoor
open Go.RowKit Go.Maps

/-- The first place of a string among the first i, or -1. -/
def firstI (L : List (List UInt8)) (s : List UInt8) (i : Nat) : Int :=
  match (List.range i).find? fun j => decide (L.getD j [] = s) with
  | some j => (j : Int)
  | none => -1
theorem firstI_hit (L : List (List UInt8)) (s : List UInt8) (i k : Nat) (hk : k < i) (h : L.getD k [] = s) (hn : ∀ j, j < k → L.getD j [] ≠ s) : firstI L s i = (k : Int) := by
  have e : (List.range i).find? (fun j => decide (L.getD j [] = s)) = some k := by
    rw [List.find?_range_eq_some]
    exact ⟨by simpa using h, List.mem_range.2 hk, fun j hj => by simpa using hn j hj⟩
  unfold firstI
  rw [e]
theorem firstI_miss (L : List (List UInt8)) (s : List UInt8) (i : Nat) (hn : ∀ j, j < i → L.getD j [] ≠ s) : firstI L s i = -1 := by
  have e : (List.range i).find? (fun j => decide (L.getD j [] = s)) = none := by
    rw [List.find?_eq_none]
    intro j hj
    simpa using hn j (List.mem_range.1 hj)
  unfold firstI
  rw [e]
/-- Whether there is such a string among the first i. -/
def earlierB (L : List (List UInt8)) (s : List UInt8) (i : Nat) : Bool := decide (0 ≤ firstI L s i)
theorem earlier_no {L : List (List UInt8)} {s : List UInt8} {i : Nat} (h : earlierB L s i = false) : ∀ j, j < i → L.getD j [] ≠ s := by
  intro j hj e
  obtain ⟨k, hk1, hk2, hk3⟩ : ∃ k, k ≤ j ∧ L.getD k [] = s ∧ ∀ m, m < k → L.getD m [] ≠ s := by
    clear h
    induction j using Nat.strongRecOn with
    | _ j ih =>
      by_cases hx : ∃ m, m < j ∧ L.getD m [] = s
      · obtain ⟨m, hm, he⟩ := hx
        obtain ⟨k, h1, h2, h3⟩ := ih m hm (by omega) he
        exact ⟨k, by omega, h2, h3⟩
      · exact ⟨j, Nat.le_refl _, e, fun m hm he => hx ⟨m, hm, he⟩⟩
  have := firstI_hit L s i k (by omega) hk2 hk3
  unfold earlierB at h
  rw [this] at h
  simp at h
theorem earlier_yes {L : List (List UInt8)} {s : List UInt8} {i : Nat} (h : earlierB L s i = true) : ∃ j, j < i ∧ L.getD j [] = s := by
  by_cases hx : ∃ j, j < i ∧ L.getD j [] = s
  · exact hx
  · have := firstI_miss L s i (fun j hj e => hx ⟨j, hj, e⟩)
    unfold earlierB at h
    rw [this] at h
    simp at h

/-- The nets from i on with the sequence of i, below k. -/
def fromTo (L : List (List UInt8)) (i k : Nat) : List Nat := (List.range k).filter fun j => decide (i ≤ j ∧ L.getD j [] = L.getD i [])
theorem fromTo_succ (L : List (List UInt8)) (i k : Nat) (h : i ≤ k) : fromTo L i (k + 1) = if L.getD k [] = L.getD i [] then fromTo L i k ++ [k] else fromTo L i k := by
  unfold fromTo
  rw [List.range_succ, List.filter_append]
  by_cases e : L.getD k [] = L.getD i []
  · rw [if_pos e, List.filter_cons, if_pos (by simpa using ⟨h, e⟩)]; rfl
  · rw [if_neg e, List.filter_cons, if_neg (by simpa using fun _ => e)]; simp
theorem fromTo_self (L : List (List UInt8)) (i : Nat) : fromTo L i (i + 1) = [i] := by
  rw [fromTo_succ L i i (Nat.le_refl _), if_pos rfl]
  have : fromTo L i i = [] := by
    unfold fromTo
    rw [List.filter_eq_nil_iff]
    intro j hj
    have := List.mem_range.1 hj
    simp
    omega
  rw [this]
  rfl
theorem fromTo_len (L : List (List UInt8)) (i k : Nat) : (fromTo L i k).length ≤ k := by
  unfold fromTo
  have := List.length_filter_le (fun j => decide (i ≤ j ∧ L.getD j [] = L.getD i [])) (List.range k)
  simpa using this
theorem sorted_head : ∀ (l : List Nat), l.Pairwise (· < ·) → ∀ j, j ∈ l → l.getD 0 0 ≤ j
  | [], _, j, h => by cases h
  | x :: l, hp, j, h => by
    rcases List.mem_cons.1 h with rfl | h
    · exact Nat.le_refl _
    · exact Nat.le_of_lt ((List.pairwise_cons.1 hp).1 j h)
theorem idxTo_sorted (L : List (List UInt8)) (n : Nat) (s : List UInt8) : (idxTo L n s).Pairwise (· < ·) := List.Pairwise.filter _ List.pairwise_lt_range
theorem mem_idxTo {L : List (List UInt8)} {n : Nat} {s : List UInt8} {j : Nat} : j ∈ idxTo L n s ↔ j < n ∧ L.getD j [] = s := by
  unfold idxTo
  rw [List.mem_filter, List.mem_range]
  simp
theorem grp_from (L : List (List UInt8)) (n i : Nat) (hi : i < n) : grpB L n i = (decide (1 < (fromTo L i n).length) && !earlierB L (L.getD i []) i) ∧ (earlierB L (L.getD i []) i = false → idxTo L n (L.getD i []) = fromTo L i n) := by
  have hm : i ∈ idxTo L n (L.getD i []) := mem_idxTo.2 ⟨hi, rfl⟩
  have hne : idxTo L n (L.getD i []) ≠ [] := idxTo_mem L n i hi
  have hh := sorted_head _ (idxTo_sorted L n (L.getD i [])) i hm
  cases he : earlierB L (L.getD i []) i with
  | false =>
    have hn := earlier_no he
    have e : idxTo L n (L.getD i []) = fromTo L i n := by
      unfold idxTo fromTo
      apply List.filter_congr
      intro j hj
      by_cases h : L.getD j [] = L.getD i []
      · have : i ≤ j := Nat.le_of_not_lt fun h2 => hn j h2 h
        simp [this]
      · rw [decide_eq_false h, decide_eq_false (fun h2 => h h2.2)]
    refine ⟨?_, fun _ => e⟩
    have hin : (idxTo L n (L.getD i [])).getD 0 0 ∈ idxTo L n (L.getD i []) := by
      cases hl : idxTo L n (L.getD i []) with
      | nil => exact absurd hl hne
      | cons x l => exact List.mem_cons_self
    have h2 := mem_idxTo.1 hin
    have h3 : (idxTo L n (L.getD i [])).getD 0 0 = i := by
      rcases Nat.lt_or_ge ((idxTo L n (L.getD i [])).getD 0 0) i with h4 | h4
      · exact absurd h2.2 (hn _ h4)
      · omega
    unfold grpB
    rw [decide_eq_true h3, e]
    simp
  | true =>
    obtain ⟨j, hj, hs⟩ := earlier_yes he
    have h2 := sorted_head _ (idxTo_sorted L n (L.getD i [])) j (mem_idxTo.2 ⟨by omega, hs⟩)
    have h3 : ¬ (idxTo L n (L.getD i [])).getD 0 0 = i := by omega
    refine ⟨?_, fun h => by cases h⟩
    unfold grpB
    rw [decide_eq_false h3, Bool.and_false]
    simp

end Go.Proofs.YtoipgliokelcfaaGreatDoor
