/- Package pattern, plain: what is generated meets its goal, for the numbers of nets that the property draws. -/
import Derived.Test.YtoipgliokelcfaaGreatDoorPdK
import Derived.Test.YtoipgliokelcfaaGreatDoorVgCom
namespace Go.Proofs.YtoipgliokelcfaaGreatDoor
open Go.RowKit

def rowsB (S : List (List UInt8)) (n k : Nat) : Bool := decide (S.length = n) && S.all fun s => decide (s.length = k) && s.all bitB
theorem turn_twice (S : List (List UInt8)) (n k : Nat) (h : rowsB S n k = true) : turnL (turnL S k) n = S := by
  unfold rowsB at h
  rw [Bool.and_eq_true, List.all_eq_true] at h
  obtain ⟨hn, hs⟩ := h
  have hn := of_decide_eq_true hn
  apply List.ext_getElem
  · simp [turnL, hn]
  · intro i h1 h2
    have hk : (S[i]).length = k := by
      have := hs _ (List.getElem_mem h2)
      rw [Bool.and_eq_true] at this
      exact of_decide_eq_true this.1
    simp only [turnL, List.getElem_map, List.getElem_range]
    apply List.ext_getElem
    · simp [hk]
    · intro c h3 h4
      simp only [List.getElem_map, List.getElem_range]
      rw [List.getD_eq_getElem?_getD, List.getElem?_map, List.getElem?_eq_getElem h2]
      simp only [Option.map_some, Option.getD_some]
      rw [List.getD_eq_getElem?_getD, List.getElem?_eq_getElem h4]
      rfl
theorem firstErr_right (f : List UInt8 → Int) : ∀ (S : List (List UInt8)), (∀ s, s ∈ S → f s = 0) → firstErr f S = 0
  | [], _ => rfl
  | s :: S, h => by
    have e := firstErr_at f (s :: S) 0 (by simp)
    rw [List.drop_zero] at e
    rw [e]
    show (if f s = 0 then firstErr f S else f s) = 0
    rw [if_pos (h s (by simp))]
    exact firstErr_right f S (fun x hx => h x (by simp [hx]))
/-- Columns of right rows are right vectors. -/
theorem turn_right (S : List (List UInt8)) (n k : Nat) (h : rowsB S n k = true) (h1 : 1 ≤ n) (h2 : n ≤ 100) (hk : k ≤ 200) :
    (turnL S k).length = k ∧ (∀ s, s ∈ turnL S k → s.length = n ∧ s.all bitB = true) ∧ vecErr (n : Int) (turnL S k) = 0 := by
  unfold rowsB at h
  rw [Bool.and_eq_true, List.all_eq_true] at h
  obtain ⟨hn, hs⟩ := h
  have hn := of_decide_eq_true hn
  have hl : (turnL S k).length = k := by simp [turnL]
  have hall : ∀ s, s ∈ turnL S k → s.length = n ∧ s.all bitB = true := by
    intro s hm
    unfold turnL at hm
    rw [List.mem_map] at hm
    obtain ⟨c, hc, rfl⟩ := hm
    rw [List.mem_range] at hc
    refine ⟨by rw [List.length_map, hn], ?_⟩
    rw [List.all_eq_true]
    intro x hx
    rw [List.mem_map] at hx
    obtain ⟨row, hr, rfl⟩ := hx
    have h3 := hs row hr
    rw [Bool.and_eq_true] at h3
    have h4 := of_decide_eq_true h3.1
    rw [List.getD_eq_getElem?_getD, List.getElem?_eq_getElem (by omega)]
    exact List.all_eq_true.1 h3.2 _ (List.getElem_mem _)
  refine ⟨hl, hall, ?_⟩
  unfold vecErr netsErr
  rw [if_pos (by rw [if_pos (by omega)]), if_neg (by omega)]
  refine firstErr_right _ _ (fun s hm => ?_)
  obtain ⟨e1, e2⟩ := hall s hm
  unfold wordErr
  rw [if_pos (by omega), if_pos e2]
structure GmN (n k1 : Nat) : Prop where
  least : Least 2 n k1
  r1 : rowsB (genS 2 n k1) n k1 = true
  r2 : rowsB (compS n) n (2 * cLen n) = true
  m1 : meetsB (genS 2 n k1) n 2 = true
  m2 : meetsB (compS n) n 2 = true
  m3 : meetsB (compS n) n 3 = true
structure GmZ (z n k : Nat) : Prop where
  least : Least z n k
  r : rowsB (genS z n k) n k = true
  m : meetsB (genS z n k) n (z : Int) = true
set_option maxRecDepth 100000
theorem gmN_1 : GmN 1 2 := ⟨by unfold Least; decide +kernel, by decide +kernel, by decide +kernel, by decide +kernel, by decide +kernel, by decide +kernel⟩
theorem gmN_2 : GmN 2 2 := ⟨by unfold Least; decide +kernel, by decide +kernel, by decide +kernel, by decide +kernel, by decide +kernel, by decide +kernel⟩
theorem gmN_3 : GmN 3 3 := ⟨by unfold Least; decide +kernel, by decide +kernel, by decide +kernel, by decide +kernel, by decide +kernel, by decide +kernel⟩
theorem gmN_5 : GmN 5 3 := ⟨by unfold Least; decide +kernel, by decide +kernel, by decide +kernel, by decide +kernel, by decide +kernel, by decide +kernel⟩
theorem gmN_20 : GmN 20 5 := ⟨by unfold Least; decide +kernel, by decide +kernel, by decide +kernel, by decide +kernel, by decide +kernel, by decide +kernel⟩
theorem gmN_70 : GmN 70 7 := ⟨by unfold Least; decide +kernel, by decide +kernel, by decide +kernel, by decide +kernel, by decide +kernel, by decide +kernel⟩
theorem gmN_100 : GmN 100 7 := ⟨by unfold Least; decide +kernel, by decide +kernel, by decide +kernel, by decide +kernel, by decide +kernel, by decide +kernel⟩
theorem gmZ_1_1 : GmZ 1 1 0 := ⟨by unfold Least; decide +kernel, by decide +kernel, by decide +kernel⟩
theorem gmZ_2_1 : GmZ 2 1 2 := ⟨by unfold Least; decide +kernel, by decide +kernel, by decide +kernel⟩
theorem gmZ_3_1 : GmZ 3 1 0 := ⟨by unfold Least; decide +kernel, by decide +kernel, by decide +kernel⟩
theorem gmZ_1_2 : GmZ 1 2 1 := ⟨by unfold Least; decide +kernel, by decide +kernel, by decide +kernel⟩
theorem gmZ_2_2 : GmZ 2 2 2 := ⟨by unfold Least; decide +kernel, by decide +kernel, by decide +kernel⟩
theorem gmZ_3_2 : GmZ 3 2 2 := ⟨by unfold Least; decide +kernel, by decide +kernel, by decide +kernel⟩
theorem gmZ_1_3 : GmZ 1 3 2 := ⟨by unfold Least; decide +kernel, by decide +kernel, by decide +kernel⟩
theorem gmZ_2_3 : GmZ 2 3 3 := ⟨by unfold Least; decide +kernel, by decide +kernel, by decide +kernel⟩
theorem gmZ_3_3 : GmZ 3 3 3 := ⟨by unfold Least; decide +kernel, by decide +kernel, by decide +kernel⟩
theorem gmZ_1_5 : GmZ 1 5 3 := ⟨by unfold Least; decide +kernel, by decide +kernel, by decide +kernel⟩
theorem gmZ_2_5 : GmZ 2 5 3 := ⟨by unfold Least; decide +kernel, by decide +kernel, by decide +kernel⟩
theorem gmZ_3_5 : GmZ 3 5 4 := ⟨by unfold Least; decide +kernel, by decide +kernel, by decide +kernel⟩
theorem gmZ_1_20 : GmZ 1 20 5 := ⟨by unfold Least; decide +kernel, by decide +kernel, by decide +kernel⟩
theorem gmZ_2_20 : GmZ 2 20 5 := ⟨by unfold Least; decide +kernel, by decide +kernel, by decide +kernel⟩
theorem gmZ_3_20 : GmZ 3 20 6 := ⟨by unfold Least; decide +kernel, by decide +kernel, by decide +kernel⟩
theorem gmZ_1_70 : GmZ 1 70 7 := ⟨by unfold Least; decide +kernel, by decide +kernel, by decide +kernel⟩
theorem gmZ_2_70 : GmZ 2 70 7 := ⟨by unfold Least; decide +kernel, by decide +kernel, by decide +kernel⟩
theorem gmZ_3_70 : GmZ 3 70 8 := ⟨by unfold Least; decide +kernel, by decide +kernel, by decide +kernel⟩
theorem gmZ_1_100 : GmZ 1 100 7 := ⟨by unfold Least; decide +kernel, by decide +kernel, by decide +kernel⟩
theorem gmZ_2_100 : GmZ 2 100 7 := ⟨by unfold Least; decide +kernel, by decide +kernel, by decide +kernel⟩
theorem gmZ_3_100 : GmZ 3 100 9 := ⟨by unfold Least; decide +kernel, by decide +kernel, by decide +kernel⟩
theorem gm_all (n z : Nat) (hn : n = 1 ∨ n = 2 ∨ n = 3 ∨ n = 5 ∨ n = 20 ∨ n = 70 ∨ n = 100) (hz : z = 1 ∨ z = 2 ∨ z = 3) :
    ∃ k1 k, GmN n k1 ∧ GmZ z n k ∧ (z ≠ 3 → k ≤ k1) ∧ k ≤ 2 * cLen n ∧ k1 ≤ 9 ∧ k ≤ 9 ∧ 2 * cLen n ≤ 18 := by
  rcases hn with rfl | rfl | rfl | rfl | rfl | rfl | rfl <;> rcases hz with rfl | rfl | rfl
  · exact ⟨_, _, gmN_1, gmZ_1_1, by decide, by decide +kernel, by decide, by decide, by decide +kernel⟩
  · exact ⟨_, _, gmN_1, gmZ_2_1, by decide, by decide +kernel, by decide, by decide, by decide +kernel⟩
  · exact ⟨_, _, gmN_1, gmZ_3_1, by decide, by decide +kernel, by decide, by decide, by decide +kernel⟩
  · exact ⟨_, _, gmN_2, gmZ_1_2, by decide, by decide +kernel, by decide, by decide, by decide +kernel⟩
  · exact ⟨_, _, gmN_2, gmZ_2_2, by decide, by decide +kernel, by decide, by decide, by decide +kernel⟩
  · exact ⟨_, _, gmN_2, gmZ_3_2, by decide, by decide +kernel, by decide, by decide, by decide +kernel⟩
  · exact ⟨_, _, gmN_3, gmZ_1_3, by decide, by decide +kernel, by decide, by decide, by decide +kernel⟩
  · exact ⟨_, _, gmN_3, gmZ_2_3, by decide, by decide +kernel, by decide, by decide, by decide +kernel⟩
  · exact ⟨_, _, gmN_3, gmZ_3_3, by decide, by decide +kernel, by decide, by decide, by decide +kernel⟩
  · exact ⟨_, _, gmN_5, gmZ_1_5, by decide, by decide +kernel, by decide, by decide, by decide +kernel⟩
  · exact ⟨_, _, gmN_5, gmZ_2_5, by decide, by decide +kernel, by decide, by decide, by decide +kernel⟩
  · exact ⟨_, _, gmN_5, gmZ_3_5, by decide, by decide +kernel, by decide, by decide, by decide +kernel⟩
  · exact ⟨_, _, gmN_20, gmZ_1_20, by decide, by decide +kernel, by decide, by decide, by decide +kernel⟩
  · exact ⟨_, _, gmN_20, gmZ_2_20, by decide, by decide +kernel, by decide, by decide, by decide +kernel⟩
  · exact ⟨_, _, gmN_20, gmZ_3_20, by decide, by decide +kernel, by decide, by decide, by decide +kernel⟩
  · exact ⟨_, _, gmN_70, gmZ_1_70, by decide, by decide +kernel, by decide, by decide, by decide +kernel⟩
  · exact ⟨_, _, gmN_70, gmZ_2_70, by decide, by decide +kernel, by decide, by decide, by decide +kernel⟩
  · exact ⟨_, _, gmN_70, gmZ_3_70, by decide, by decide +kernel, by decide, by decide, by decide +kernel⟩
  · exact ⟨_, _, gmN_100, gmZ_1_100, by decide, by decide +kernel, by decide, by decide, by decide +kernel⟩
  · exact ⟨_, _, gmN_100, gmZ_2_100, by decide, by decide +kernel, by decide, by decide, by decide +kernel⟩
  · exact ⟨_, _, gmN_100, gmZ_3_100, by decide, by decide +kernel, by decide, by decide, by decide +kernel⟩
end Go.Proofs.YtoipgliokelcfaaGreatDoor
