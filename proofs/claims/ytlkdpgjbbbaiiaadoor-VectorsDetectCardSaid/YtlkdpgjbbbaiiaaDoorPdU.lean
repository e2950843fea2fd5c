/- What the walk of VectorsDetect asks of its parts: distances for every number of nets, triples, goals. -/
import Derived.Test.YtlkdpgjbbbaiiaaDoorPdS
namespace Go.Proofs.YtlkdpgjbbbaiiaaDoor
open Go.RowKit Go.Maps Go.Shelf

theorem turnL_len2 (S : List (List UInt8)) (long : Nat) : (turnL S long).length = long := by simp [turnL]
theorem strs_two2 {B : Nat} {w : World} {v : Value} {S : List (List UInt8)} (h : StrsAt B w v S) : ∃ a c, v = .slice a S.length c := by
  obtain ⟨a, c, e, -⟩ := strs_open h
  exact ⟨a, c, e⟩

theorem meetsE_eq (goal : Int) : meetsE goal = goalErr goal := by
  unfold meetsE goalErr inB
  by_cases h : goal = 1 ∨ goal = 2 ∨ goal = 3
  · rw [if_pos h, if_pos (by simp; omega)]
  · rw [if_neg h, if_neg (by simp; omega)]
theorem goal_two (goal : Int) : ((goal = 1 ∨ goal = 2 ∨ goal = 3) ∧ goalErr goal = 0) ∨ (goalErr goal = 4 ∧ ∀ L n, meetsB L n goal = false) := by
  by_cases h : goal = 1 ∨ goal = 2 ∨ goal = 3
  · left
    refine ⟨h, ?_⟩
    rw [← meetsE_eq]
    exact if_pos h
  · right
    refine ⟨?_, fun L n => ?_⟩
    · rw [← meetsE_eq]
      exact if_neg h
    · unfold meetsB
      rw [if_neg (by omega), if_neg (by omega), if_neg (by omega)]

/-- The least distance, for every number of nets. -/
def distN (V : List (List UInt8)) (n : Nat) : Nat := if 2 ≤ n then leastOf (turnL V n) V.length (pairsTo n n) else 0
theorem distance_all (V : List (List UInt8)) (n : Nat) (h1 : 1 ≤ n) (h2 : n ≤ 100) (hz : V.length ≤ 200) (hb : ∀ s, s ∈ V → s.length = n ∧ s.all bitB = true) (he : vecErr (n : Int) V = 0) (B : Nat) (w : World) (v : Value) (h : StrsAt B w v V) :
    Calls Tryd.prog 11 #[.int .i64 (n : Int), v] w fun e w' => e = .returned (.tuple #[.int .i64 (distN V n : Int), .bool (decide (2 ≤ n)), .int .i64 0]) ∧ Below w.heap.size w w' := by
  by_cases hn : 2 ≤ n
  · unfold distN
    rw [if_pos hn, decide_eq_true hn]
    exact distance_ok V n hn h2 hz hb he B w v h
  · obtain rfl : n = 1 := by omega
    exact distance_one V hz (fun s hs => (hb s hs).1) he B w v h
theorem pairsTo_ne (n : Nat) (h : 2 ≤ n) : (pairsTo n n).length ≠ 0 := by
  have h1 := mem_pairsTo (n := n) (a := 0) (b := 1) (by omega) (by omega)
  intro h0
  rw [List.length_eq_zero_iff.1 h0] at h1
  cases h1
theorem distanceOf_all (V : List (List UInt8)) (n : Nat) (h1 : 1 ≤ n) (h2 : n ≤ 100) (hz : V.length ≤ 200) (hb : ∀ s, s ∈ V → s.length = n ∧ s.all bitB = true) (B : Nat) (w : World) (v : Value) (h : StrsAt B w v V) :
    Calls Tryd.prog 22 #[.int .i64 (n : Int), v] w fun e w' => e = .returned (.tuple #[.int .i64 (distN V n : Int), .bool (decide (2 ≤ n))]) ∧ Below w.heap.size w w' := by
  have hd := distanceOf_any V n h1 h2 hz hb B w v h
  have e : max (refL (turnL V n) V.length (pairsTo n n)) 0 = (distN V n : Int) ∧ decide (0 ≤ refL (turnL V n) V.length (pairsTo n n)) = decide (2 ≤ n) := by
    unfold refL distN
    by_cases hn : 2 ≤ n
    · rw [if_neg (pairsTo_ne n hn), if_pos hn, decide_eq_true hn]
      exact ⟨by omega, decide_eq_true (by omega)⟩
    · obtain rfl : n = 1 := by omega
      exact ⟨rfl, rfl⟩
  rw [e.1, e.2] at hd
  exact hd

theorem triCells_at : ∀ (T : List (Nat × Nat × Nat)) (k : Nat), k < T.length → (triCells T)[k * 3]? = some (natV (T.getD k (0, 0, 0)).1) ∧ (triCells T)[k * 3 + 1]? = some (natV (T.getD k (0, 0, 0)).2.1) ∧ (triCells T)[k * 3 + 2]? = some (natV (T.getD k (0, 0, 0)).2.2)
  | [], k, h => absurd h (Nat.not_lt_zero _)
  | t :: T, 0, _ => ⟨rfl, rfl, rfl⟩
  | t :: T, k + 1, h => by
    have ih := triCells_at T k (by simpa using h)
    have e : triCells (t :: T) = natV t.1 :: natV t.2.1 :: natV t.2.2 :: triCells T := rfl
    have e1 : (k + 1) * 3 = k * 3 + 1 + 1 + 1 := by omega
    rw [e, e1]
    exact ih
theorem trisL_lt (L : List (List UInt8)) (n : Nat) (t : Nat × Nat × Nat) (h : t ∈ trisL L n (pairsTo n n)) : t.1 < n ∧ t.2.1 < n ∧ t.2.2 < n := by
  unfold trisL at h
  obtain ⟨x, hx, ht⟩ := List.mem_flatMap.1 h
  unfold pairsTo at hx
  obtain ⟨i, hi, hx⟩ := List.mem_flatMap.1 hx
  unfold rowTo at hx
  obtain ⟨j, hj, hx⟩ := List.mem_filterMap.1 hx
  unfold triTo at ht
  obtain ⟨c, hc, ht⟩ := List.mem_filterMap.1 ht
  have hi := List.mem_range.1 hi
  have hj := List.mem_range.1 hj
  have hc := List.mem_range.1 hc
  split at hx
  · cases hx
    split at ht
    · cases ht
      exact ⟨hi, hj, hc⟩
    · cases ht
  · cases hx
theorem trisL_at (L : List (List UInt8)) (n : Nat) (h2 : n ≤ 100) (k : Nat) (h : k < (trisL L n (pairsTo n n)).length) : ((trisL L n (pairsTo n n)).getD k (0, 0, 0)).1 ≤ 1000000 ∧ ((trisL L n (pairsTo n n)).getD k (0, 0, 0)).2.1 ≤ 1000000 ∧ ((trisL L n (pairsTo n n)).getD k (0, 0, 0)).2.2 ≤ 1000000 := by
  have e : (trisL L n (pairsTo n n)).getD k (0, 0, 0) = (trisL L n (pairsTo n n))[k] := by simp [h]
  have h1 := trisL_lt L n _ (List.getElem_mem h)
  rw [e]
  omega
theorem tris_cells {B : Nat} {w : World} {g c : Nat} {T : List (Nat × Nat × Nat)} (h : TrisAt B w (.slice (some ⟨g, 0, none⟩) T.length c) T) : TriCells w g T.length fun k => T.getD k (0, 0, 0) := by
  intro k hk
  have hr : w.ownsRow B 55 3 (.slice (some ⟨g, 0, none⟩) T.length c) T.length (triCells T) := h
  have ht := triCells_at T k hk
  exact ⟨(hr.cellAt _ (by omega)).trans ht.1, (hr.cellAt _ (by omega)).trans ht.2.1, (hr.cellAt _ (by omega)).trans ht.2.2⟩

set_option maxRecDepth 100000 in
theorem eqTri_empty (a1 a2 : Option Addr) (c1 c2 : Nat) (w : World) :
    Calls Tryd.prog 21 #[.slice a1 0 c1, .slice a2 0 c2] w fun e w' => e = .returned (.bool true) ∧ Below w.heap.size w w' := by
  go_enter Tryd.func21, Tryd.ntmps21
  go_wp2_with fail
  go_loopw [13] (fun i wr => i = .int .i64 0 ∧ Below w.heap.size w wr) (fun _ _ => 0)
  case atStart => exact ⟨rfl, Below.refl _ _⟩
  case round =>
    obtain ⟨rfl, hB⟩ := hrel
    have HT := Lib.hid hB
    clear hB
    go_wp2_with fail
    go_ret
    exact ⟨rfl, HT.out⟩

/-- Rows of the same triples are equal. -/
theorem eqTri_any (T : List (Nat × Nat × Nat)) (hz : T.length ≤ 100000) (hT : ∀ k, k < T.length → (T.getD k (0, 0, 0)).1 ≤ 1000000 ∧ (T.getD k (0, 0, 0)).2.1 ≤ 1000000 ∧ (T.getD k (0, 0, 0)).2.2 ≤ 1000000) (B1 B2 : Nat) (v1 v2 : Value) (w : World) (h1 : TrisAt B1 w v1 T) (h2 : TrisAt B2 w v2 T) :
    Calls Tryd.prog 21 #[v1, v2] w fun e w' => e = .returned (.bool true) ∧ Below w.heap.size w w' := by
  by_cases h0 : T.length = 0
  · obtain ⟨a1, c1, rfl⟩ := tris_open h1
    obtain ⟨a2, c2, rfl⟩ := tris_open h2
    rw [h0]
    exact eqTri_empty a1 a2 c1 c2 w
  · have o1 : ∃ g c, v1 = .slice (some ⟨g, 0, none⟩) T.length c := by
      obtain ⟨-, ⟨_, h00⟩ | ⟨g, cap, cur, e, -⟩⟩ := h1
      · exact absurd h00 h0
      · exact ⟨g, cap, e⟩
    have o2 : ∃ g c, v2 = .slice (some ⟨g, 0, none⟩) T.length c := by
      obtain ⟨-, ⟨_, h00⟩ | ⟨g, cap, cur, e, -⟩⟩ := h2
      · exact absurd h00 h0
      · exact ⟨g, cap, e⟩
    obtain ⟨g1, c1, rfl⟩ := o1
    obtain ⟨g2, c2, rfl⟩ := o2
    exact eqTri_same _ T.length g1 g2 c1 c2 hz hT w (tris_cells h1) (tris_cells h2)

theorem masked_few (V : List (List UInt8)) (n : Nat) (h1 : 1 ≤ n) (h2 : n ≤ 100) (hz : V.length ≤ 200) (hb : ∀ s, s ∈ V → s.length = n ∧ s.all bitB = true) (he : vecErr (n : Int) V = 0) (hf : (trisL (turnL V n) n (pairsTo n n)).length ≤ 10000) (B : Nat) (w : World) (v : Value) (h : StrsAt B w v V) :
    Calls Tryd.prog 10 #[.int .i64 (n : Int), v] w fun e w' => ∃ v', e = .returned (.tuple #[v', .int .i64 0]) ∧ TrisAt w.heap.size w' v' (trisL (turnL V n) n (pairsTo n n)) ∧ Below w.heap.size w w' := by
  refine (masked_ok V n h1 h2 hz hb he B w v h).mono ?_
  rintro e w' ⟨v', h3, h4, h5⟩
  rw [if_pos hf] at h3 h4
  exact ⟨v', h3, h4, h5⟩
theorem masked_many (V : List (List UInt8)) (n : Nat) (h1 : 1 ≤ n) (h2 : n ≤ 100) (hz : V.length ≤ 200) (hb : ∀ s, s ∈ V → s.length = n ∧ s.all bitB = true) (he : vecErr (n : Int) V = 0) (hf : ¬ (trisL (turnL V n) n (pairsTo n n)).length ≤ 10000) (B : Nat) (w : World) (v : Value) (h : StrsAt B w v V) :
    Calls Tryd.prog 10 #[.int .i64 (n : Int), v] w fun e w' => ∃ a c, e = .returned (.tuple #[.slice a 0 c, .int .i64 12]) ∧ Below w.heap.size w w' := by
  refine (masked_ok V n h1 h2 hz hb he B w v h).mono ?_
  rintro e w' ⟨v', h3, h4, h5⟩
  rw [if_neg hf] at h3 h4
  obtain ⟨a, c, rfl⟩ := tris_open h4
  exact ⟨a, c, h3, h5⟩
theorem cmpOr_to (x y o : Int) (ho : (if x = 0 then y else x) = o) (b : Nat) (w : World) (h0 : w.cell? ⟨b, 0, none⟩ = some (.int .i64 x)) (h1 : w.cell? ⟨b, 1, none⟩ = some (.int .i64 y)) :
    Calls Tryd.prog 12 #[.slice (some ⟨b, 0, none⟩) 2 2] w fun e w' => e = .returned (.int .i64 o) ∧ w = w' := by
  rw [← ho]
  exact cmpOr_any x y b w h0 h1
theorem groupsTo_rows (L : List (List UInt8)) (n k : Nat) (h2 : n ≤ 100) : ∀ i, i < (groupsTo L n k).length → ((groupsTo L n k).getD i []).length ≤ 1000000 := by
  intro i hi
  have e : (groupsTo L n k).getD i [] = (groupsTo L n k)[i] := by simp [hi]
  have hm : (groupsTo L n k)[i] ∈ groupsTo L n k := List.getElem_mem hi
  rw [e]
  generalize (groupsTo L n k)[i] = x at hm
  unfold groupsTo at hm
  obtain ⟨j, -, hj⟩ := List.mem_filterMap.1 hm
  split at hj
  · cases hj
    have := idxTo_len L n (L.getD j [])
    omega
  · cases hj
theorem turnL_rows (V : List (List UInt8)) (n : Nat) (h1 : 1 ≤ n) (h2 : n ≤ 100) (hz : V.length ≤ 200) (hb : ∀ s, s ∈ V → s.length = n ∧ s.all bitB = true) : ∀ k, k < n → ((turnL V n).getD k []).length ≤ 1000 := by
  intro k hk
  have hG := turnL_grid V n h1 h2 hz hb
  have := hG.long k hk
  omega
end Go.Proofs.YtlkdpgjbbbaiiaaDoor
