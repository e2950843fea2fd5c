/- The walk of FiveOnesReset: it returns true, and turns nothing that was there. -/
import Derived.Test.YtoipgliokelcfaaGreatDoorWfE
import Derived.Test.YtoipgliokelcfaaGreatDoorPvStr
namespace Go.Proofs.YtoipgliokelcfaaGreatDoor
open Go.RowKit

theorem ones_ok (k : Nat) (h5 : 5 ≤ k) (h9 : k ≤ 9) : clockErr ⟨(Lib.repeatL [49] k).toArray⟩ = 0 ∧ AllTo (Lib.repeatL [49] k) 16 ∧ nxs 0 (Lib.repeatL [49] k) = 0 := by
  have : k = 5 ∨ k = 6 ∨ k = 7 ∨ k = 8 ∨ k = 9 := by omega
  rcases this with rfl | rfl | rfl | rfl | rfl <;> refine ⟨by decide +kernel, ?_, by decide +kernel⟩ <;> (unfold AllTo; decide +kernel)
theorem paths_ok : ∀ a, a < 16 → ∀ b, b < 16 → (pathOf a b).length ≤ 20 ∧ clockErr ⟨(pathOf a b).toArray⟩ = 0 ∧ ((pathOf a b).length = 0 → a = b) ∧ nxs a (pathOf a b) = b ∧ ((List.range ((pathOf a b).length - 1)).all fun j => decide (nxs a ((pathOf a b).take (j + 1)) ≠ b)) = true := by decide +kernel
set_option maxHeartbeats 1600000 in
set_option maxRecDepth 100000 in
theorem filaw_any (a0 : Option Addr) (len cap : Nat) (w : World) (h : RowIn w a0 len) (hT : Tab w) :
    Calls Tryz.prog 3 #[.slice a0 len cap] w fun e w' => e = .returned (.bool true) ∧ Below w.heap.size w w' := by
  have hs := Strm.start (cap := cap) h
  have hTl := hT.lt
  obtain ⟨W0, hW0⟩ : ∃ W0 : World, w.alloc (.cells #[.slice a0 len cap, .int .i64 0] 25) = W0 := ⟨_, rfl⟩
  rw [hW0] at hs
  have hB0 : Below w.heap.size w W0 := by rw [← hW0]; exact (Below.refl _ w).alloc (Nat.le_refl _) _
  have hsz0 : W0.heap.size = w.heap.size + 1 := by rw [← hW0]; simp
  have h1 := range_any w.heap.size 0 0 15 W0 hs (by omega) (by decide) (by decide) (by decide)
  have HT := Lib.hid (fun X (hX : Below w.heap.size w X) => hT.below hX hTl)
  have HB0 := Lib.hid hB0
  clear h hB0 hs hT hTl
  go_enter Tryz.func3, Tryz.ntmps3
  go_wp2_with fail
  have HW0 := Lib.hid hW0
  clear hW0
  refine h1.mono ?_
  rintro e w1 ⟨⟨a, a1, a2, rfl⟩, hr1⟩
  obtain ⟨t1, ht1, ht1', hs1⟩ := hr1.strm
  obtain ⟨a, rfl⟩ : ∃ z : Nat, a = (z : Int) := ⟨a.toNat, by omega⟩
  have h2 := range_any w.heap.size t1 0 15 w1 hs1 (by omega) (by decide) (by decide) (by decide)
  have HR1 := Lib.hid hr1
  clear h1 hr1 hs1
  go_wp2_with fail
  refine h2.mono ?_
  rintro e w2 ⟨⟨b, b1, b2, rfl⟩, hr2⟩
  obtain ⟨t2, ht2, ht2', hs2⟩ := hr2.strm
  obtain ⟨b, rfl⟩ : ∃ z : Nat, b = (z : Int) := ⟨b.toNat, by omega⟩
  have h3 := range_any w.heap.size t2 5 9 w2 hs2 (by omega) (by decide) (by decide) (by decide)
  have HR2 := Lib.hid (HR1.out.then ht1 ht1' hr2)
  clear h2 hr2 hs2
  go_wp2_with fail
  refine h3.mono ?_
  rintro e w3 ⟨⟨k, k1, k2, rfl⟩, hr3⟩
  obtain ⟨k, rfl⟩ : ∃ z : Nat, k = (z : Int) := ⟨k.toNat, by omega⟩
  have hr03 := HR2.out.then (by omega) (by omega) hr3
  have hB3 := HB0.out.trans (hr03.below (by omega))
  have h4 := Tryz.strings_Repeat ⟨#[49]⟩ k w3 (by omega) (by show 1 * k ≤ _; omega)
  obtain ⟨o1, o2, o3⟩ := ones_ok k (by omega) (by omega)
  change Calls Tryz.prog _ _ _ (fun e w' => e = .returned (.string ⟨(Lib.repeatL [49] k).toArray⟩) ∧ Below w3.heap.size w3 w') at h4
  have HB3 := Lib.hid hB3
  clear h3 hr3 hr03 hB3
  obtain ⟨s1, hs1⟩ : ∃ s : ByteArray, s = ⟨(Lib.repeatL [49] k).toArray⟩ := ⟨_, rfl⟩
  have o2' : AllTo s1.data.toList 16 := by rw [hs1]; exact o2
  have o3' : nxs 0 s1.data.toList = 0 := by rw [hs1]; exact o3
  rw [← hs1] at h4 o1
  have h5 := fun X hX => sync_yes s1 X o1 (HT.out X hX) o2'
  rw [o3'] at h5
  clear hs1 o1 o2 o3 o2' o3'
  go_wp2_with fail
  refine h4.mono ?_
  rintro e w4 ⟨rfl, hy⟩
  have hB := HB3.out.trans (hy.mono HB3.out.size)
  have h5' := h5 w4 hB
  have HB4 := Lib.hid hB
  clear h4 h5 hy hB
  go_wp2_with fail
  refine h5'.mono ?_
  rintro e w5 ⟨rfl, hy⟩
  have hB := HB4.out.trans (hy.mono HB4.out.size)
  obtain ⟨p1, p2, p3, p4, p5⟩ := paths_ok a (by omega) b (by omega)
  have h6 := path_ok a b w5 (by omega) (by omega) (HT.out w5 hB)
  obtain ⟨P, hP⟩ : ∃ P, P = pathOf a b := ⟨_, rfl⟩
  rw [← hP] at p1 p2 p3 p4 p5 h6
  obtain ⟨s, hsd⟩ : ∃ s : ByteArray, s = ⟨P.toArray⟩ := ⟨_, rfl⟩
  have hsz : s.size = P.length := by rw [hsd]; show P.toArray.size = _; rw [List.size_toArray]
  have hsl : s.data.toList = P := by rw [hsd]
  rw [← hsd] at h6 p2
  have h7 := fun X hX => walk_ok a s X (by omega) p2 (HT.out X hX)
  rw [hsl] at h7
  have HP := Lib.hid (⟨p3, p4, p5, hsz⟩ : _ ∧ _ ∧ _ ∧ _)
  have HB5 := Lib.hid hB
  have hn20 : s.size ≤ 20 := by omega
  clear h5' hy hB hP hsd hsl p2 p3 p4 p5 hsz p1
  go_wp2_with fail
  refine h6.mono ?_
  rintro e w6 ⟨rfl, hy⟩
  have hB := HB5.out.trans (hy.mono HB5.out.size)
  have h7' := h7 w6 hB
  have HB6 := Lib.hid hB
  clear h6 h7 hy hB
  go_wp2_with fail
  refine h7'.mono ?_
  rintro e w7 ⟨g, rfl, hg, hrow, hy⟩
  have hcell := hrow.2
  have hB := HB6.out.trans (hy.mono HB6.out.size)
  have hrd := ready1_any w7 (HT.out w7 hB)
  have HB7 := Lib.hid (⟨hB, hcell⟩ : _ ∧ _)
  clear h7' hy hB hrow hcell
  by_cases h0 : s.size = 0
  · have hab : a = b := HP.out.1 (by rw [← HP.out.2.2.2]; exact h0)
    subst hab
    have hco := Tryz.slices_Contains_int_empty (some ⟨g, 0, none⟩) s.size (a : Int) w7
    have hmx : max (0 : Int) ((s.size : Int) - 1) = 0 := by omega
    have hz : (s.size : Int) = 0 := by omega
    rw [h0] at hmx hco ⊢
    have hmz : (max (0 : Int) (-1)).toNat = 0 := by decide
    have hco2 : Calls Tryz.prog 12 #[.slice (some ⟨g, 0, none⟩) (max (0 : Int) (-1)).toNat 0, .int .i64 (a : Int)] w7 fun e w' => e = .returned (.bool false) ∧ w' = w7 := by rw [hmz]; exact hco
    clear hmz hco
    go_wp2_with fail
    refine hco2.mono ?_
    rintro e w8 ⟨rfl, rfl⟩
    go_wp2_with fail
    refine hrd.mono ?_
    rintro e w9 ⟨rfl, hy⟩
    have HZ := Lib.hid (HB7.out.1.trans (hy.mono HB7.out.1.size))
    clear hy hrd
    go_wp2_with fail
    go_ret
    exact ⟨rfl, HZ.out⟩
  · have hm : s.size - 1 < s.size := by omega
    have hlast : w7.cell? ⟨g, s.size - 1, none⟩ = some (.int .i64 ((nxs a (P.take (s.size - 1 + 1)) : Nat) : Int)) := HB7.out.2 (s.size - 1) hm
    have htk : P.take (s.size - 1 + 1) = P := by rw [show s.size - 1 + 1 = s.size by omega, HP.out.2.2.2, List.take_length]
    rw [htk, HP.out.2.1] at hlast
    have hall := HP.out.2.2.1
    rw [← HP.out.2.2.2] at hall
    have hzs : ∀ j, j < ((List.range (s.size - 1)).map fun (j : Nat) => ((nxs a (P.take (j + 1)) : Nat) : Int)).length → w7.cell? ⟨g, 0 + j, none⟩ = some (.int .i64 (((List.range (s.size - 1)).map fun (j : Nat) => ((nxs a (P.take (j + 1)) : Nat) : Int)).getD j 0)) := fun j hj => by
      have hj2 : j < s.size - 1 := by simpa using hj
      have h8 : w7.cell? ⟨g, j, none⟩ = some (.int .i64 ((nxs a (P.take (j + 1)) : Nat) : Int)) := HB7.out.2 j (by omega)
      rw [Nat.zero_add, h8]
      simp [hj2]
    have hco := Tryz.slices_Contains_int g 0 (s.size - 1) s.size _ (b : Int) w7 (by simp) (by omega) hzs
    have hno : ((((List.range (s.size - 1)).map fun (j : Nat) => ((nxs a (P.take (j + 1)) : Nat) : Int)).take (s.size - 1)).contains (b : Int)) = false := by
      rw [List.take_of_length_le (by simp)]
      rw [Bool.eq_false_iff]
      intro hc
      rw [List.contains_iff_mem, List.mem_map] at hc
      obtain ⟨j, hj, e⟩ := hc
      have h9 := List.all_eq_true.1 hall j hj
      simp only [decide_eq_true_eq] at h9
      exact h9 (by omega)
    rw [hno] at hco
    have hs1 : (1 : Int) ≤ (s.size : Int) := by omega
    have hpos : (0 : Int) < (s.size : Int) := by omega
    have hpos' : 0 < s.size := by omega
    have hmz : (max (0 : Int) ((s.size : Int) - 1)).toNat = s.size - 1 := by omega
    have hco2 : Calls Tryz.prog 12 #[.slice (some ⟨g, 0, none⟩) (max (0 : Int) ((s.size : Int) - 1)).toNat s.size, .int .i64 (b : Int)] w7 fun e w' => e = .returned (.bool false) ∧ w' = w7 := by rw [hmz]; exact hco
    clear hzs hno hall htk hmz hco
    go_wp2_with fail
    refine hco2.mono ?_
    rintro e w8 ⟨rfl, rfl⟩
    go_wp2_with fail
    refine hrd.mono ?_
    rintro e w9 ⟨rfl, hy⟩
    have HZ := Lib.hid (HB7.out.1.trans (hy.mono HB7.out.1.size))
    clear hy hrd
    go_wp2_with fail
    go_ret
    exact ⟨rfl, HZ.out⟩
end Go.Proofs.YtoipgliokelcfaaGreatDoor
