/- Package flash: checkOp. -/
import Derived.Test.YtfoocnhfppjbbaaGreatDoorMcD
namespace Go.Proofs.YtfoocnhfppjbbaaGreatDoor
open Go.RowKit

theorem cell_new1 (w : World) (cs : Array Value) (t : TypeId) {j : Nat} {v : Value} (h : cs[j]? = some v) : (w.alloc (.cells cs t)).cell? ⟨w.heap.size, j, none⟩ = some v := by
  have e : (w.alloc (.cells cs t)).heap[w.heap.size]? = some (.cells cs t) := World.alloc_heap_new w _
  unfold World.cell?
  simp only [e]
  simp [h]
theorem within_one (x lo hi : Int) (w : World) : Calls Tryz.prog 53 #[.int .i64 lo, .int .i64 hi, .slice (some ⟨w.heap.size, 0, none⟩) 1 1] (w.alloc (.cells #[.int .i64 x] 3)) fun e w' => e = .returned (.bool (decide (lo ≤ x) && decide (x ≤ hi))) ∧ Below w.heap.size w w' := by
  have hB : Below w.heap.size w (w.alloc (.cells #[.int .i64 x] 3)) := (Below.refl _ _).alloc (Nat.le_refl _) _
  have hn : NumsAt (w.alloc (.cells #[.int .i64 x] 3)) (.slice (some ⟨w.heap.size, 0, none⟩) 1 1) [x] := by
    refine ⟨_, _, rfl, Nat.le_refl _, fun _ => ⟨w.heap.size, 0, rfl, by simp, fun j hj => ?_⟩⟩
    obtain rfl : j = 0 := by simpa using hj
    exact cell_new1 w #[.int .i64 x] _ rfl
  refine (areWithin_any [x] (by simp) lo hi _ _ hn).mono ?_
  rintro e w' ⟨rfl, h2⟩
  refine ⟨?_, hB.trans (h2.mono hB.size)⟩
  unfold withinB
  simp
set_option maxHeartbeats 1600000 in
set_option maxRecDepth 100000 in
theorem checkOp_any (secs adrs k a v : Int) (hs : -1000000 ≤ secs ∧ secs ≤ 1000000) (ha : -1000000 ≤ adrs ∧ adrs ≤ 1000000) (w : World) :
    Calls Tryz.prog 57 #[.int .i64 secs, .int .i64 adrs, .agg #[.int .i64 k, .int .i64 a, .int .i64 v]] w fun e w' => e = .returned (.int .i64 (opErr secs adrs (k, a, v))) ∧ Below w.heap.size w w' := by
  obtain ⟨W1, hW1⟩ : ∃ W1 : World, W1 = w.alloc (.cells #[.int .i64 k, .int .i64 a, .int .i64 v] 51) := ⟨_, rfl⟩
  have hB1 : Below w.heap.size w W1 := by rw [hW1]; exact (Below.refl _ _).alloc (Nat.le_refl _) _
  have hz1 : W1.heap.size = w.heap.size + 1 := by rw [hW1]; simp
  have c2 : W1.cell? ⟨w.heap.size, 2, none⟩ = some (.int .i64 v) := by rw [hW1]; exact cell_new1 w _ _ rfl
  have hw1 := fun lo hi => within_one a lo hi W1
  rw [hW1] at hw1
  simp only [World.size_alloc] at hw1
  obtain ⟨E, hE⟩ : ∃ E, E = opErr secs adrs (k, a, v) := ⟨_, rfl⟩
  rw [← hE]
  unfold opErr at hE
  dsimp only at hE
  have HB1 := Lib.hid hB1
  have HW1 := Lib.hid hW1
  have HZ := Lib.hid hz1
  have HC2 := Lib.hid c2
  clear hB1 hW1 hz1 c2
  by_cases k1 : k = 1
  · rw [if_pos k1] at hE
    have n1 : (k == 1) = true := by rw [k1]; rfl
    clear k1
    have hw := hw1 0 (secs - 1)
    by_cases h1 : a < 0 ∨ secs - 1 < a
    · rw [if_pos h1] at hE
      rw [show (decide (0 ≤ a) && decide (a ≤ secs - 1)) = false by rcases h1 with h | h <;> simp <;> omega] at hw
      subst hE
      clear h1 hw1
      go_enter Tryz.func57, Tryz.ntmps57
      go_wp2_with fail
      refine hw.mono ?_
      rintro e w2 ⟨rfl, hB2⟩
      rw [← HW1.out] at hB2
      have HB2 := Lib.hid (HB1.out.trans (hB2.mono (show w.heap.size ≤ w.heap.size + 1 by omega)))
      clear hw hB2
      go_wp2_with fail
      go_ret
      exact ⟨rfl, HB2.out⟩
    · rw [if_neg h1] at hE
      rw [show (decide (0 ≤ a) && decide (a ≤ secs - 1)) = true by simp; omega] at hw
      clear h1 hw1
      by_cases h2 : v = 0
      · rw [if_neg (by simpa using h2)] at hE
        have n2 : (v != 0) = false := by simpa using h2
        subst hE
        clear h2
        go_enter Tryz.func57, Tryz.ntmps57
        go_wp2_with fail
        refine hw.mono ?_
        rintro e w2 ⟨rfl, hB2⟩
        rw [← HW1.out] at hB2
        have d2 := (hB2.cell (p := ⟨w.heap.size, 2, none⟩) (show w.heap.size < w.heap.size + 1 by omega)).trans HC2.out
        have HB2 := Lib.hid (HB1.out.trans (hB2.mono (show w.heap.size ≤ w.heap.size + 1 by omega)))
        clear hw hB2
        go_wp2_with fail
        go_ret
        exact ⟨rfl, HB2.out⟩
      · rw [if_pos h2] at hE
        have n2 : (v != 0) = true := by simpa using h2
        subst hE
        clear h2
        go_enter Tryz.func57, Tryz.ntmps57
        go_wp2_with fail
        refine hw.mono ?_
        rintro e w2 ⟨rfl, hB2⟩
        rw [← HW1.out] at hB2
        have d2 := (hB2.cell (p := ⟨w.heap.size, 2, none⟩) (show w.heap.size < w.heap.size + 1 by omega)).trans HC2.out
        have HB2 := Lib.hid (HB1.out.trans (hB2.mono (show w.heap.size ≤ w.heap.size + 1 by omega)))
        clear hw hB2
        go_wp2_with fail
        go_ret
        exact ⟨rfl, HB2.out⟩
  rw [if_neg k1] at hE
  have n1 : (k == 1) = false := by simpa using k1
  by_cases k2 : k = 2
  · rw [if_pos k2] at hE
    have n2 : (k == 2) = true := by rw [k2]; rfl
    clear k1 k2
    have hw := hw1 0 (adrs - 1)
    by_cases h1 : a < 0 ∨ adrs - 1 < a
    · rw [if_pos (by omega)] at hE
      rw [show (decide (0 ≤ a) && decide (a ≤ adrs - 1)) = false by rcases h1 with h | h <;> simp <;> omega] at hw
      subst hE
      clear h1 hw1
      go_enter Tryz.func57, Tryz.ntmps57
      go_wp2_with fail
      refine hw.mono ?_
      rintro e w2 ⟨rfl, hB2⟩
      rw [← HW1.out] at hB2
      have HB2 := Lib.hid (HB1.out.trans (hB2.mono (show w.heap.size ≤ w.heap.size + 1 by omega)))
      clear hw hB2
      go_wp2_with fail
      go_ret
      exact ⟨rfl, HB2.out⟩
    · rw [show (decide (0 ≤ a) && decide (a ≤ adrs - 1)) = true by simp; omega] at hw
      have hv : E = if v < 0 ∨ 65535 < v then 1 else 0 := by
        rw [hE]
        by_cases h3 : v < 0 ∨ 65535 < v
        · rw [if_pos h3, if_pos (by omega)]
        · rw [if_neg h3, if_neg (by omega)]
      clear hE h1 hw1
      have hb : (decide (0 ≤ v) && decide (v ≤ 65535)) = !decide (v < 0 ∨ 65535 < v) := by
        by_cases h3 : v < 0 ∨ 65535 < v
        · rw [decide_eq_true h3]; rcases h3 with h | h <;> simp <;> omega
        · rw [decide_eq_false h3]; simp; omega
      have HV := Lib.hid (⟨hv, hb⟩ : _ ∧ _)
      clear hv hb
      go_enter Tryz.func57, Tryz.ntmps57
      go_wp2_with fail
      refine hw.mono ?_
      rintro e w2 ⟨rfl, hB2⟩
      rw [← HW1.out] at hB2
      have d2 := (hB2.cell (p := ⟨w.heap.size, 2, none⟩) (show w.heap.size < w.heap.size + 1 by omega)).trans HC2.out
      have hw2 := within_one v 0 65535 w2
      rw [HV.out.2] at hw2
      have HB2 := Lib.hid (HB1.out.trans (hB2.mono (show w.heap.size ≤ w.heap.size + 1 by omega)))
      have hE := HV.out.1
      clear hw hB2
      by_cases h3 : v < 0 ∨ 65535 < v
      · rw [if_pos h3] at hE
        rw [decide_eq_true h3] at hw2
        subst hE
        clear h3
        go_wp2_with fail
        refine hw2.mono ?_
        rintro e w3 ⟨rfl, hB3⟩
        have HB3 := Lib.hid (HB2.out.trans (hB3.mono HB2.out.size))
        clear hw2 hB3
        go_wp2_with fail
        go_ret
        exact ⟨rfl, HB3.out⟩
      · rw [if_neg h3] at hE
        rw [decide_eq_false h3] at hw2
        subst hE
        clear h3
        go_wp2_with fail
        refine hw2.mono ?_
        rintro e w3 ⟨rfl, hB3⟩
        have HB3 := Lib.hid (HB2.out.trans (hB3.mono HB2.out.size))
        clear hw2 hB3
        go_wp2_with fail
        go_ret
        exact ⟨rfl, HB3.out⟩
  · rw [if_neg k2] at hE
    have n2 : (k == 2) = false := by simpa using k2
    subst hE
    clear k1 k2 hw1
    go_enter Tryz.func57, Tryz.ntmps57
    go_wp2_with fail
    go_ret
    exact ⟨rfl, by rw [← HW1.out]; exact HB1.out⟩
end Go.Proofs.YtfoocnhfppjbbaaGreatDoor
