/- Package flash: CheckImage, the reference's ImageFault; wordsFault. -/
import Derived.Test.YtfoocnhfppjbbaaGreatDoorMcC
namespace Go.Proofs.YtfoocnhfppjbbaaGreatDoor
open Go.RowKit

/-- What is wrong with the words of a memory, or with the memory. -/
def cmErr (S W : List Int) : Int := if flErr S = 0 then imErr S W else flErr S
set_option maxHeartbeats 1600000 in
set_option maxRecDepth 100000 in
theorem checkImage_any (S L : List Int) (hz : S.length ≤ 1000000) (hzL : L.length ≤ 1000000) (w : World) (v u : Value) (h : NumsAt w v S) (hL : NumsAt w u L) :
    Calls Tryz.prog 31 #[.agg #[v], u] w fun e w' => e = .returned (.int .i64 (cmErr S L)) ∧ Below w.heap.size w w' := by
  obtain ⟨W1, hW1⟩ : ∃ W1 : World, W1 = w.alloc (.cells #[v] 27) := ⟨_, rfl⟩
  have hB1 : Below w.heap.size w W1 := by rw [hW1]; exact (Below.refl _ _).alloc (Nat.le_refl _) _
  have hc0 : W1.cell? ⟨w.heap.size, 0, none⟩ = some v := by rw [hW1]; simp
  have hl1 : w.heap.size < W1.heap.size := World.block_lt_of_cell? W1 ⟨w.heap.size, 0, none⟩ hc0
  have h1 := h.later hB1
  have hL1 := hL.later hB1
  have hcf := checkFlash_any S hz W1 v h1
  have hlo := fun hS W hB => longOf_any S hS W v (h1.later hB)
  have haw := fun W hB => areWithin_any L hzL 0 65535 W u (hL1.later hB)
  obtain ⟨a, c, rfl, -, -⟩ := h
  obtain ⟨a2, c2, rfl, -, -⟩ := hL
  obtain ⟨E, hE⟩ : ∃ E, E = cmErr S L := ⟨_, rfl⟩
  rw [← hE]
  unfold cmErr at hE
  have HW := Lib.hid hW1
  have HB1 := Lib.hid hB1
  by_cases h0 : flErr S = 0
  · rw [if_pos h0] at hE
    have hr := flErr_right h0
    have hlo2 := hlo hr.small
    have hsu := hr.sum
    have hs0 : 0 ≤ sumS S := by
      have := preS_mono hr.low S.length (Nat.le_refl _) 0 (Nat.zero_le _)
      have e : preS S 0 = 0 := rfl
      have e2 : sumS S = preS S S.length := rfl
      omega
    rw [h0] at hcf
    unfold imErr at hE
    obtain ⟨su, hsu2⟩ : ∃ x, x = sumS S := ⟨_, rfl⟩
    rw [← hsu2] at hE hsu hs0 hlo2
    obtain ⟨n, hn⟩ : ∃ n, n = S.length := ⟨_, rfl⟩
    obtain ⟨m, hm⟩ : ∃ m, m = L.length := ⟨_, rfl⟩
    rw [← hn] at hcf hlo2 HW hc0
    rw [← hm] at hE haw hzL
    rw [← hn, ← hm]
    have HC := Lib.hid (⟨hlo2, haw, hE⟩ : _ ∧ _ ∧ _)
    clear hlo hlo2 haw hE hr h1 hL1 hW1 hB1 hsu2 hn hm h0 hz
    go_enter Tryz.func31, Tryz.ntmps31
    go_wp2_with fail
    rw [← HW.out]
    refine hcf.mono ?_
    rintro e w2 ⟨rfl, hB2⟩
    have hlo := HC.out.1 w2 hB2
    have hc2' := (hB2.cell (p := ⟨w.heap.size, 0, none⟩) hl1).trans hc0
    have HB2 := Lib.hid hB2
    clear hcf hB2
    go_wp2_with fail
    refine hlo.mono ?_
    rintro e w3 ⟨rfl, hB3⟩
    have hB13 := HB2.out.trans (hB3.mono HB2.out.size)
    have HB3 := Lib.hid hB13
    clear hlo hB3 hB13
    have hE := HC.out.2.2
    by_cases h2 : (m : Int) = su
    · rw [if_neg (by omega)] at hE
      have n2 : ((m : Int) != su) = false := by simpa using h2
      have haw := HC.out.2.1 w3 HB3.out
      cases hq : withinB 0 65535 L with
      | false =>
        rw [if_pos hq] at hE
        rw [hq] at haw
        subst hE
        clear hq h2
        go_wp2_with fail
        refine haw.mono ?_
        rintro e w4 ⟨rfl, hB4⟩
        have HB4 := Lib.hid (HB1.out.trans ((HB3.out.trans (hB4.mono HB3.out.size)).mono HB1.out.size))
        clear haw hB4
        go_wp2_with fail
        go_ret
        exact ⟨rfl, HB4.out⟩
      | true =>
        rw [if_neg (by rw [hq]; decide)] at hE
        rw [hq] at haw
        subst hE
        clear hq h2
        go_wp2_with fail
        refine haw.mono ?_
        rintro e w4 ⟨rfl, hB4⟩
        have HB4 := Lib.hid (HB1.out.trans ((HB3.out.trans (hB4.mono HB3.out.size)).mono HB1.out.size))
        clear haw hB4
        go_wp2_with fail
        go_ret
        exact ⟨rfl, HB4.out⟩
    · rw [if_pos (by omega)] at hE
      have n2 : ((m : Int) != su) = true := by simpa using h2
      subst hE
      clear h2
      go_wp2_with fail
      go_ret
      exact ⟨rfl, HB1.out.trans (HB3.out.mono HB1.out.size)⟩
  · rw [if_neg h0] at hE
    obtain ⟨F, hF⟩ : ∃ F, F = flErr S := ⟨_, rfl⟩
    rw [← hF] at hcf h0 hE
    subst hE
    have n0 : (E != 0) = true := by simpa using h0
    obtain ⟨n, hn⟩ : ∃ n, n = S.length := ⟨_, rfl⟩
    obtain ⟨m, hm⟩ : ∃ m, m = L.length := ⟨_, rfl⟩
    rw [← hn] at hcf HW hc0
    rw [← hn, ← hm]
    clear hlo haw h1 hL1 hW1 hB1 h0 hz hn hm hF
    go_enter Tryz.func31, Tryz.ntmps31
    go_wp2_with fail
    rw [← HW.out]
    refine hcf.mono ?_
    rintro e w2 ⟨rfl, hB2⟩
    have HB2 := Lib.hid (HB1.out.trans (hB2.mono HB1.out.size))
    clear hcf hB2
    go_wp2_with fail
    go_ret
    exact ⟨rfl, HB2.out⟩
set_option maxHeartbeats 1600000 in
set_option maxRecDepth 100000 in
theorem imageFault_any (S L : List Int) (hS : Small S) (hzL : L.length ≤ 1000000) (w : World) (v u : Value) (h : NumsAt w v S) (hL : NumsAt w u L) :
    Calls Tryz.prog 8 #[.agg #[v], u] w fun e w' => e = .returned (.int .i64 (imErr S L)) ∧ Below w.heap.size w w' := by
  obtain ⟨W1, hW1⟩ : ∃ W1 : World, W1 = w.alloc (.cells #[v] 27) := ⟨_, rfl⟩
  have hB1 : Below w.heap.size w W1 := by rw [hW1]; exact (Below.refl _ _).alloc (Nat.le_refl _) _
  have hc0 : W1.cell? ⟨w.heap.size, 0, none⟩ = some v := by rw [hW1]; simp
  have hlo := rwordsOf_any S hS W1 v (h.later hB1)
  have hL1 := hL.later hB1
  obtain ⟨a, c, rfl, -, -⟩ := h
  obtain ⟨a2, c2, rfl, -, hop⟩ := hL1
  clear hL
  obtain ⟨E, hE⟩ : ∃ E, E = imErr S L := ⟨_, rfl⟩
  rw [← hE]
  unfold imErr at hE
  obtain ⟨su, hsu2⟩ : ∃ x, x = sumS S := ⟨_, rfl⟩
  rw [← hsu2] at hE hlo
  obtain ⟨n, hn⟩ : ∃ n, n = S.length := ⟨_, rfl⟩
  obtain ⟨m, hm⟩ : ∃ m, m = L.length := ⟨_, rfl⟩
  rw [← hn] at hlo hc0 hW1 ⊢
  rw [← hm] at hE hop hzL ⊢
  have HW := Lib.hid hW1
  have HB1 := Lib.hid hB1
  have HC := Lib.hid (⟨hop, hm, hE⟩ : _ ∧ _ ∧ _)
  clear hW1 hB1 hop hm hE hsu2 hn hS
  go_enter Tryz.func8, Tryz.ntmps8
  go_wp2_with fail
  rw [← HW.out]
  refine hlo.mono ?_
  rintro e w2 ⟨rfl, hB2⟩
  have HB2 := Lib.hid hB2
  clear hlo hB2
  have hE := HC.out.2.2
  by_cases h2 : (m : Int) = su
  · rw [if_neg (by omega)] at hE
    have n2 : ((m : Int) != su) = false := by simpa using h2
    have HE := Lib.hid hE
    clear hE h2
    go_wp2_with fail
    go_loopw [14] (fun i wr => ∃ (k : Nat), k ≤ m ∧ i = .int .i64 (k : Int) ∧ withinB 0 65535 (L.take k) = true ∧ Below W1.heap.size W1 wr) (fun i _ => m - (intOf i).toNat)
    case atStart => exact ⟨0, by omega, rfl, by rfl, HB2.out⟩
    case round =>
      obtain ⟨k, hk, rfl, hW, hB⟩ := hrel
      by_cases hlt : k < m
      · obtain ⟨g, o, rfl, hg, hcell⟩ := HC.out.1 (by omega)
        have hc := (hB.cell (p := ⟨g, o + k, none⟩) hg).trans (hcell k hlt)
        have hst := withinB_take 0 65535 L k (by rw [← HC.out.2.1]; exact hlt) hW
        have hq := fun W => rin_any (L.getD k 0) 0 65535 W
        have hin : inB (L.getD k 0) 0 65535 = withinB 0 65535 (L.take (k + 1)) := by rw [hst]; rfl
        rw [hin] at hq
        obtain ⟨y, hy⟩ : ∃ y, y = L.getD k 0 := ⟨_, rfl⟩
        rw [← hy] at hc hq
        have k0 : (0 : Int) ≤ (k : Int) := by omega
        have k1 : (k : Int) < (m : Int) := by omega
        have hq1 := hq wr
        cases hq2 : withinB 0 65535 (L.take (k + 1)) with
        | true =>
          rw [hq2] at hq1
          have HB := Lib.hid (⟨hB, hq2⟩ : _ ∧ _)
          clear hB hcell hy hst hW hq2 hq hin
          go_wp2_with fail
          refine hq1.mono ?_
          rintro e w' ⟨rfl, rfl⟩
          clear hq1
          go_wp2_with fail
          go_roundw
          case rel => exact ⟨k + 1, by omega, by go_num, HB.out.2, HB.out.1⟩
          case measure => simp [intOf]; omega
        | false =>
          rw [hq2] at hq1
          have hno := withinB_no 0 65535 L k hq2
          have hE := HE.out
          rw [if_pos hno] at hE
          subst hE
          have HB := Lib.hid hB
          clear hB hcell hy hst hW hq2 hno hq hin
          go_wp2_with fail
          refine hq1.mono ?_
          rintro e w' ⟨rfl, rfl⟩
          clear hq1
          go_wp2_with fail
          go_ret
          exact ⟨rfl, HB1.out.trans (HB.out.mono HB1.out.size)⟩
      · obtain rfl : k = m := by omega
        have hq : withinB 0 65535 L = true := by rw [HC.out.2.1, List.take_length] at hW; exact hW
        have hE := HE.out
        rw [if_neg (by rw [hq]; decide)] at hE
        subst hE
        have HB := Lib.hid hB
        clear hB hW hq
        go_wp2_with fail
        go_ret
        exact ⟨rfl, HB1.out.trans (HB.out.mono HB1.out.size)⟩
  · rw [if_pos (by omega)] at hE
    have n2 : ((m : Int) != su) = true := by simpa using h2
    subst hE
    clear h2
    go_wp2_with fail
    go_ret
    exact ⟨rfl, HB1.out.trans (HB2.out.mono HB1.out.size)⟩
end Go.Proofs.YtfoocnhfppjbbaaGreatDoor
/- Package flash: checkOp. -/
namespace Go.Proofs.YtfoocnhfppjbbaaGreatDoor
open Go.RowKit

theorem cell_new1 (w : World) (cs : Array Value) (t : TypeId) {j : Nat} {v : Value} (h : cs[j]? = some v) : (w.alloc (.cells cs t)).cell? ⟨w.heap.size, j, none⟩ = some v := by
  have e : (w.alloc (.cells cs t)).heap[w.heap.size]? = some (.cells cs t) := World.alloc_heap_new w _
  unfold World.cell?
  simp only [e]
  simp [h]
theorem within_one (x lo hi : Int) (w : World) : Calls Tryz.prog 53 #[.int .i64 lo, .int .i64 hi, .slice (some ⟨w.heap.size, 0, none⟩) 1 1] (w.alloc (.cells #[.int .i64 x] 3)) fun e w' => e = .returned (.bool (decide (lo ≤ x) && decide (x ≤ hi))) ∧ Below w.heap.size w w' := by
  have hB : Below w.heap.size w (w.alloc (.cells #[.int .i64 x] 3)) := (Below.refl _ _).alloc (Nat.le_refl _) _
  have hn : NumsAt (w.alloc (.cells #[.int .i64 x] 3)) (.slice (some ⟨w.heap.size, 0, none⟩) 1 1) [x] := by
    refine ⟨_, _, rfl, Nat.le_refl _, fun _ => ⟨w.heap.size, 0, rfl, by simp, fun j hj => ?_⟩⟩
    obtain rfl : j = 0 := by simpa using hj
    exact cell_new1 w #[.int .i64 x] _ rfl
  refine (areWithin_any [x] (by simp) lo hi _ _ hn).mono ?_
  rintro e w' ⟨rfl, h2⟩
  refine ⟨?_, hB.trans (h2.mono hB.size)⟩
  unfold withinB
  simp
set_option maxHeartbeats 1600000 in
set_option maxRecDepth 100000 in
theorem checkOp_any (secs adrs k a v : Int) (hs : -1000000 ≤ secs ∧ secs ≤ 1000000) (ha : -1000000 ≤ adrs ∧ adrs ≤ 1000000) (w : World) :
    Calls Tryz.prog 57 #[.int .i64 secs, .int .i64 adrs, .agg #[.int .i64 k, .int .i64 a, .int .i64 v]] w fun e w' => e = .returned (.int .i64 (opErr secs adrs (k, a, v))) ∧ Below w.heap.size w w' := by
  obtain ⟨W1, hW1⟩ : ∃ W1 : World, W1 = w.alloc (.cells #[.int .i64 k, .int .i64 a, .int .i64 v] 51) := ⟨_, rfl⟩
  have hB1 : Below w.heap.size w W1 := by rw [hW1]; exact (Below.refl _ _).alloc (Nat.le_refl _) _
  have hz1 : W1.heap.size = w.heap.size + 1 := by rw [hW1]; simp
  have c2 : W1.cell? ⟨w.heap.size, 2, none⟩ = some (.int .i64 v) := by rw [hW1]; exact cell_new1 w _ _ rfl
  have hw1 := fun lo hi => within_one a lo hi W1
  rw [hW1] at hw1
  simp only [World.size_alloc] at hw1
  obtain ⟨E, hE⟩ : ∃ E, E = opErr secs adrs (k, a, v) := ⟨_, rfl⟩
  rw [← hE]
  unfold opErr at hE
  dsimp only at hE
  have HB1 := Lib.hid hB1
  have HW1 := Lib.hid hW1
  have HZ := Lib.hid hz1
  have HC2 := Lib.hid c2
  clear hB1 hW1 hz1 c2
  by_cases k1 : k = 1
  · rw [if_pos k1] at hE
    have n1 : (k == 1) = true := by rw [k1]; rfl
    clear k1
    have hw := hw1 0 (secs - 1)
    by_cases h1 : a < 0 ∨ secs - 1 < a
    · rw [if_pos h1] at hE
      rw [show (decide (0 ≤ a) && decide (a ≤ secs - 1)) = false by rcases h1 with h | h <;> simp <;> omega] at hw
      subst hE
      clear h1 hw1
      go_enter Tryz.func57, Tryz.ntmps57
      go_wp2_with fail
      refine hw.mono ?_
      rintro e w2 ⟨rfl, hB2⟩
      rw [← HW1.out] at hB2
      have HB2 := Lib.hid (HB1.out.trans (hB2.mono (show w.heap.size ≤ w.heap.size + 1 by omega)))
      clear hw hB2
      go_wp2_with fail
      go_ret
      exact ⟨rfl, HB2.out⟩
    · rw [if_neg h1] at hE
      rw [show (decide (0 ≤ a) && decide (a ≤ secs - 1)) = true by simp; omega] at hw
      clear h1 hw1
      by_cases h2 : v = 0
      · rw [if_neg (by simpa using h2)] at hE
        have n2 : (v != 0) = false := by simpa using h2
        subst hE
        clear h2
        go_enter Tryz.func57, Tryz.ntmps57
        go_wp2_with fail
        refine hw.mono ?_
        rintro e w2 ⟨rfl, hB2⟩
        rw [← HW1.out] at hB2
        have d2 := (hB2.cell (p := ⟨w.heap.size, 2, none⟩) (show w.heap.size < w.heap.size + 1 by omega)).trans HC2.out
        have HB2 := Lib.hid (HB1.out.trans (hB2.mono (show w.heap.size ≤ w.heap.size + 1 by omega)))
        clear hw hB2
        go_wp2_with fail
        go_ret
        exact ⟨rfl, HB2.out⟩
      · rw [if_pos h2] at hE
        have n2 : (v != 0) = true := by simpa using h2
        subst hE
        clear h2
        go_enter Tryz.func57, Tryz.ntmps57
        go_wp2_with fail
        refine hw.mono ?_
        rintro e w2 ⟨rfl, hB2⟩
        rw [← HW1.out] at hB2
        have d2 := (hB2.cell (p := ⟨w.heap.size, 2, none⟩) (show w.heap.size < w.heap.size + 1 by omega)).trans HC2.out
        have HB2 := Lib.hid (HB1.out.trans (hB2.mono (show w.heap.size ≤ w.heap.size + 1 by omega)))
        clear hw hB2
        go_wp2_with fail
        go_ret
        exact ⟨rfl, HB2.out⟩
  rw [if_neg k1] at hE
  have n1 : (k == 1) = false := by simpa using k1
  by_cases k2 : k = 2
  · rw [if_pos k2] at hE
    have n2 : (k == 2) = true := by rw [k2]; rfl
    clear k1 k2
    have hw := hw1 0 (adrs - 1)
    by_cases h1 : a < 0 ∨ adrs - 1 < a
    · rw [if_pos (by omega)] at hE
      rw [show (decide (0 ≤ a) && decide (a ≤ adrs - 1)) = false by rcases h1 with h | h <;> simp <;> omega] at hw
      subst hE
      clear h1 hw1
      go_enter Tryz.func57, Tryz.ntmps57
      go_wp2_with fail
      refine hw.mono ?_
      rintro e w2 ⟨rfl, hB2⟩
      rw [← HW1.out] at hB2
      have HB2 := Lib.hid (HB1.out.trans (hB2.mono (show w.heap.size ≤ w.heap.size + 1 by omega)))
      clear hw hB2
      go_wp2_with fail
      go_ret
      exact ⟨rfl, HB2.out⟩
    · rw [show (decide (0 ≤ a) && decide (a ≤ adrs - 1)) = true by simp; omega] at hw
      have hv : E = if v < 0 ∨ 65535 < v then 1 else 0 := by
        rw [hE]
        by_cases h3 : v < 0 ∨ 65535 < v
        · rw [if_pos h3, if_pos (by omega)]
        · rw [if_neg h3, if_neg (by omega)]
      clear hE h1 hw1
      have hb : (decide (0 ≤ v) && decide (v ≤ 65535)) = !decide (v < 0 ∨ 65535 < v) := by
        by_cases h3 : v < 0 ∨ 65535 < v
        · rw [decide_eq_true h3]; rcases h3 with h | h <;> simp <;> omega
        · rw [decide_eq_false h3]; simp; omega
      have HV := Lib.hid (⟨hv, hb⟩ : _ ∧ _)
      clear hv hb
      go_enter Tryz.func57, Tryz.ntmps57
      go_wp2_with fail
      refine hw.mono ?_
      rintro e w2 ⟨rfl, hB2⟩
      rw [← HW1.out] at hB2
      have d2 := (hB2.cell (p := ⟨w.heap.size, 2, none⟩) (show w.heap.size < w.heap.size + 1 by omega)).trans HC2.out
      have hw2 := within_one v 0 65535 w2
      rw [HV.out.2] at hw2
      have HB2 := Lib.hid (HB1.out.trans (hB2.mono (show w.heap.size ≤ w.heap.size + 1 by omega)))
      have hE := HV.out.1
      clear hw hB2
      by_cases h3 : v < 0 ∨ 65535 < v
      · rw [if_pos h3] at hE
        rw [decide_eq_true h3] at hw2
        subst hE
        clear h3
        go_wp2_with fail
        refine hw2.mono ?_
        rintro e w3 ⟨rfl, hB3⟩
        have HB3 := Lib.hid (HB2.out.trans (hB3.mono HB2.out.size))
        clear hw2 hB3
        go_wp2_with fail
        go_ret
        exact ⟨rfl, HB3.out⟩
      · rw [if_neg h3] at hE
        rw [decide_eq_false h3] at hw2
        subst hE
        clear h3
        go_wp2_with fail
        refine hw2.mono ?_
        rintro e w3 ⟨rfl, hB3⟩
        have HB3 := Lib.hid (HB2.out.trans (hB3.mono HB2.out.size))
        clear hw2 hB3
        go_wp2_with fail
        go_ret
        exact ⟨rfl, HB3.out⟩
  · rw [if_neg k2] at hE
    have n2 : (k == 2) = false := by simpa using k2
    subst hE
    clear k1 k2 hw1
    go_enter Tryz.func57, Tryz.ntmps57
    go_wp2_with fail
    go_ret
    exact ⟨rfl, by rw [← HW1.out]; exact HB1.out⟩
end Go.Proofs.YtfoocnhfppjbbaaGreatDoor
