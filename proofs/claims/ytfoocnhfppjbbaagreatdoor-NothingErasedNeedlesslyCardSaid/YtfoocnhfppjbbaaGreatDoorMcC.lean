/- Package flash: CheckFlash, CheckImage, the reference's FlashFault and ImageFault. Made by gens/mcc.py. -/
import Derived.Test.YtfoocnhfppjbbaaGreatDoorM1
namespace Go.Proofs.YtfoocnhfppjbbaaGreatDoor
open Go.RowKit

/-- The numbers are not too great to be added. -/
def Small (S : List Int) : Prop := S.length ≤ 1000 ∧ ∀ k, k < S.length → -1000000 ≤ S.getD k 0 ∧ S.getD k 0 ≤ 1000000
theorem preS_small {S : List Int} (h : Small S) : ∀ k, k ≤ S.length → -1000000 * (k : Int) ≤ preS S k ∧ preS S k ≤ 1000000 * (k : Int)
  | 0, _ => by
    have : preS S 0 = 0 := rfl
    omega
  | k + 1, hk => by
    have h1 := preS_small h k (by omega)
    have h2 := h.2 k (by omega)
    show _ ≤ preS S k + S.getD k 0 ∧ preS S k + S.getD k 0 ≤ _
    omega
theorem FlashRight.small {S : List Int} (h : FlashRight S) : Small S := ⟨by have := h.l2; omega, fun k hk => by have h1 := h.low k hk; have h2 := h.high k hk; omega⟩
theorem within_small {S : List Int} (hl : S.length ≤ 20) (h : withinB 1 4096 S = true) : Small S := ⟨by omega, fun k hk => by have h1 := withinB_iff.1 h k hk; omega⟩
set_option maxHeartbeats 1600000 in
set_option maxRecDepth 100000 in
theorem longOf_any (S : List Int) (hS : Small S) (w : World) (v : Value) (h : NumsAt w v S) :
    Calls Tryz.prog 52 #[.agg #[v]] w fun e w' => e = .returned (.int .i64 (sumS S)) ∧ Below w.heap.size w w' := by
  have hps := fun k hk => preS_small hS k hk
  have hsm := hS.2
  obtain ⟨W1, hW1⟩ : ∃ W1 : World, W1 = w.alloc (.cells #[v] 27) := ⟨_, rfl⟩
  have hB1 : Below w.heap.size w W1 := by rw [hW1]; exact (Below.refl _ _).alloc (Nat.le_refl _) _
  have hc0 : W1.cell? ⟨w.heap.size, 0, none⟩ = some v := by rw [hW1]; simp
  have h1 := h.later hB1
  obtain ⟨a, c, rfl, -, hop⟩ := h1
  obtain ⟨n, hn⟩ : ∃ n, n = S.length := ⟨_, rfl⟩
  have hn1 : n ≤ 1000 := by rw [hn]; exact hS.1
  have hsu : preS S n = sumS S := by rw [hn]; rfl
  rw [← hn] at hop hps hsm hW1 hc0 ⊢
  have HC := Lib.hid (⟨hop, hB1, hps, hsm, hsu⟩ : _ ∧ _ ∧ _ ∧ _ ∧ _)
  have HW := Lib.hid hW1
  clear hop hB1 hps hn hS hsm h hsu hW1
  go_enter Tryz.func52, Tryz.ntmps52
  go_wp2_with fail
  rw [← HW.out]
  go_loopw [3, 9] (fun s i wr => ∃ k : Nat, k ≤ n ∧ i = .int .i64 (k : Int) ∧ s = .int .i64 (preS S k) ∧ Below W1.heap.size W1 wr) (fun _ i _ => n - (intOf i).toNat)
  case atStart => exact ⟨0, by omega, rfl, rfl, Below.refl _ _⟩
  case round =>
    obtain ⟨k, hk, rfl, rfl, hB⟩ := hrel
    by_cases hlt : k < n
    · obtain ⟨g, o, rfl, hg, hcell⟩ := HC.out.1 (by omega)
      have hc := (hB.cell (p := ⟨g, o + k, none⟩) hg).trans (hcell k hlt)
      have hp := HC.out.2.2.1 k (by omega)
      have hs := HC.out.2.2.2.1 k hlt
      have hsn : preS S (k + 1) = preS S k + S.getD k 0 := rfl
      have k0 : (0 : Int) ≤ (k : Int) := by omega
      have k1 : (k : Int) < (n : Int) := by omega
      obtain ⟨x, hx⟩ : ∃ x, x = S.getD k 0 := ⟨_, rfl⟩
      obtain ⟨p, hpp⟩ : ∃ p, p = preS S k := ⟨_, rfl⟩
      rw [← hx] at hc hs hsn
      rw [← hpp] at hp hsn ⊢
      have HB := Lib.hid (⟨hB, hsn⟩ : _ ∧ _)
      clear hB hcell hx hpp hsn
      go_wp2_with fail
      go_roundw
      case rel => exact ⟨k + 1, by omega, by go_num, by rw [HB.out.2], HB.out.1⟩
      case measure => simp [intOf]; omega
    · obtain rfl : k = n := by omega
      have HB := Lib.hid hB
      clear hB
      go_wp2_with fail
      go_ret
      exact ⟨by rw [← HC.out.2.2.2.2]; rfl, HC.out.2.1.trans (HB.out.mono HC.out.2.1.size)⟩
set_option maxHeartbeats 1600000 in
set_option maxRecDepth 100000 in
theorem rwordsOf_any (S : List Int) (hS : Small S) (w : World) (v : Value) (h : NumsAt w v S) :
    Calls Tryz.prog 26 #[.agg #[v]] w fun e w' => e = .returned (.int .i64 (sumS S)) ∧ Below w.heap.size w w' := by
  have hps := fun k hk => preS_small hS k hk
  have hsm := hS.2
  obtain ⟨W1, hW1⟩ : ∃ W1 : World, W1 = w.alloc (.cells #[v] 27) := ⟨_, rfl⟩
  have hB1 : Below w.heap.size w W1 := by rw [hW1]; exact (Below.refl _ _).alloc (Nat.le_refl _) _
  have hc0 : W1.cell? ⟨w.heap.size, 0, none⟩ = some v := by rw [hW1]; simp
  have h1 := h.later hB1
  obtain ⟨a, c, rfl, -, hop⟩ := h1
  obtain ⟨n, hn⟩ : ∃ n, n = S.length := ⟨_, rfl⟩
  have hn1 : n ≤ 1000 := by rw [hn]; exact hS.1
  have hsu : preS S n = sumS S := by rw [hn]; rfl
  rw [← hn] at hop hps hsm hW1 hc0 ⊢
  have HC := Lib.hid (⟨hop, hB1, hps, hsm, hsu⟩ : _ ∧ _ ∧ _ ∧ _ ∧ _)
  have HW := Lib.hid hW1
  clear hop hB1 hps hn hS hsm h hsu hW1
  go_enter Tryz.func26, Tryz.ntmps26
  go_wp2_with fail
  rw [← HW.out]
  go_loopw [3, 9] (fun s i wr => ∃ k : Nat, k ≤ n ∧ i = .int .i64 (k : Int) ∧ s = .int .i64 (preS S k) ∧ Below W1.heap.size W1 wr) (fun _ i _ => n - (intOf i).toNat)
  case atStart => exact ⟨0, by omega, rfl, rfl, Below.refl _ _⟩
  case round =>
    obtain ⟨k, hk, rfl, rfl, hB⟩ := hrel
    by_cases hlt : k < n
    · obtain ⟨g, o, rfl, hg, hcell⟩ := HC.out.1 (by omega)
      have hc := (hB.cell (p := ⟨g, o + k, none⟩) hg).trans (hcell k hlt)
      have hp := HC.out.2.2.1 k (by omega)
      have hs := HC.out.2.2.2.1 k hlt
      have hsn : preS S (k + 1) = preS S k + S.getD k 0 := rfl
      have k0 : (0 : Int) ≤ (k : Int) := by omega
      have k1 : (k : Int) < (n : Int) := by omega
      obtain ⟨x, hx⟩ : ∃ x, x = S.getD k 0 := ⟨_, rfl⟩
      obtain ⟨p, hpp⟩ : ∃ p, p = preS S k := ⟨_, rfl⟩
      rw [← hx] at hc hs hsn
      rw [← hpp] at hp hsn ⊢
      have HB := Lib.hid (⟨hB, hsn⟩ : _ ∧ _)
      clear hB hcell hx hpp hsn
      go_wp2_with fail
      go_roundw
      case rel => exact ⟨k + 1, by omega, by go_num, by rw [HB.out.2], HB.out.1⟩
      case measure => simp [intOf]; omega
    · obtain rfl : k = n := by omega
      have HB := Lib.hid hB
      clear hB
      go_wp2_with fail
      go_ret
      exact ⟨by rw [← HC.out.2.2.2.2]; rfl, HC.out.2.1.trans (HB.out.mono HC.out.2.1.size)⟩
set_option maxHeartbeats 1600000 in
set_option maxRecDepth 100000 in
theorem checkFlash_any (S : List Int) (hz : S.length ≤ 1000000) (w : World) (v : Value) (h : NumsAt w v S) :
    Calls Tryz.prog 51 #[.agg #[v]] w fun e w' => e = .returned (.int .i64 (flErr S)) ∧ Below w.heap.size w w' := by
  obtain ⟨W1, hW1⟩ : ∃ W1 : World, W1 = w.alloc (.cells #[v] 27) := ⟨_, rfl⟩
  have hB1 : Below w.heap.size w W1 := by rw [hW1]; exact (Below.refl _ _).alloc (Nat.le_refl _) _
  have hc0 : W1.cell? ⟨w.heap.size, 0, none⟩ = some v := by rw [hW1]; simp
  have hl1 : w.heap.size < W1.heap.size := World.block_lt_of_cell? W1 ⟨w.heap.size, 0, none⟩ hc0
  have h1 := h.later hB1
  have haw := areWithin_any S hz 1 4096 W1 v h1
  have hlo := fun hS W hB => longOf_any S hS W v (h1.later hB)
  obtain ⟨a, c, rfl, -, -⟩ := h
  obtain ⟨E, hE⟩ : ∃ E, E = flErr S := ⟨_, rfl⟩
  rw [← hE]
  unfold flErr at hE
  obtain ⟨n, hn⟩ : ∃ n, n = S.length := ⟨_, rfl⟩
  rw [← hn] at hE haw hlo hW1 hc0 h1 ⊢
  have HW := Lib.hid hW1
  have HB1 := Lib.hid hB1
  by_cases h0 : n = 0
  · rw [if_pos h0] at hE
    have n0 : ((n : Int) == 0) = true := by simpa using h0
    subst h0
    clear hW1 hB1 haw hlo h1 hn hz
    subst hE
    go_enter Tryz.func51, Tryz.ntmps51
    go_wp2_with fail
    go_ret
    exact ⟨rfl, by rw [← HW.out]; exact HB1.out⟩
  rw [if_neg h0] at hE
  have n0 : ((n : Int) == 0) = false := by simpa using h0
  by_cases h20 : 20 < n
  · rw [if_pos h20] at hE
    have n1 : (20 : Int) < (n : Int) := by omega
    clear hW1 hB1 haw hlo h1 hn hz h0
    subst hE
    go_enter Tryz.func51, Tryz.ntmps51
    go_wp2_with fail
    go_ret
    exact ⟨rfl, by rw [← HW.out]; exact HB1.out⟩
  rw [if_neg h20] at hE
  have n1 : (n : Int) ≤ 20 := by omega
  cases hq : withinB 1 4096 S with
  | false =>
    rw [if_pos hq] at hE
    rw [hq] at haw
    clear hW1 hB1 hlo h1 hn hz h0 h20 hq
    subst hE
    go_enter Tryz.func51, Tryz.ntmps51
    go_wp2_with fail
    rw [← HW.out]
    refine haw.mono ?_
    rintro e w2 ⟨rfl, hB2⟩
    have HB2 := Lib.hid (HB1.out.trans (hB2.mono HB1.out.size))
    clear haw hB2
    go_wp2_with fail
    go_ret
    exact ⟨rfl, HB2.out⟩
  | true =>
    rw [if_neg (by rw [hq]; decide)] at hE
    rw [hq] at haw
    have hlo2 := hlo (within_small (by omega) hq)
    have hb := (preS_small (within_small (S := S) (by omega) hq) S.length (Nat.le_refl _))
    have hsb : -1000000000 ≤ sumS S ∧ sumS S ≤ 1000000000 := by
      have h3 : sumS S = preS S S.length := rfl
      omega
    obtain ⟨su, hsu⟩ : ∃ x, x = sumS S := ⟨_, rfl⟩
    rw [← hsu] at hE hsb
    have HL := Lib.hid (⟨hlo2, hE, hsu⟩ : _ ∧ _ ∧ _)
    clear hW1 hB1 hlo h1 hn hz h0 h20 hq hlo2 hE hb hsu
    go_enter Tryz.func51, Tryz.ntmps51
    go_wp2_with fail
    rw [← HW.out]
    refine haw.mono ?_
    rintro e w2 ⟨rfl, hB2⟩
    have hlo := HL.out.1 w2 hB2
    rw [← HL.out.2.2] at hlo
    have hc2 := (hB2.cell (p := ⟨w.heap.size, 0, none⟩) hl1).trans hc0
    have HB2 := Lib.hid (HB1.out.trans (hB2.mono HB1.out.size))
    clear haw hB2
    go_wp2_with fail
    refine hlo.mono ?_
    rintro e w3 ⟨rfl, hB3⟩
    have HB3 := Lib.hid (HB2.out.trans (hB3.mono HB2.out.size))
    clear hlo hB3
    have hE := HL.out.2.1
    by_cases h4 : 4096 < su
    · rw [if_pos h4] at hE
      subst hE
      go_wp2_with fail
      go_ret
      exact ⟨rfl, HB3.out⟩
    · rw [if_neg h4] at hE
      subst hE
      have h5 : su ≤ 4096 := by omega
      clear h4
      go_wp2_with fail
      go_ret
      exact ⟨rfl, HB3.out⟩
set_option maxHeartbeats 1600000 in
set_option maxRecDepth 100000 in
theorem flashFault_any (S : List Int) (hz : S.length ≤ 1000000) (w : World) (v : Value) (h : NumsAt w v S) :
    Calls Tryz.prog 7 #[.agg #[v]] w fun e w' => e = .returned (.int .i64 (flErr S)) ∧ Below w.heap.size w w' := by
  obtain ⟨W1, hW1⟩ : ∃ W1 : World, W1 = w.alloc (.cells #[v] 27) := ⟨_, rfl⟩
  have hB1 : Below w.heap.size w W1 := by rw [hW1]; exact (Below.refl _ _).alloc (Nat.le_refl _) _
  have hc0 : W1.cell? ⟨w.heap.size, 0, none⟩ = some v := by rw [hW1]; simp
  have hl1 : w.heap.size < W1.heap.size := World.block_lt_of_cell? W1 ⟨w.heap.size, 0, none⟩ hc0
  have h1 := h.later hB1
  have hlo := fun hS W hB => rwordsOf_any S hS W v (h1.later hB)
  obtain ⟨a, c, rfl, -, hop⟩ := h1
  clear h
  obtain ⟨E, hE⟩ : ∃ E, E = flErr S := ⟨_, rfl⟩
  rw [← hE]
  unfold flErr at hE
  obtain ⟨n, hn⟩ : ∃ n, n = S.length := ⟨_, rfl⟩
  rw [← hn] at hE hlo hW1 hc0 hop ⊢
  have HW := Lib.hid hW1
  have HB1 := Lib.hid hB1
  by_cases h0 : n = 0
  · rw [if_pos h0] at hE
    have n0 : ((n : Int) == 0) = true := by simpa using h0
    subst h0
    clear hW1 hB1 hlo hn hz hop
    subst hE
    go_enter Tryz.func7, Tryz.ntmps7
    go_wp2_with fail
    go_ret
    exact ⟨rfl, by rw [← HW.out]; exact HB1.out⟩
  rw [if_neg h0] at hE
  have n0 : ((n : Int) == 0) = false := by simpa using h0
  by_cases h20 : 20 < n
  · rw [if_pos h20] at hE
    have n1 : (20 : Int) < (n : Int) := by omega
    clear hW1 hB1 hlo hn hz h0 hop
    subst hE
    go_enter Tryz.func7, Tryz.ntmps7
    go_wp2_with fail
    go_ret
    exact ⟨rfl, by rw [← HW.out]; exact HB1.out⟩
  rw [if_neg h20] at hE
  have n1 : (n : Int) ≤ 20 := by omega
  have HC := Lib.hid (⟨hop, hn, hE, hlo⟩ : _ ∧ _ ∧ _ ∧ _)
  have hn20 : n ≤ 20 := by omega
  clear hop hn hE hlo hW1 hB1 hz h0 h20
  go_enter Tryz.func7, Tryz.ntmps7
  go_wp2_with fail
  rw [← HW.out]
  go_loopw [18] (fun i wr => ∃ (k : Nat), k ≤ n ∧ i = .int .i64 (k : Int) ∧ withinB 1 4096 (S.take k) = true ∧ Below W1.heap.size W1 wr) (fun i _ => n - (intOf i).toNat)
  case atStart => exact ⟨0, by omega, rfl, by rfl, Below.refl _ _⟩
  case round =>
    obtain ⟨k, hk, rfl, hW, hB⟩ := hrel
    by_cases hlt : k < n
    · obtain ⟨g, o, rfl, hg, hcell⟩ := HC.out.1 (by omega)
      have hc := (hB.cell (p := ⟨g, o + k, none⟩) hg).trans (hcell k hlt)
      have hst := withinB_take 1 4096 S k (by rw [← HC.out.2.1]; exact hlt) hW
      have hq := fun W => rin_any (S.getD k 0) 1 4096 W
      have hin : inB (S.getD k 0) 1 4096 = withinB 1 4096 (S.take (k + 1)) := by rw [hst]; rfl
      rw [hin] at hq
      obtain ⟨y, hy⟩ : ∃ y, y = S.getD k 0 := ⟨_, rfl⟩
      rw [← hy] at hc hq
      have k0 : (0 : Int) ≤ (k : Int) := by omega
      have k1 : (k : Int) < (n : Int) := by omega
      have hq1 := hq wr
      cases hq2 : withinB 1 4096 (S.take (k + 1)) with
      | true =>
        rw [hq2] at hq1
        have HB := Lib.hid (⟨hB, hq2⟩ : _ ∧ _)
        clear hB hcell hy hst hW hq2 hq hin
        go_wp2_with fail
        refine hq1.mono ?_
        rintro e w' ⟨rfl, rfl⟩
        clear hq1
        go_wp2_with fail
        go_roundw
        case rel => exact ⟨k + 1, by omega, by go_num, HB.out.2, HB.out.1⟩
        case measure => simp [intOf]; omega
      | false =>
        rw [hq2] at hq1
        have hno := withinB_no 1 4096 S k hq2
        have hE := HC.out.2.2.1
        rw [if_pos hno] at hE
        subst hE
        have HB := Lib.hid hB
        clear hB hcell hy hst hW hq2 hno hq hin
        go_wp2_with fail
        refine hq1.mono ?_
        rintro e w' ⟨rfl, rfl⟩
        clear hq1
        go_wp2_with fail
        go_ret
        exact ⟨rfl, HB1.out.trans (HB.out.mono HB1.out.size)⟩
    · obtain rfl : k = n := by omega
      have hq : withinB 1 4096 S = true := by rw [HC.out.2.1, List.take_length] at hW; exact hW
      have hE := HC.out.2.2.1
      rw [if_neg (by rw [hq]; decide)] at hE
      have hsm := within_small (S := S) (by rw [← HC.out.2.1]; exact hn20) hq
      have hlo := HC.out.2.2.2 hsm wr hB
      have hc2 := (hB.cell (p := ⟨w.heap.size, 0, none⟩) hl1).trans hc0
      obtain ⟨su, hsu⟩ : ∃ x, x = sumS S := ⟨_, rfl⟩
      rw [← hsu] at hE hlo
      have HB := Lib.hid (⟨hB, hE⟩ : _ ∧ _)
      clear hB hW hq hsm hE hsu
      go_wp2_with fail
      refine hlo.mono ?_
      rintro e w3 ⟨rfl, hB3⟩
      have HB3 := Lib.hid ((HB1.out.trans (HB.out.1.mono HB1.out.size)).trans (hB3.mono (by have h1 := HB1.out.size; have h2 := HB.out.1.size; omega)))
      clear hlo hB3
      have hE := HB.out.2
      by_cases h4 : 4096 < su
      · rw [if_pos h4] at hE
        subst hE
        go_wp2_with fail
        go_ret
        exact ⟨rfl, HB3.out⟩
      · rw [if_neg h4] at hE
        subst hE
        have h5 : su ≤ 4096 := by omega
        clear h4
        go_wp2_with fail
        go_ret
        exact ⟨rfl, HB3.out⟩
end Go.Proofs.YtfoocnhfppjbbaaGreatDoor
