/- The reference's OpsFault. Made by gens/mcq.py. -/
import Derived.Test.YtdejjplkignaoaaMcP
import Derived.Deep.RegionHeld3
namespace Go.Proofs.Ytdejjplkignaoaa
open Go.RowKit

theorem opErr_two (x y a v : Int) : opErr x y (2, a, v) = if inB a 0 (y - 1) = true then (if inB v 0 65535 = true then 0 else 1) else 1 := by
  unfold opErr inB
  dsimp only
  rw [if_neg (show ¬ (2 : Int) = 1 by decide), if_pos rfl]
  simp only [Bool.and_eq_true, decide_eq_true_eq]
  by_cases h : a < 0 ∨ y - 1 < a ∨ v < 0 ∨ 65535 < v
  · rw [if_pos h]
    by_cases h2 : 0 ≤ a ∧ a ≤ y - 1
    · rw [if_pos h2, if_neg (by omega)]
    · rw [if_neg h2]
  · rw [if_neg h, if_pos (by omega), if_pos (by omega)]
theorem opErr_one (x y a v : Int) : opErr x y (1, a, v) = if inB a 0 (x - 1) = true then (if v = 0 then 0 else 3) else 1 := by
  unfold opErr inB
  dsimp only
  rw [if_pos rfl]
  simp only [Bool.and_eq_true, decide_eq_true_eq]
  by_cases h : a < 0 ∨ x - 1 < a
  · rw [if_pos h, if_neg (show ¬ (0 ≤ a ∧ a ≤ x - 1) by omega)]
  · rw [if_neg h, if_pos (show 0 ≤ a ∧ a ≤ x - 1 by omega)]
    by_cases h2 : v = 0
    · rw [if_neg (show ¬ v ≠ 0 from fun hh => hh h2), if_pos h2]
    · rw [if_pos h2, if_neg h2]
theorem opErr_else (x y k a v : Int) (h1 : k ≠ 1) (h2 : k ≠ 2) : opErr x y (k, a, v) = 4 := by
  unfold opErr
  dsimp only
  rw [if_neg h1, if_neg h2]
set_option maxHeartbeats 1600000 in
set_option maxRecDepth 100000 in
theorem opsFault_any (S : List Int) (O : List Opn) (hS : FlashRight S) (hzO : O.length ≤ 1000000) (w : World) (v u : Value) (h : NumsAt w v S) (hO : OpsAt w u O) :
    Calls Try.prog 12 #[.agg #[v], u] w fun e w' => e = .returned (.int .i64 (opsErr S O)) ∧ Below w.heap.size w w' := by
  obtain ⟨W1, hW1⟩ : ∃ W1 : World, W1 = w.alloc (.cells #[v] 27) := ⟨_, rfl⟩
  have hB1 : Below w.heap.size w W1 := by rw [hW1]; exact (Below.refl _ _).alloc (Nat.le_refl _) _
  have hc0 : W1.cell? ⟨w.heap.size, 0, none⟩ = some v := by rw [hW1]; simp
  have hl1 : w.heap.size < W1.heap.size := World.block_lt_of_cell? W1 ⟨w.heap.size, 0, none⟩ hc0
  have h1 := h.later hB1
  have hO1 := hO.later hB1
  have hrw := fun W hB => rwordsOf_any S hS.small W v (h1.later hB)
  obtain ⟨a, c, rfl, -, -⟩ := h
  obtain ⟨a2, c2, rfl, -, hop⟩ := hO1
  clear hO
  obtain ⟨E, hE⟩ : ∃ E, E = opsErr S O := ⟨_, rfl⟩
  rw [← hE]
  unfold opsErr at hE
  have HW := Lib.hid hW1
  have HB1 := Lib.hid hB1
  have hsu := hS.sum
  have hs0 := flSum_pos hS
  have hn20 := hS.l2
  obtain ⟨su, hsu2⟩ : ∃ x, x = sumS S := ⟨_, rfl⟩
  rw [← hsu2] at hE hsu hs0 hrw
  obtain ⟨n, hn⟩ : ∃ n, n = S.length := ⟨_, rfl⟩
  obtain ⟨m, hm⟩ : ∃ m, m = O.length := ⟨_, rfl⟩
  rw [← hn] at hrw HW hc0 hE hn20
  rw [← hm] at hE hzO hop
  rw [← hn, ← hm]
  have HC := Lib.hid (⟨hrw, hop, hm⟩ : _ ∧ _ ∧ _)
  clear hrw hop h1 hW1 hB1 hsu2 hn hm
  by_cases h5 : 50000 < m
  · rw [if_pos h5] at hE
    have n5 : (50000 : Int) < (m : Int) := by omega
    clear h5
    subst hE
    go_enter Try.func12, Try.ntmps12
    go_wp2_with fail
    rw [← HW.out]
    go_ret
    exact ⟨rfl, HB1.out⟩
  rw [if_neg h5] at hE
  have n5 : (m : Int) ≤ 50000 := by omega
  have HE := Lib.hid hE
  have hww : IntKind.i64.wrap (su - 1) = su - 1 := IntWalk.i64_in _ (by omega)
  have HWW := Lib.hid hww
  clear h5 hE hww
  go_enter Try.func12, Try.ntmps12
  go_wp2_with fail
  rw [← HW.out]
  go_loopw [12] (fun i wr => ∃ (k : Nat), k ≤ m ∧ i = .int .i64 (k : Int) ∧ opsFirst (n : Int) su (O.take k) = 0 ∧ Below W1.heap.size W1 wr) (fun i _ => m - (intOf i).toNat)
  case atStart => exact ⟨0, by omega, rfl, by rfl, Below.refl _ _⟩
  case round =>
    obtain ⟨k, hk, rfl, hW, hB⟩ := hrel
    by_cases hlt : k < m
    · obtain ⟨g, o, rfl, hg, hcell⟩ := HC.out.2.1 (by omega)
      obtain ⟨d1, d2, d3⟩ := hcell k hlt
      have hc1 := (hB.cell (p := ⟨g, o + k * 3, none⟩) hg).trans d1
      have hc2 := (hB.cell (p := ⟨g, o + k * 3 + 1, none⟩) hg).trans d2
      have hc3 := (hB.cell (p := ⟨g, o + k * 3 + 2, none⟩) hg).trans d3
      clear d1 d2 d3
      have hst := opsFirst_take (n : Int) su O k (by rw [← HC.out.2.2]; exact hlt) hW
      have hno := opsFirst_no (n : Int) su O (k + 1)
      rw [hst] at hno
      obtain ⟨x, y, z, hy⟩ : ∃ x y z, O.getD k (0, 0, 0) = (x, y, z) := ⟨_, _, _, rfl⟩
      rw [hy] at hc1 hc2 hc3 hst hno
      dsimp only at hc1 hc2 hc3
      have k0 : (0 : Int) ≤ (k : Int) := by omega
      have k1 : (k : Int) < (m : Int) := by omega
      obtain ⟨WA, hWA⟩ : ∃ WA : World, WA = wr.alloc (.cells #[.int .i64 x, .int .i64 y, .int .i64 z] 57) := ⟨_, rfl⟩
      have hBA : Below wr.heap.size wr WA := by rw [hWA]; exact (Below.refl _ _).alloc (Nat.le_refl _) _
      have hlt1 : wr.heap.size < WA.heap.size := by rw [hWA]; simp
      have hlt0 : w.heap.size < WA.heap.size := Nat.lt_trans (Nat.lt_of_lt_of_le hl1 hB.size) hlt1
      have f0 : WA.cell? ⟨wr.heap.size, 0, none⟩ = some (.int .i64 x) := by rw [hWA]; exact cell_new1 wr _ _ rfl
      have f1 : WA.cell? ⟨wr.heap.size, 1, none⟩ = some (.int .i64 y) := by rw [hWA]; exact cell_new1 wr _ _ rfl
      have f2 : WA.cell? ⟨wr.heap.size, 2, none⟩ = some (.int .i64 z) := by rw [hWA]; exact cell_new1 wr _ _ rfl
      have gr0 : wr.cell? ⟨w.heap.size, 0, none⟩ = some (.slice a n c) := (hB.cell (p := ⟨w.heap.size, 0, none⟩) hl1).trans hc0
      have hgw : w.heap.size < wr.heap.size := Nat.lt_of_lt_of_le hl1 hB.size
      have g0 : WA.cell? ⟨w.heap.size, 0, none⟩ = some (.slice a n c) := (hBA.cell (p := ⟨w.heap.size, 0, none⟩) (Nat.lt_of_lt_of_le hl1 hB.size)).trans ((hB.cell (p := ⟨w.heap.size, 0, none⟩) hl1).trans hc0)
      have hBr : Below W1.heap.size W1 WA := hB.trans (hBA.mono hB.size)
      have HBr := Lib.hid hBr
      have HWA := Lib.hid hWA
      have HE1 := Lib.hid (⟨hst, hno, hy⟩ : _ ∧ _ ∧ _)
      clear hW hB hBA hBr hWA hst hno hy hcell
      by_cases hx1 : x = 1
      · subst hx1
        have hA := fun W => rin_any y 0 ((n : Int) - 1) W
        cases hq : inB y 0 ((n : Int) - 1) with
        | false =>
          rw [hq] at hA
          have hEE : E = 1 := by
            obtain ⟨a1, a2, -⟩ := HE1.out
            have e1 : opErr (n : Int) su (1, y, z) = 1 := by rw [opErr_one, hq]; rfl
            rw [HE.out, a2 (by rw [e1]; decide), e1]
          have HEE := Lib.hid hEE
          clear hEE hq
          go_wp2_with (go_at_call 48; refine (hA _).mono ?_; rintro e w4 ⟨rfl, rfl⟩)
          go_ret
          exact ⟨by rw [HEE.out]; rfl, HB1.out.trans ((by rw [← HWA.out]; exact HBr.out : Below W1.heap.size W1 _).mono HB1.out.size)⟩
        | true =>
          rw [hq] at hA
          by_cases hz0 : z = 0
          · subst hz0
            have hST : opsFirst (n : Int) su (O.take (k + 1)) = 0 := by
              obtain ⟨a1, -, -⟩ := HE1.out
              rw [a1, opErr_one, hq]; rfl
            have HST := Lib.hid hST
            clear hST hq
            go_wp2_with (go_at_call 48; refine (hA _).mono ?_; rintro e w4 ⟨rfl, rfl⟩)
            go_quiet (fail)
            go_wp2_with fail
            go_roundw
            case rel => exact ⟨k + 1, by omega, by go_num, HST.out, (by rw [← HWA.out]; exact HBr.out : Below W1.heap.size W1 _).trans ((drewN_below _ _).mono (by rw [← HWA.out]; exact HBr.out.size))⟩
            case measure => simp [intOf]; omega
          · have hEE : E = 3 := by
              obtain ⟨a1, a2, -⟩ := HE1.out
              have e1 : opErr (n : Int) su (1, y, z) = 3 := by rw [opErr_one, hq, if_pos rfl, if_neg hz0]
              rw [HE.out, a2 (by rw [e1]; decide), e1]
            have n0 : (z != 0) = true := by simpa using hz0
            have HEE := Lib.hid hEE
            clear hEE hq hz0
            go_wp2_with (go_at_call 48; refine (hA _).mono ?_; rintro e w4 ⟨rfl, rfl⟩)
            go_ret
            exact ⟨by rw [HEE.out]; rfl, HB1.out.trans ((by rw [← HWA.out]; exact HBr.out : Below W1.heap.size W1 _).mono HB1.out.size)⟩
      have n1 : (x != 1) = true := by simpa using hx1
      have n1b : (x == 1) = false := by simpa using hx1
      by_cases hx2 : x = 2
      · subst hx2
        have hA := fun W => rin_any y 0 (su - 1) W
        have hZ := fun W => rin_any z 0 65535 W
        have hrw := fun (W : World) (hB : Below WA.heap.size WA W) => HC.out.1 W (HBr.out.trans (hB.mono HBr.out.size))
        have hww := HWW.out
        clear n1 n1b hx1
        cases hq : inB y 0 (su - 1) with
        | false =>
          rw [hq] at hA
          have hEE : E = 1 := by
            obtain ⟨a1, a2, -⟩ := HE1.out
            have e1 : opErr (n : Int) su (2, y, z) = 1 := by rw [opErr_two, hq]; rfl
            rw [HE.out, a2 (by rw [e1]; decide), e1]
          have HEE := Lib.hid hEE
          clear hEE hq hZ
          go_wp2_with fail
          rw [← HWA.out]
          have hBd : Below WA.heap.size WA WA.drew := (Below.refl WA.heap.size WA).drew
          refine wp_region_held_drew (S := (fun W' => W'.cell? ⟨wr.heap.size, 0, none⟩ = some (.int .i64 2) ∧ W'.cell? ⟨wr.heap.size, 1, none⟩ = some (.int .i64 y) ∧ W'.cell? ⟨wr.heap.size, 2, none⟩ = some (.int .i64 z) ∧ W'.cell? ⟨w.heap.size, 0, none⟩ = some (.slice a n c))) (by kernel_rfl) (by first | exact ⟨f0, f1, f2, g0⟩ | exact ⟨e0, e1, e2, e3⟩) (fun hHeld => ?_)
          refine wpAnyH_take (i := 0) (v := ?_) rfl (by kernel_rfl) (by kernel_rfl) (by kernel_rfl) (fun _ _ _ h => h) (Or.inl ⟨by rfl, ?_⟩) (by assumption) ?_
          rotate_left
          focus (intro w hSw; (try dsimp only at hSw); go_simp; first | done | with_reducible rfl)
          go_simp
          refine wpAnyH_take (i := 1) (v := ?_) rfl (by kernel_rfl) (by kernel_rfl) (by kernel_rfl) (fun _ _ _ h => h) (Or.inl ⟨by rfl, ?_⟩) (by assumption) ?_
          rotate_left
          focus (intro w hSw; (try dsimp only at hSw); go_simp; first | done | with_reducible rfl)
          go_simp
          refine wpAnyH_take (i := 2) (v := ?_) rfl (by kernel_rfl) (by kernel_rfl) (by kernel_rfl) (fun _ _ _ h => h) (Or.inl ⟨by rfl, ?_⟩) (by assumption) ?_
          rotate_left
          focus (intro w hSw; (try dsimp only at hSw); go_simp; first | done | with_reducible rfl)
          go_simp
          refine wpAnyH_take (i := 3) (v := ?_) rfl (by kernel_rfl) (by kernel_rfl) (by kernel_rfl) (fun _ _ _ h => h) (Or.inl ⟨by rfl, ?_⟩) (by assumption) ?_
          rotate_left
          focus (intro w hSw; (try dsimp only at hSw); go_simp; first | done | with_reducible rfl)
          go_simp
          refine wpAnyH_take (i := 4) (v := ?_) rfl (by kernel_rfl) (by kernel_rfl) (by kernel_rfl) (fun _ _ _ h => h) (Or.inl ⟨by rfl, ?_⟩) (by assumption) ?_
          rotate_left
          focus (intro w hSw; (try dsimp only at hSw); go_simp; first | done | with_reducible rfl)
          go_simp
          refine wpAnyH_take (i := 5) (v := ?_) rfl (by kernel_rfl) (by kernel_rfl) (by kernel_rfl) (fun _ _ _ h => h) (Or.inl ⟨by rfl, ?_⟩) (by assumption) ?_
          rotate_left
          focus (intro w hSw; (try dsimp only at hSw); go_simp; first | done | with_reducible rfl)
          go_simp
          refine wpAnyH_take (i := 6) (v := ?_) rfl (by kernel_rfl) (by kernel_rfl) (by kernel_rfl) (fun _ _ _ h => h) (Or.inl ⟨by rfl, ?_⟩) (by assumption) ?_
          rotate_left
          focus (intro w hSw; (try dsimp only at hSw); go_simp; first | done | with_reducible rfl)
          go_simp
          refine wpAnyH_ready (rs := [7]) (by kernel_rfl) (by simp) (AllReadyH.cons rfl (fun K hK => ?_) AllReadyH.nil)
          go_simp
          go_at_call 49
          refine (hrw _ hBd).mono ?_
          rintro e w3 ⟨rfl, hB3⟩
          have e0 := (hB3.cell (p := ⟨wr.heap.size, 0, none⟩) hlt1).trans f0
          have e1 := (hB3.cell (p := ⟨wr.heap.size, 1, none⟩) hlt1).trans f1
          have e2 := (hB3.cell (p := ⟨wr.heap.size, 2, none⟩) hlt1).trans f2
          have e3 := (hB3.cell (p := ⟨w.heap.size, 0, none⟩) hlt0).trans g0
          have HB3 := Lib.hid hB3
          clear hB3
          refine hK.out _ _ ?_ (fun hHeld => ?_)
          focus (first | exact ⟨f0, f1, f2, g0⟩ | exact ⟨e0, e1, e2, e3⟩)
          clear hK K
          go_simp
          refine wpAnyH_take (i := 8) (v := ?_) rfl (by kernel_rfl) (by kernel_rfl) (by kernel_rfl) (fun _ _ _ h => h) (Or.inl ⟨by rfl, ?_⟩) (by assumption) ?_
          rotate_left
          focus (intro w hSw; (try dsimp only at hSw); go_simp; first | done | with_reducible rfl)
          go_simp
          refine wpAnyH_ready (rs := [9]) (by kernel_rfl) (by simp) (AllReadyH.cons rfl (fun K hK => ?_) AllReadyH.nil)
          go_simp
          go_at_call 48
          refine (hA _).mono ?_
          rintro e w4 ⟨rfl, rfl⟩
          refine hK.out _ _ ?_ (fun hHeld => ?_)
          focus (first | exact ⟨f0, f1, f2, g0⟩ | exact ⟨e0, e1, e2, e3⟩)
          clear hK K
          go_simp
          refine wpAnyH_take (i := 10) (v := ?_) rfl (by kernel_rfl) (by kernel_rfl) (by kernel_rfl) (fun _ _ _ h => h) (Or.inl ⟨by rfl, ?_⟩) (by assumption) ?_
          rotate_left
          focus (intro w hSw; (try dsimp only at hSw); go_simp; first | done | with_reducible rfl)
          go_simp
          refine wpAnyH_take (i := 11) (v := ?_) rfl (by kernel_rfl) (by kernel_rfl) (by kernel_rfl) (fun _ _ _ h => h) (Or.inl ⟨by rfl, ?_⟩) (by assumption) ?_
          rotate_left
          focus (intro w hSw; (try dsimp only at hSw); go_simp; first | done | with_reducible rfl)
          go_simp
          refine wpAnyH_take (i := 12) (v := undef) rfl (by kernel_rfl) (by kernel_rfl) (by kernel_rfl) (fun _ _ _ h => h) (Or.inr ⟨by rfl, rfl⟩) (by assumption) ?_
          go_simp
          refine wpAnyH_take (i := 13) (v := undef) rfl (by kernel_rfl) (by kernel_rfl) (by kernel_rfl) (fun _ _ _ h => h) (Or.inr ⟨by rfl, rfl⟩) (by assumption) ?_
          go_simp
          refine wpAnyH_take (i := 14) (v := undef) rfl (by kernel_rfl) (by kernel_rfl) (by kernel_rfl) (fun _ _ _ h => h) (Or.inr ⟨by rfl, rfl⟩) (by assumption) ?_
          go_simp
          refine wpAnyH_take (i := 15) (v := undef) rfl (by kernel_rfl) (by kernel_rfl) (by kernel_rfl) (fun _ _ _ h => h) (Or.inr ⟨by rfl, rfl⟩) (by assumption) ?_
          go_simp
          refine wpAnyH_take (i := 16) (v := ?_) rfl (by kernel_rfl) (by kernel_rfl) (by kernel_rfl) (fun _ _ _ h => h) (Or.inl ⟨by rfl, ?_⟩) (by assumption) ?_
          rotate_left
          focus (intro w hSw; (try dsimp only at hSw); go_simp; first | done | with_reducible rfl)
          go_simp
          refine wpAnyH_take (i := 17) (v := ?_) rfl (by kernel_rfl) (by kernel_rfl) (by kernel_rfl) (fun _ _ _ h => h) (Or.inl ⟨by rfl, ?_⟩) (by assumption) ?_
          rotate_left
          focus (intro w hSw; (try dsimp only at hSw); go_simp; first | done | with_reducible rfl)
          go_simp
          refine wpAnyH_take (i := 18) (v := ?_) rfl (by kernel_rfl) (by kernel_rfl) (by kernel_rfl) (fun _ _ _ h => h) (Or.inl ⟨by rfl, ?_⟩) (by assumption) ?_
          rotate_left
          focus (intro w hSw; (try dsimp only at hSw); go_simp; first | done | with_reducible rfl)
          go_simp
          refine wpAnyH_done (by kernel_rfl) ?_ _
          go_wp2_with fail
          go_ret
          exact ⟨by rw [HEE.out]; rfl, HB1.out.trans ((HBr.out.drew.trans (HB3.out.mono HBr.out.size)).mono HB1.out.size)⟩
        | true =>
          rw [hq] at hA
          cases hq2 : inB z 0 65535 with
          | false =>
            rw [hq2] at hZ
            have hEE : E = 1 := by
              obtain ⟨a1, a2, -⟩ := HE1.out
              have e1 : opErr (n : Int) su (2, y, z) = 1 := by rw [opErr_two, hq, hq2]; rfl
              rw [HE.out, a2 (by rw [e1]; decide), e1]
            have HEE := Lib.hid hEE
            clear hEE hq hq2
            go_wp2_with fail
            rw [← HWA.out]
            have hBd : Below WA.heap.size WA WA.drew := (Below.refl WA.heap.size WA).drew
            refine wp_region_held_drew (S := (fun W' => W'.cell? ⟨wr.heap.size, 0, none⟩ = some (.int .i64 2) ∧ W'.cell? ⟨wr.heap.size, 1, none⟩ = some (.int .i64 y) ∧ W'.cell? ⟨wr.heap.size, 2, none⟩ = some (.int .i64 z) ∧ W'.cell? ⟨w.heap.size, 0, none⟩ = some (.slice a n c))) (by kernel_rfl) (by first | exact ⟨f0, f1, f2, g0⟩ | exact ⟨e0, e1, e2, e3⟩) (fun hHeld => ?_)
            refine wpAnyH_take (i := 0) (v := ?_) rfl (by kernel_rfl) (by kernel_rfl) (by kernel_rfl) (fun _ _ _ h => h) (Or.inl ⟨by rfl, ?_⟩) (by assumption) ?_
            rotate_left
            focus (intro w hSw; (try dsimp only at hSw); go_simp; first | done | with_reducible rfl)
            go_simp
            refine wpAnyH_take (i := 1) (v := ?_) rfl (by kernel_rfl) (by kernel_rfl) (by kernel_rfl) (fun _ _ _ h => h) (Or.inl ⟨by rfl, ?_⟩) (by assumption) ?_
            rotate_left
            focus (intro w hSw; (try dsimp only at hSw); go_simp; first | done | with_reducible rfl)
            go_simp
            refine wpAnyH_take (i := 2) (v := ?_) rfl (by kernel_rfl) (by kernel_rfl) (by kernel_rfl) (fun _ _ _ h => h) (Or.inl ⟨by rfl, ?_⟩) (by assumption) ?_
            rotate_left
            focus (intro w hSw; (try dsimp only at hSw); go_simp; first | done | with_reducible rfl)
            go_simp
            refine wpAnyH_take (i := 3) (v := ?_) rfl (by kernel_rfl) (by kernel_rfl) (by kernel_rfl) (fun _ _ _ h => h) (Or.inl ⟨by rfl, ?_⟩) (by assumption) ?_
            rotate_left
            focus (intro w hSw; (try dsimp only at hSw); go_simp; first | done | with_reducible rfl)
            go_simp
            refine wpAnyH_take (i := 4) (v := ?_) rfl (by kernel_rfl) (by kernel_rfl) (by kernel_rfl) (fun _ _ _ h => h) (Or.inl ⟨by rfl, ?_⟩) (by assumption) ?_
            rotate_left
            focus (intro w hSw; (try dsimp only at hSw); go_simp; first | done | with_reducible rfl)
            go_simp
            refine wpAnyH_take (i := 5) (v := ?_) rfl (by kernel_rfl) (by kernel_rfl) (by kernel_rfl) (fun _ _ _ h => h) (Or.inl ⟨by rfl, ?_⟩) (by assumption) ?_
            rotate_left
            focus (intro w hSw; (try dsimp only at hSw); go_simp; first | done | with_reducible rfl)
            go_simp
            refine wpAnyH_take (i := 6) (v := ?_) rfl (by kernel_rfl) (by kernel_rfl) (by kernel_rfl) (fun _ _ _ h => h) (Or.inl ⟨by rfl, ?_⟩) (by assumption) ?_
            rotate_left
            focus (intro w hSw; (try dsimp only at hSw); go_simp; first | done | with_reducible rfl)
            go_simp
            refine wpAnyH_ready (rs := [7]) (by kernel_rfl) (by simp) (AllReadyH.cons rfl (fun K hK => ?_) AllReadyH.nil)
            go_simp
            go_at_call 49
            refine (hrw _ hBd).mono ?_
            rintro e w3 ⟨rfl, hB3⟩
            have e0 := (hB3.cell (p := ⟨wr.heap.size, 0, none⟩) hlt1).trans f0
            have e1 := (hB3.cell (p := ⟨wr.heap.size, 1, none⟩) hlt1).trans f1
            have e2 := (hB3.cell (p := ⟨wr.heap.size, 2, none⟩) hlt1).trans f2
            have e3 := (hB3.cell (p := ⟨w.heap.size, 0, none⟩) hlt0).trans g0
            have HB3 := Lib.hid hB3
            clear hB3
            refine hK.out _ _ ?_ (fun hHeld => ?_)
            focus (first | exact ⟨f0, f1, f2, g0⟩ | exact ⟨e0, e1, e2, e3⟩)
            clear hK K
            go_simp
            refine wpAnyH_take (i := 8) (v := ?_) rfl (by kernel_rfl) (by kernel_rfl) (by kernel_rfl) (fun _ _ _ h => h) (Or.inl ⟨by rfl, ?_⟩) (by assumption) ?_
            rotate_left
            focus (intro w hSw; (try dsimp only at hSw); go_simp; first | done | with_reducible rfl)
            go_simp
            refine wpAnyH_ready (rs := [9]) (by kernel_rfl) (by simp) (AllReadyH.cons rfl (fun K hK => ?_) AllReadyH.nil)
            go_simp
            go_at_call 48
            refine (hA _).mono ?_
            rintro e w4 ⟨rfl, rfl⟩
            refine hK.out _ _ ?_ (fun hHeld => ?_)
            focus (first | exact ⟨f0, f1, f2, g0⟩ | exact ⟨e0, e1, e2, e3⟩)
            clear hK K
            go_simp
            refine wpAnyH_take (i := 10) (v := ?_) rfl (by kernel_rfl) (by kernel_rfl) (by kernel_rfl) (fun _ _ _ h => h) (Or.inl ⟨by rfl, ?_⟩) (by assumption) ?_
            rotate_left
            focus (intro w hSw; (try dsimp only at hSw); go_simp; first | done | with_reducible rfl)
            go_simp
            refine wpAnyH_take (i := 11) (v := ?_) rfl (by kernel_rfl) (by kernel_rfl) (by kernel_rfl) (fun _ _ _ h => h) (Or.inl ⟨by rfl, ?_⟩) (by assumption) ?_
            rotate_left
            focus (intro w hSw; (try dsimp only at hSw); go_simp; first | done | with_reducible rfl)
            go_simp
            refine wpAnyH_take (i := 12) (v := ?_) rfl (by kernel_rfl) (by kernel_rfl) (by kernel_rfl) (fun _ _ _ h => h) (Or.inl ⟨by rfl, ?_⟩) (by assumption) ?_
            rotate_left
            focus (intro w hSw; (try dsimp only at hSw); go_simp; first | done | with_reducible rfl)
            go_simp
            refine wpAnyH_take (i := 13) (v := ?_) rfl (by kernel_rfl) (by kernel_rfl) (by kernel_rfl) (fun _ _ _ h => h) (Or.inl ⟨by rfl, ?_⟩) (by assumption) ?_
            rotate_left
            focus (intro w hSw; (try dsimp only at hSw); go_simp; first | done | with_reducible rfl)
            go_simp
            refine wpAnyH_ready (rs := [14]) (by kernel_rfl) (by simp) (AllReadyH.cons rfl (fun K hK => ?_) AllReadyH.nil)
            go_simp
            go_at_call 48
            refine (hZ _).mono ?_
            rintro e w5 ⟨rfl, rfl⟩
            refine hK.out _ _ ?_ (fun hHeld => ?_)
            focus (first | exact ⟨f0, f1, f2, g0⟩ | exact ⟨e0, e1, e2, e3⟩)
            clear hK K
            go_simp
            refine wpAnyH_take (i := 15) (v := ?_) rfl (by kernel_rfl) (by kernel_rfl) (by kernel_rfl) (fun _ _ _ h => h) (Or.inl ⟨by rfl, ?_⟩) (by assumption) ?_
            rotate_left
            focus (intro w hSw; (try dsimp only at hSw); go_simp; first | done | with_reducible rfl)
            go_simp
            refine wpAnyH_take (i := 16) (v := ?_) rfl (by kernel_rfl) (by kernel_rfl) (by kernel_rfl) (fun _ _ _ h => h) (Or.inl ⟨by rfl, ?_⟩) (by assumption) ?_
            rotate_left
            focus (intro w hSw; (try dsimp only at hSw); go_simp; first | done | with_reducible rfl)
            go_simp
            refine wpAnyH_take (i := 17) (v := ?_) rfl (by kernel_rfl) (by kernel_rfl) (by kernel_rfl) (fun _ _ _ h => h) (Or.inl ⟨by rfl, ?_⟩) (by assumption) ?_
            rotate_left
            focus (intro w hSw; (try dsimp only at hSw); go_simp; first | done | with_reducible rfl)
            go_simp
            refine wpAnyH_take (i := 18) (v := ?_) rfl (by kernel_rfl) (by kernel_rfl) (by kernel_rfl) (fun _ _ _ h => h) (Or.inl ⟨by rfl, ?_⟩) (by assumption) ?_
            rotate_left
            focus (intro w hSw; (try dsimp only at hSw); go_simp; first | done | with_reducible rfl)
            go_simp
            refine wpAnyH_done (by kernel_rfl) ?_ _
            go_wp2_with fail
            go_ret
            exact ⟨by rw [HEE.out]; rfl, HB1.out.trans ((HBr.out.drew.trans (HB3.out.mono HBr.out.size)).mono HB1.out.size)⟩
          | true =>
            rw [hq2] at hZ
            have hST : opsFirst (n : Int) su (O.take (k + 1)) = 0 := by
              obtain ⟨a1, -, -⟩ := HE1.out
              rw [a1, opErr_two, hq, hq2]; rfl
            have HST := Lib.hid hST
            clear hST hq hq2
            go_wp2_with fail
            rw [← HWA.out]
            have hBd : Below WA.heap.size WA WA.drew := (Below.refl WA.heap.size WA).drew
            refine wp_region_held_drew (S := (fun W' => W'.cell? ⟨wr.heap.size, 0, none⟩ = some (.int .i64 2) ∧ W'.cell? ⟨wr.heap.size, 1, none⟩ = some (.int .i64 y) ∧ W'.cell? ⟨wr.heap.size, 2, none⟩ = some (.int .i64 z) ∧ W'.cell? ⟨w.heap.size, 0, none⟩ = some (.slice a n c))) (by kernel_rfl) (by first | exact ⟨f0, f1, f2, g0⟩ | exact ⟨e0, e1, e2, e3⟩) (fun hHeld => ?_)
            refine wpAnyH_take (i := 0) (v := ?_) rfl (by kernel_rfl) (by kernel_rfl) (by kernel_rfl) (fun _ _ _ h => h) (Or.inl ⟨by rfl, ?_⟩) (by assumption) ?_
            rotate_left
            focus (intro w hSw; (try dsimp only at hSw); go_simp; first | done | with_reducible rfl)
            go_simp
            refine wpAnyH_take (i := 1) (v := ?_) rfl (by kernel_rfl) (by kernel_rfl) (by kernel_rfl) (fun _ _ _ h => h) (Or.inl ⟨by rfl, ?_⟩) (by assumption) ?_
            rotate_left
            focus (intro w hSw; (try dsimp only at hSw); go_simp; first | done | with_reducible rfl)
            go_simp
            refine wpAnyH_take (i := 2) (v := ?_) rfl (by kernel_rfl) (by kernel_rfl) (by kernel_rfl) (fun _ _ _ h => h) (Or.inl ⟨by rfl, ?_⟩) (by assumption) ?_
            rotate_left
            focus (intro w hSw; (try dsimp only at hSw); go_simp; first | done | with_reducible rfl)
            go_simp
            refine wpAnyH_take (i := 3) (v := ?_) rfl (by kernel_rfl) (by kernel_rfl) (by kernel_rfl) (fun _ _ _ h => h) (Or.inl ⟨by rfl, ?_⟩) (by assumption) ?_
            rotate_left
            focus (intro w hSw; (try dsimp only at hSw); go_simp; first | done | with_reducible rfl)
            go_simp
            refine wpAnyH_take (i := 4) (v := ?_) rfl (by kernel_rfl) (by kernel_rfl) (by kernel_rfl) (fun _ _ _ h => h) (Or.inl ⟨by rfl, ?_⟩) (by assumption) ?_
            rotate_left
            focus (intro w hSw; (try dsimp only at hSw); go_simp; first | done | with_reducible rfl)
            go_simp
            refine wpAnyH_take (i := 5) (v := ?_) rfl (by kernel_rfl) (by kernel_rfl) (by kernel_rfl) (fun _ _ _ h => h) (Or.inl ⟨by rfl, ?_⟩) (by assumption) ?_
            rotate_left
            focus (intro w hSw; (try dsimp only at hSw); go_simp; first | done | with_reducible rfl)
            go_simp
            refine wpAnyH_take (i := 6) (v := ?_) rfl (by kernel_rfl) (by kernel_rfl) (by kernel_rfl) (fun _ _ _ h => h) (Or.inl ⟨by rfl, ?_⟩) (by assumption) ?_
            rotate_left
            focus (intro w hSw; (try dsimp only at hSw); go_simp; first | done | with_reducible rfl)
            go_simp
            refine wpAnyH_ready (rs := [7]) (by kernel_rfl) (by simp) (AllReadyH.cons rfl (fun K hK => ?_) AllReadyH.nil)
            go_simp
            go_at_call 49
            refine (hrw _ hBd).mono ?_
            rintro e w3 ⟨rfl, hB3⟩
            have e0 := (hB3.cell (p := ⟨wr.heap.size, 0, none⟩) hlt1).trans f0
            have e1 := (hB3.cell (p := ⟨wr.heap.size, 1, none⟩) hlt1).trans f1
            have e2 := (hB3.cell (p := ⟨wr.heap.size, 2, none⟩) hlt1).trans f2
            have e3 := (hB3.cell (p := ⟨w.heap.size, 0, none⟩) hlt0).trans g0
            have HB3 := Lib.hid hB3
            clear hB3
            refine hK.out _ _ ?_ (fun hHeld => ?_)
            focus (first | exact ⟨f0, f1, f2, g0⟩ | exact ⟨e0, e1, e2, e3⟩)
            clear hK K
            go_simp
            refine wpAnyH_take (i := 8) (v := ?_) rfl (by kernel_rfl) (by kernel_rfl) (by kernel_rfl) (fun _ _ _ h => h) (Or.inl ⟨by rfl, ?_⟩) (by assumption) ?_
            rotate_left
            focus (intro w hSw; (try dsimp only at hSw); go_simp; first | done | with_reducible rfl)
            go_simp
            refine wpAnyH_ready (rs := [9]) (by kernel_rfl) (by simp) (AllReadyH.cons rfl (fun K hK => ?_) AllReadyH.nil)
            go_simp
            go_at_call 48
            refine (hA _).mono ?_
            rintro e w4 ⟨rfl, rfl⟩
            refine hK.out _ _ ?_ (fun hHeld => ?_)
            focus (first | exact ⟨f0, f1, f2, g0⟩ | exact ⟨e0, e1, e2, e3⟩)
            clear hK K
            go_simp
            refine wpAnyH_take (i := 10) (v := ?_) rfl (by kernel_rfl) (by kernel_rfl) (by kernel_rfl) (fun _ _ _ h => h) (Or.inl ⟨by rfl, ?_⟩) (by assumption) ?_
            rotate_left
            focus (intro w hSw; (try dsimp only at hSw); go_simp; first | done | with_reducible rfl)
            go_simp
            refine wpAnyH_take (i := 11) (v := ?_) rfl (by kernel_rfl) (by kernel_rfl) (by kernel_rfl) (fun _ _ _ h => h) (Or.inl ⟨by rfl, ?_⟩) (by assumption) ?_
            rotate_left
            focus (intro w hSw; (try dsimp only at hSw); go_simp; first | done | with_reducible rfl)
            go_simp
            refine wpAnyH_take (i := 12) (v := ?_) rfl (by kernel_rfl) (by kernel_rfl) (by kernel_rfl) (fun _ _ _ h => h) (Or.inl ⟨by rfl, ?_⟩) (by assumption) ?_
            rotate_left
            focus (intro w hSw; (try dsimp only at hSw); go_simp; first | done | with_reducible rfl)
            go_simp
            refine wpAnyH_take (i := 13) (v := ?_) rfl (by kernel_rfl) (by kernel_rfl) (by kernel_rfl) (fun _ _ _ h => h) (Or.inl ⟨by rfl, ?_⟩) (by assumption) ?_
            rotate_left
            focus (intro w hSw; (try dsimp only at hSw); go_simp; first | done | with_reducible rfl)
            go_simp
            refine wpAnyH_ready (rs := [14]) (by kernel_rfl) (by simp) (AllReadyH.cons rfl (fun K hK => ?_) AllReadyH.nil)
            go_simp
            go_at_call 48
            refine (hZ _).mono ?_
            rintro e w5 ⟨rfl, rfl⟩
            refine hK.out _ _ ?_ (fun hHeld => ?_)
            focus (first | exact ⟨f0, f1, f2, g0⟩ | exact ⟨e0, e1, e2, e3⟩)
            clear hK K
            go_simp
            refine wpAnyH_take (i := 15) (v := ?_) rfl (by kernel_rfl) (by kernel_rfl) (by kernel_rfl) (fun _ _ _ h => h) (Or.inl ⟨by rfl, ?_⟩) (by assumption) ?_
            rotate_left
            focus (intro w hSw; (try dsimp only at hSw); go_simp; first | done | with_reducible rfl)
            go_simp
            refine wpAnyH_take (i := 16) (v := ?_) rfl (by kernel_rfl) (by kernel_rfl) (by kernel_rfl) (fun _ _ _ h => h) (Or.inl ⟨by rfl, ?_⟩) (by assumption) ?_
            rotate_left
            focus (intro w hSw; (try dsimp only at hSw); go_simp; first | done | with_reducible rfl)
            go_simp
            refine wpAnyH_take (i := 17) (v := ?_) rfl (by kernel_rfl) (by kernel_rfl) (by kernel_rfl) (fun _ _ _ h => h) (Or.inl ⟨by rfl, ?_⟩) (by assumption) ?_
            rotate_left
            focus (intro w hSw; (try dsimp only at hSw); go_simp; first | done | with_reducible rfl)
            go_simp
            refine wpAnyH_take (i := 18) (v := ?_) rfl (by kernel_rfl) (by kernel_rfl) (by kernel_rfl) (fun _ _ _ h => h) (Or.inl ⟨by rfl, ?_⟩) (by assumption) ?_
            rotate_left
            focus (intro w hSw; (try dsimp only at hSw); go_simp; first | done | with_reducible rfl)
            go_simp
            refine wpAnyH_done (by kernel_rfl) ?_ _
            go_wp2_with fail
            go_roundw
            case rel => exact ⟨k + 1, by omega, by go_num, HST.out, HBr.out.drew.trans (HB3.out.mono HBr.out.size)⟩
            case measure => simp [intOf]; omega
      · have n2 : (x != 2) = true := by simpa using hx2
        have hEE : E = 4 := by
          obtain ⟨a1, a2, -⟩ := HE1.out
          have e1 : opErr (n : Int) su (x, y, z) = 4 := opErr_else _ _ _ _ _ hx1 hx2
          rw [HE.out, a2 (by rw [e1]; decide), e1]
        have HEE := Lib.hid hEE
        clear hEE hx1 hx2 n1b
        go_wp2_with fail
        go_ret
        exact ⟨by rw [HEE.out]; rfl, HB1.out.trans ((by rw [← HWA.out]; exact HBr.out : Below W1.heap.size W1 _).mono HB1.out.size)⟩
    · obtain rfl : k = m := by omega
      have hE := HE.out
      rw [HC.out.2.2, List.take_length] at hW
      rw [hW] at hE
      subst hE
      have HB := Lib.hid hB
      clear hB hW
      go_wp2_with fail
      go_ret
      exact ⟨rfl, HB1.out.trans (HB.out.mono HB1.out.size)⟩
end Go.Proofs.Ytdejjplkignaoaa
