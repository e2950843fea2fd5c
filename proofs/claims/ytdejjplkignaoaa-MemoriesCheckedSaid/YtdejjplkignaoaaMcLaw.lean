/- The walk of MemoriesChecked: it returns true, and turns nothing that was there. Made by gens/mlaw.py. -/
import Derived.Test.YtdejjplkignaoaaMkO
import Derived.Test.YtdejjplkignaoaaMcV
import Derived.Deep.CutBlock
import Derived.Deep.DeepCutAuto
namespace Go.Proofs.Ytdejjplkignaoaa
open Go.RowKit

/-- What SectorOf answers, as three numbers. -/
theorem sof_form (S : List Int) (a : Int) : ∃ A B C : Int, sofTup S a = .tuple #[.int .i64 A, .int .i64 B, .int .i64 C] ∧ ((flErr S ≠ 0 ∧ A = 0 ∧ B = 0 ∧ C = flErr S) ∨ (flErr S = 0 ∧ ((secTup S a = .tuple #[.int .i64 A, .int .i64 B, .bool true] ∧ C = 0) ∨ (secTup S a = .tuple #[.int .i64 0, .int .i64 0, .bool false] ∧ A = 0 ∧ B = 0 ∧ C = 1)))) := by
  unfold sofTup secTup
  by_cases h0 : flErr S = 0
  · rw [if_pos h0]
    cases secAt S a with
    | none => exact ⟨0, 0, 1, rfl, Or.inr ⟨h0, Or.inr ⟨rfl, rfl, rfl, rfl⟩⟩⟩
    | some k => exact ⟨_, _, 0, rfl, Or.inr ⟨h0, Or.inl ⟨rfl, rfl⟩⟩⟩
  · rw [if_neg h0]
    exact ⟨0, 0, _, rfl, Or.inl ⟨h0, rfl, rfl, rfl⟩⟩
set_option maxHeartbeats 1600000 in
set_option maxRecDepth 100000 in
theorem mclaw_any (a0 : Option Addr) (len cap : Nat) (w : World) (h : RowIn w a0 len) :
    Calls Try.prog 3 #[.slice a0 len cap] w fun e w' => e = .returned (.bool true) ∧ Below w.heap.size w w' := by
  have hs := Strm.start (cap := cap) h
  obtain ⟨W0, hW0⟩ : ∃ W0 : World, w.alloc (.cells #[.slice a0 len cap, .int .i64 0] 25) = W0 := ⟨_, rfl⟩
  rw [hW0] at hs
  have hB0 : Below w.heap.size w W0 := by rw [← hW0]; exact (Below.refl _ w).alloc (Nat.le_refl _) _
  have hsz0 : W0.heap.size = w.heap.size + 1 := by rw [← hW0]; simp
  have hff := flashOf_any w.heap.size 0 W0 hs (by omega)
  have HB0 := Lib.hid hB0
  clear h hB0 hs
  go_enter Try.func3, Try.ntmps3
  go_wp2_with fail
  have HW0 := Lib.hid hW0
  clear hW0
  refine hff.mono ?_
  rintro e w1 ⟨⟨fv, S, rfl, hSl, hN1, hNa1⟩, hr1⟩
  obtain ⟨t1, ht1, ht1', hs1⟩ := hr1.strm
  obtain ⟨fa, fc, rfl, -, -⟩ := id hN1
  have hNa : Ahead (w.heap.size + 1) (.slice fa S.length fc) := fun x y z hh => by have := hNa1 x y z hh; omega
  obtain ⟨W2, hW2⟩ : ∃ X : World, X = w1.alloc (.cells #[.slice fa S.length fc] 27) := ⟨_, rfl⟩
  have hs2 : Strm W2 w.heap.size t1 := by rw [hW2]; exact hs1.alloc _
  have hB12 : Below w1.heap.size w1 W2 := by rw [hW2]; exact (Below.refl _ _).alloc (Nat.le_refl _) _
  have hN2 := hN1.later hB12
  have g2 : W2.cell? ⟨w1.heap.size, 0, none⟩ = some (.slice fa S.length fc) := by rw [hW2]; exact cell_new1 _ _ _ rfl
  have hR2 : Ran w.heap.size t1 0 W2 W2 := Ran.refl hs2
  have hz1 : W0.heap.size ≤ w1.heap.size := hr1.size
  have hz2 : w1.heap.size < W2.heap.size := World.block_lt_of_cell? W2 ⟨w1.heap.size, 0, none⟩ g2
  have HB2 := Lib.hid (HB0.out.trans ((hr1.below (by omega)).trans (hB12.mono (by omega))))
  have HW2 := Lib.hid hW2
  have hz12 : w1.heap.size ≠ w.heap.size := by omega
  clear hff hN1 hNa1 hr1 hs1 hB12 hW2
  go_wp2_with fail
  rw [← HW2.out]
  go_upto_region 3 with (fail)
  go_cut [5, 6, 7] (fun x5 x6 x7 wx => ∃ (a5 a6 : Option Addr) (c5 c6 : Nat) (L : List Int) (O : List Opn) (pk : Int), x5 = .slice a5 L.length c5 ∧ L.length ≤ 100 ∧ NumsAt wx (.slice a5 L.length c5) L ∧ x6 = .slice a6 O.length c6 ∧ O.length ≤ 10 ∧ OpsAt wx (.slice a6 O.length c6) O ∧ x7 = .int .i64 pk ∧ NumsAt wx (.slice fa S.length fc) S ∧ wx.cell? ⟨w1.heap.size, 0, none⟩ = some (.slice fa S.length fc) ∧ Below w.heap.size w wx)
  case first =>
    refine wp_region_held_drew (S := (fun W' => W'.cell? ⟨w1.heap.size, 0, none⟩ = some (.slice fa S.length fc))) (by kernel_rfl) (by first | exact g2 | exact hR5.cell g2 (show w1.heap.size ≠ w.heap.size by omega) | exact (hR5.alloc _).cell g2 (show w1.heap.size ≠ w.heap.size by omega) | exact hR4.cell g2 (show w1.heap.size ≠ w.heap.size by omega) | exact (hR4.alloc _).cell g2 (show w1.heap.size ≠ w.heap.size by omega) | exact hR3.cell g2 (show w1.heap.size ≠ w.heap.size by omega) | exact (hR3.alloc _).cell g2 (show w1.heap.size ≠ w.heap.size by omega) | exact hR2.cell g2 (show w1.heap.size ≠ w.heap.size by omega) | exact (hR2.alloc _).cell g2 (show w1.heap.size ≠ w.heap.size by omega)) (fun hHeld => ?_)
    refine wpAnyH_take (i := 0) (v := ?_) rfl (by kernel_rfl) (by kernel_rfl) (by kernel_rfl) (fun _ _ _ h => h) (Or.inl ⟨by rfl, ?_⟩) (by assumption) ?_
    rotate_left
    focus (intro w hSw; (try dsimp only at hSw); go_simp; first | done | with_reducible rfl)
    go_simp
    refine wpAnyH_take (i := 1) (v := ?_) rfl (by kernel_rfl) (by kernel_rfl) (by kernel_rfl) (fun _ _ _ h => h) (Or.inl ⟨by rfl, ?_⟩) (by assumption) ?_
    rotate_left
    focus (intro w hSw; (try dsimp only at hSw); go_simp; first | done | with_reducible rfl)
    go_simp
    refine wpAnyH_take (i := 3) (v := ?_) rfl (by kernel_rfl) (by kernel_rfl) (by kernel_rfl) (fun _ _ _ h => h) (Or.inl ⟨by rfl, ?_⟩) (by assumption) ?_
    rotate_left
    focus (intro w hSw; (try dsimp only at hSw); go_simp; first | done | with_reducible rfl)
    go_simp
    refine wpAnyH_take (i := 4) (v := ?_) rfl (by kernel_rfl) (by kernel_rfl) (by kernel_rfl) (fun _ _ _ h => h) (Or.inl ⟨by rfl, ?_⟩) (by assumption) ?_
    rotate_left
    focus (intro w hSw; (try dsimp only at hSw); go_simp; first | done | with_reducible rfl)
    go_simp
    refine wpAnyH_take (i := 6) (v := ?_) rfl (by kernel_rfl) (by kernel_rfl) (by kernel_rfl) (fun _ _ _ h => h) (Or.inl ⟨by rfl, ?_⟩) (by assumption) ?_
    rotate_left
    focus (intro w hSw; (try dsimp only at hSw); go_simp; first | done | with_reducible rfl)
    go_simp
    refine wpAnyH_ready (rs := [2, 7]) (by kernel_rfl) (by simp) (AllReadyH.cons rfl (fun K hK => ?_) (AllReadyH.cons rfl (fun K hK => ?_) AllReadyH.nil))
    ·
      go_simp
      go_at_call 7
      refine (wordList_any w.heap.size t1 S (by omega) W2.drew _ (NumsAt.later (hN2) (Below.refl _ _).drew) (Strm.kept hs2 fun _ _ => rfl) (by omega)).mono ?_
      rintro e w3 ⟨⟨v5, L, rfl, hLl, hL, hLa⟩, hr3⟩
      have hR3 := hR2.then (Nat.le_refl _) (by omega) hr3.undrew
      have hLa' : Ahead W2.heap.size v5 := fun x y z hh => Nat.le_trans (by simp) (hLa x y z hh)
      refine hK.out _ _ ?_ (fun hHeld => ?_)
      focus (first | exact g2 | exact hR5.cell g2 (show w1.heap.size ≠ w.heap.size by omega) | exact (hR5.alloc _).cell g2 (show w1.heap.size ≠ w.heap.size by omega) | exact hR4.cell g2 (show w1.heap.size ≠ w.heap.size by omega) | exact (hR4.alloc _).cell g2 (show w1.heap.size ≠ w.heap.size by omega) | exact hR3.cell g2 (show w1.heap.size ≠ w.heap.size by omega) | exact (hR3.alloc _).cell g2 (show w1.heap.size ≠ w.heap.size by omega) | exact hR2.cell g2 (show w1.heap.size ≠ w.heap.size by omega) | exact (hR2.alloc _).cell g2 (show w1.heap.size ≠ w.heap.size by omega))
      clear hK K
      go_simp
      refine wpAnyH_ready (rs := [5, 7]) (by kernel_rfl) (by simp) (AllReadyH.cons rfl (fun K hK => ?_) (AllReadyH.cons rfl (fun K hK => ?_) AllReadyH.nil))
      ·
        go_simp
        obtain ⟨t3, ht3, ht3', hs3⟩ := hR3.strm
        go_at_call 8
        have hN3 : NumsAt w3 (.slice fa S.length fc) S := NumsAt.ran hN2 hNa hR3 (show w.heap.size < w.heap.size + 1 by omega)
        refine (opList_any w.heap.size t3 S (by omega) w3 _ hN3 hs3 (by omega)).mono ?_
        rintro e w4 ⟨⟨v6, O, rfl, hOl, hO, hOa⟩, hr4⟩
        have hR4 := hR3.then ht3 ht3' hr4
        have hz4 : W2.heap.size ≤ w3.heap.size := hR3.size
        refine hK.out _ _ ?_ (fun hHeld => ?_)
        focus (first | exact g2 | exact hR5.cell g2 (show w1.heap.size ≠ w.heap.size by omega) | exact (hR5.alloc _).cell g2 (show w1.heap.size ≠ w.heap.size by omega) | exact hR4.cell g2 (show w1.heap.size ≠ w.heap.size by omega) | exact (hR4.alloc _).cell g2 (show w1.heap.size ≠ w.heap.size by omega) | exact hR3.cell g2 (show w1.heap.size ≠ w.heap.size by omega) | exact (hR3.alloc _).cell g2 (show w1.heap.size ≠ w.heap.size by omega) | exact hR2.cell g2 (show w1.heap.size ≠ w.heap.size by omega) | exact (hR2.alloc _).cell g2 (show w1.heap.size ≠ w.heap.size by omega))
        clear hK K
        go_simp
        refine wpAnyH_ready (rs := [7]) (by kernel_rfl) (by simp) (AllReadyH.cons rfl (fun K hK => ?_) AllReadyH.nil)
        have h7 := cells_fresh w4 ([0, 1, 3, 7, 19, 20, -1] : List Int) 3
        go_simp
        refine hK.out _ _ ?_ (fun hHeld => ?_)
        focus (first | exact g2 | exact hR5.cell g2 (show w1.heap.size ≠ w.heap.size by omega) | exact (hR5.alloc _).cell g2 (show w1.heap.size ≠ w.heap.size by omega) | exact hR4.cell g2 (show w1.heap.size ≠ w.heap.size by omega) | exact (hR4.alloc _).cell g2 (show w1.heap.size ≠ w.heap.size by omega) | exact hR3.cell g2 (show w1.heap.size ≠ w.heap.size by omega) | exact (hR3.alloc _).cell g2 (show w1.heap.size ≠ w.heap.size by omega) | exact hR2.cell g2 (show w1.heap.size ≠ w.heap.size by omega) | exact (hR2.alloc _).cell g2 (show w1.heap.size ≠ w.heap.size by omega))
        clear hK K
        go_simp
        refine wpAnyH_ready (rs := [8]) (by kernel_rfl) (by simp) (AllReadyH.cons rfl (fun K hK => ?_) AllReadyH.nil)
        go_simp
        obtain ⟨t4, ht4, ht4', hs4⟩ := (hR4.alloc _).strm
        go_at_call 9
        have hz3 : W2.heap.size ≤ w3.heap.size := hR3.size
        have hz4' : W2.heap.size ≤ w4.heap.size := hR4.size
        refine (pick_any w.heap.size t4 (w4.heap.size) 0 7 7 (fun k => ([0, 1, 3, 7, 19, 20, -1] : List Int).getD k 0) _ hs4 (by omega) (by decide) (by decide) (by omega) (fun k hk => (h7 k hk))).mono ?_
        rintro e w5 ⟨⟨k8, hk8, rfl⟩, hr5⟩
        dsimp only
        generalize ([0, 1, 3, 7, 19, 20, -1] : List Int).getD k8 0 = pk
        have hR5 := (hR4.alloc _).then ht4 ht4' hr5
        refine hK.out _ _ ?_ (fun hHeld => ?_)
        focus (first | exact g2 | exact hR5.cell g2 (show w1.heap.size ≠ w.heap.size by omega) | exact (hR5.alloc _).cell g2 (show w1.heap.size ≠ w.heap.size by omega) | exact hR4.cell g2 (show w1.heap.size ≠ w.heap.size by omega) | exact (hR4.alloc _).cell g2 (show w1.heap.size ≠ w.heap.size by omega) | exact hR3.cell g2 (show w1.heap.size ≠ w.heap.size by omega) | exact (hR3.alloc _).cell g2 (show w1.heap.size ≠ w.heap.size by omega) | exact hR2.cell g2 (show w1.heap.size ≠ w.heap.size by omega) | exact (hR2.alloc _).cell g2 (show w1.heap.size ≠ w.heap.size by omega))
        clear hK K
        go_simp
        refine wpAnyH_take (i := 9) (v := ?_) rfl (by kernel_rfl) (by kernel_rfl) (by kernel_rfl) (fun _ _ _ h => h) (Or.inl ⟨by rfl, ?_⟩) (by assumption) ?_
        rotate_left
        focus (intro w hSw; (try dsimp only at hSw); go_simp; first | done | with_reducible rfl)
        go_simp
        refine wpAnyH_take (i := 10) (v := ?_) rfl (by kernel_rfl) (by kernel_rfl) (by kernel_rfl) (fun _ _ _ h => h) (Or.inl ⟨by rfl, ?_⟩) (by assumption) ?_
        rotate_left
        focus (intro w hSw; (try dsimp only at hSw); go_simp; first | done | with_reducible rfl)
        go_simp
        refine wpAnyH_take (i := 11) (v := ?_) rfl (by kernel_rfl) (by kernel_rfl) (by kernel_rfl) (fun _ _ _ h => h) (Or.inl ⟨by rfl, ?_⟩) (by assumption) ?_
        rotate_left
        focus (intro w hSw; (try dsimp only at hSw); go_simp; first | done | with_reducible rfl)
        go_simp
        refine wpAnyH_done (by kernel_rfl) ?_ _
        have hL5 : NumsAt w5 v5 L := NumsAt.ran (NumsAt.ran (hL) hLa' hr4 (show w.heap.size < W2.heap.size by omega)) hLa' (hr5.after_alloc) (show w.heap.size < W2.heap.size by omega)
        have hO5 : OpsAt w5 v6 O := OpsAt.ran hO hOa (hr5.after_alloc) (show w.heap.size < _ by omega)
        have hS5 : NumsAt w5 (.slice fa S.length fc) S := NumsAt.ran hN2 hNa hR5 (show w.heap.size < w.heap.size + 1 by omega)
        have hbx : w5.cell? ⟨w1.heap.size, 0, none⟩ = some (.slice fa S.length fc) := hR5.cell g2 (show w1.heap.size ≠ w.heap.size by omega)
        have hB5 : Below w.heap.size w w5 := HB2.out.trans (hR5.below (show w.heap.size ≤ W2.heap.size by omega))
        obtain ⟨a5, c5, rfl, -, -⟩ := id hL5
        obtain ⟨a6, c6, rfl, -, -⟩ := id hO5
        go_wp2_with fail
        go_meet
        exact ⟨_, _, _, _, L, O, pk, rfl, hLl, hL5, rfl, hOl, hO5, rfl, hS5, hbx, hB5⟩
      ·
        have h7 := cells_fresh w3 ([0, 1, 3, 7, 19, 20, -1] : List Int) 3
        go_simp
        refine hK.out _ _ ?_ (fun hHeld => ?_)
        focus (first | exact g2 | exact hR5.cell g2 (show w1.heap.size ≠ w.heap.size by omega) | exact (hR5.alloc _).cell g2 (show w1.heap.size ≠ w.heap.size by omega) | exact hR4.cell g2 (show w1.heap.size ≠ w.heap.size by omega) | exact (hR4.alloc _).cell g2 (show w1.heap.size ≠ w.heap.size by omega) | exact hR3.cell g2 (show w1.heap.size ≠ w.heap.size by omega) | exact (hR3.alloc _).cell g2 (show w1.heap.size ≠ w.heap.size by omega) | exact hR2.cell g2 (show w1.heap.size ≠ w.heap.size by omega) | exact (hR2.alloc _).cell g2 (show w1.heap.size ≠ w.heap.size by omega))
        clear hK K
        go_simp
        refine wpAnyH_ready (rs := [5]) (by kernel_rfl) (by simp) (AllReadyH.cons rfl (fun K hK => ?_) AllReadyH.nil)
        go_simp
        obtain ⟨t3, ht3, ht3', hs3⟩ := (hR3.alloc _).strm
        go_at_call 8
        have hN3 : NumsAt (w3.alloc (.cells (([0, 1, 3, 7, 19, 20, -1] : List Int).map (Value.int .i64)).toArray 3)) (.slice fa S.length fc) S := NumsAt.ran hN2 hNa (hR3.alloc _) (show w.heap.size < w.heap.size + 1 by omega)
        refine (opList_any w.heap.size t3 S (by omega) (w3.alloc (.cells (([0, 1, 3, 7, 19, 20, -1] : List Int).map (Value.int .i64)).toArray 3)) _ hN3 hs3 (by omega)).mono ?_
        rintro e w4 ⟨⟨v6, O, rfl, hOl, hO, hOa⟩, hr4⟩
        have hR4 := (hR3.alloc _).then ht3 ht3' hr4
        have hz4 : W2.heap.size ≤ (w3.alloc (.cells (([0, 1, 3, 7, 19, 20, -1] : List Int).map (Value.int .i64)).toArray 3)).heap.size := (hR3.alloc _).size
        refine hK.out _ _ ?_ (fun hHeld => ?_)
        focus (first | exact g2 | exact hR5.cell g2 (show w1.heap.size ≠ w.heap.size by omega) | exact (hR5.alloc _).cell g2 (show w1.heap.size ≠ w.heap.size by omega) | exact hR4.cell g2 (show w1.heap.size ≠ w.heap.size by omega) | exact (hR4.alloc _).cell g2 (show w1.heap.size ≠ w.heap.size by omega) | exact hR3.cell g2 (show w1.heap.size ≠ w.heap.size by omega) | exact (hR3.alloc _).cell g2 (show w1.heap.size ≠ w.heap.size by omega) | exact hR2.cell g2 (show w1.heap.size ≠ w.heap.size by omega) | exact (hR2.alloc _).cell g2 (show w1.heap.size ≠ w.heap.size by omega))
        clear hK K
        go_simp
        refine wpAnyH_ready (rs := [8]) (by kernel_rfl) (by simp) (AllReadyH.cons rfl (fun K hK => ?_) AllReadyH.nil)
        go_simp
        obtain ⟨t4, ht4, ht4', hs4⟩ := hR4.strm
        go_at_call 9
        have hz3 : W2.heap.size ≤ w3.heap.size := hR3.size
        have hz4' : W2.heap.size ≤ w4.heap.size := hR4.size
        refine (pick_any w.heap.size t4 (w3.heap.size) 0 7 7 (fun k => ([0, 1, 3, 7, 19, 20, -1] : List Int).getD k 0) _ hs4 (by omega) (by decide) (by decide) (by omega) (fun k hk => (hr4.cell (h7 k hk) (show w3.heap.size ≠ w.heap.size by omega)))).mono ?_
        rintro e w5 ⟨⟨k8, hk8, rfl⟩, hr5⟩
        dsimp only
        generalize ([0, 1, 3, 7, 19, 20, -1] : List Int).getD k8 0 = pk
        have hR5 := hR4.then ht4 ht4' hr5
        refine hK.out _ _ ?_ (fun hHeld => ?_)
        focus (first | exact g2 | exact hR5.cell g2 (show w1.heap.size ≠ w.heap.size by omega) | exact (hR5.alloc _).cell g2 (show w1.heap.size ≠ w.heap.size by omega) | exact hR4.cell g2 (show w1.heap.size ≠ w.heap.size by omega) | exact (hR4.alloc _).cell g2 (show w1.heap.size ≠ w.heap.size by omega) | exact hR3.cell g2 (show w1.heap.size ≠ w.heap.size by omega) | exact (hR3.alloc _).cell g2 (show w1.heap.size ≠ w.heap.size by omega) | exact hR2.cell g2 (show w1.heap.size ≠ w.heap.size by omega) | exact (hR2.alloc _).cell g2 (show w1.heap.size ≠ w.heap.size by omega))
        clear hK K
        go_simp
        refine wpAnyH_take (i := 9) (v := ?_) rfl (by kernel_rfl) (by kernel_rfl) (by kernel_rfl) (fun _ _ _ h => h) (Or.inl ⟨by rfl, ?_⟩) (by assumption) ?_
        rotate_left
        focus (intro w hSw; (try dsimp only at hSw); go_simp; first | done | with_reducible rfl)
        go_simp
        refine wpAnyH_take (i := 10) (v := ?_) rfl (by kernel_rfl) (by kernel_rfl) (by kernel_rfl) (fun _ _ _ h => h) (Or.inl ⟨by rfl, ?_⟩) (by assumption) ?_
        rotate_left
        focus (intro w hSw; (try dsimp only at hSw); go_simp; first | done | with_reducible rfl)
        go_simp
        refine wpAnyH_take (i := 11) (v := ?_) rfl (by kernel_rfl) (by kernel_rfl) (by kernel_rfl) (fun _ _ _ h => h) (Or.inl ⟨by rfl, ?_⟩) (by assumption) ?_
        rotate_left
        focus (intro w hSw; (try dsimp only at hSw); go_simp; first | done | with_reducible rfl)
        go_simp
        refine wpAnyH_done (by kernel_rfl) ?_ _
        have hL5 : NumsAt w5 v5 L := NumsAt.ran (NumsAt.ran (hL.later ((Below.refl _ _).alloc (Nat.le_refl _) _)) hLa' hr4 (show w.heap.size < W2.heap.size by omega)) hLa' (hr5) (show w.heap.size < W2.heap.size by omega)
        have hO5 : OpsAt w5 v6 O := OpsAt.ran hO hOa (hr5) (show w.heap.size < _ by omega)
        have hS5 : NumsAt w5 (.slice fa S.length fc) S := NumsAt.ran hN2 hNa hR5 (show w.heap.size < w.heap.size + 1 by omega)
        have hbx : w5.cell? ⟨w1.heap.size, 0, none⟩ = some (.slice fa S.length fc) := hR5.cell g2 (show w1.heap.size ≠ w.heap.size by omega)
        have hB5 : Below w.heap.size w w5 := HB2.out.trans (hR5.below (show w.heap.size ≤ W2.heap.size by omega))
        obtain ⟨a5, c5, rfl, -, -⟩ := id hL5
        obtain ⟨a6, c6, rfl, -, -⟩ := id hO5
        go_wp2_with fail
        go_meet
        exact ⟨_, _, _, _, L, O, pk, rfl, hLl, hL5, rfl, hOl, hO5, rfl, hS5, hbx, hB5⟩
    ·
      have h7 := cells_fresh W2 ([0, 1, 3, 7, 19, 20, -1] : List Int) 3
      go_simp
      refine hK.out _ _ ?_ (fun hHeld => ?_)
      focus (first | exact g2 | exact hR5.cell g2 (show w1.heap.size ≠ w.heap.size by omega) | exact (hR5.alloc _).cell g2 (show w1.heap.size ≠ w.heap.size by omega) | exact hR4.cell g2 (show w1.heap.size ≠ w.heap.size by omega) | exact (hR4.alloc _).cell g2 (show w1.heap.size ≠ w.heap.size by omega) | exact hR3.cell g2 (show w1.heap.size ≠ w.heap.size by omega) | exact (hR3.alloc _).cell g2 (show w1.heap.size ≠ w.heap.size by omega) | exact hR2.cell g2 (show w1.heap.size ≠ w.heap.size by omega) | exact (hR2.alloc _).cell g2 (show w1.heap.size ≠ w.heap.size by omega))
      clear hK K
      go_simp
      refine wpAnyH_ready (rs := [2]) (by kernel_rfl) (by simp) (AllReadyH.cons rfl (fun K hK => ?_) AllReadyH.nil)
      go_simp
      go_at_call 7
      refine (wordList_any w.heap.size t1 S (by omega) (W2.alloc (.cells (([0, 1, 3, 7, 19, 20, -1] : List Int).map (Value.int .i64)).toArray 3)).drew _ (NumsAt.later (hN2.later ((Below.refl _ _).alloc (Nat.le_refl _) _)) (Below.refl _ _).drew) (Strm.kept (hs2.alloc _) fun _ _ => rfl) (by omega)).mono ?_
      rintro e w3 ⟨⟨v5, L, rfl, hLl, hL, hLa⟩, hr3⟩
      have hR3 := (hR2.alloc _).then (Nat.le_refl _) (by omega) hr3.undrew
      have hLa' : Ahead W2.heap.size v5 := fun x y z hh => Nat.le_trans (by simp) (hLa x y z hh)
      refine hK.out _ _ ?_ (fun hHeld => ?_)
      focus (first | exact g2 | exact hR5.cell g2 (show w1.heap.size ≠ w.heap.size by omega) | exact (hR5.alloc _).cell g2 (show w1.heap.size ≠ w.heap.size by omega) | exact hR4.cell g2 (show w1.heap.size ≠ w.heap.size by omega) | exact (hR4.alloc _).cell g2 (show w1.heap.size ≠ w.heap.size by omega) | exact hR3.cell g2 (show w1.heap.size ≠ w.heap.size by omega) | exact (hR3.alloc _).cell g2 (show w1.heap.size ≠ w.heap.size by omega) | exact hR2.cell g2 (show w1.heap.size ≠ w.heap.size by omega) | exact (hR2.alloc _).cell g2 (show w1.heap.size ≠ w.heap.size by omega))
      clear hK K
      go_simp
      refine wpAnyH_ready (rs := [5]) (by kernel_rfl) (by simp) (AllReadyH.cons rfl (fun K hK => ?_) AllReadyH.nil)
      go_simp
      obtain ⟨t3, ht3, ht3', hs3⟩ := hR3.strm
      go_at_call 8
      have hN3 : NumsAt w3 (.slice fa S.length fc) S := NumsAt.ran hN2 hNa hR3 (show w.heap.size < w.heap.size + 1 by omega)
      refine (opList_any w.heap.size t3 S (by omega) w3 _ hN3 hs3 (by omega)).mono ?_
      rintro e w4 ⟨⟨v6, O, rfl, hOl, hO, hOa⟩, hr4⟩
      have hR4 := hR3.then ht3 ht3' hr4
      have hz4 : W2.heap.size ≤ w3.heap.size := hR3.size
      refine hK.out _ _ ?_ (fun hHeld => ?_)
      focus (first | exact g2 | exact hR5.cell g2 (show w1.heap.size ≠ w.heap.size by omega) | exact (hR5.alloc _).cell g2 (show w1.heap.size ≠ w.heap.size by omega) | exact hR4.cell g2 (show w1.heap.size ≠ w.heap.size by omega) | exact (hR4.alloc _).cell g2 (show w1.heap.size ≠ w.heap.size by omega) | exact hR3.cell g2 (show w1.heap.size ≠ w.heap.size by omega) | exact (hR3.alloc _).cell g2 (show w1.heap.size ≠ w.heap.size by omega) | exact hR2.cell g2 (show w1.heap.size ≠ w.heap.size by omega) | exact (hR2.alloc _).cell g2 (show w1.heap.size ≠ w.heap.size by omega))
      clear hK K
      go_simp
      refine wpAnyH_ready (rs := [8]) (by kernel_rfl) (by simp) (AllReadyH.cons rfl (fun K hK => ?_) AllReadyH.nil)
      go_simp
      obtain ⟨t4, ht4, ht4', hs4⟩ := hR4.strm
      go_at_call 9
      have hz3 : W2.heap.size ≤ w3.heap.size := hR3.size
      have hz4' : W2.heap.size ≤ w4.heap.size := hR4.size
      refine (pick_any w.heap.size t4 (W2.heap.size) 0 7 7 (fun k => ([0, 1, 3, 7, 19, 20, -1] : List Int).getD k 0) _ hs4 (by omega) (by decide) (by decide) (by omega) (fun k hk => (hr4.cell (hr3.cell (h7 k hk) (show W2.heap.size ≠ w.heap.size by omega)) (show W2.heap.size ≠ w.heap.size by omega)))).mono ?_
      rintro e w5 ⟨⟨k8, hk8, rfl⟩, hr5⟩
      dsimp only
      generalize ([0, 1, 3, 7, 19, 20, -1] : List Int).getD k8 0 = pk
      have hR5 := hR4.then ht4 ht4' hr5
      refine hK.out _ _ ?_ (fun hHeld => ?_)
      focus (first | exact g2 | exact hR5.cell g2 (show w1.heap.size ≠ w.heap.size by omega) | exact (hR5.alloc _).cell g2 (show w1.heap.size ≠ w.heap.size by omega) | exact hR4.cell g2 (show w1.heap.size ≠ w.heap.size by omega) | exact (hR4.alloc _).cell g2 (show w1.heap.size ≠ w.heap.size by omega) | exact hR3.cell g2 (show w1.heap.size ≠ w.heap.size by omega) | exact (hR3.alloc _).cell g2 (show w1.heap.size ≠ w.heap.size by omega) | exact hR2.cell g2 (show w1.heap.size ≠ w.heap.size by omega) | exact (hR2.alloc _).cell g2 (show w1.heap.size ≠ w.heap.size by omega))
      clear hK K
      go_simp
      refine wpAnyH_take (i := 9) (v := ?_) rfl (by kernel_rfl) (by kernel_rfl) (by kernel_rfl) (fun _ _ _ h => h) (Or.inl ⟨by rfl, ?_⟩) (by assumption) ?_
      rotate_left
      focus (intro w hSw; (try dsimp only at hSw); go_simp; first | done | with_reducible rfl)
      go_simp
      refine wpAnyH_take (i := 10) (v := ?_) rfl (by kernel_rfl) (by kernel_rfl) (by kernel_rfl) (fun _ _ _ h => h) (Or.inl ⟨by rfl, ?_⟩) (by assumption) ?_
      rotate_left
      focus (intro w hSw; (try dsimp only at hSw); go_simp; first | done | with_reducible rfl)
      go_simp
      refine wpAnyH_take (i := 11) (v := ?_) rfl (by kernel_rfl) (by kernel_rfl) (by kernel_rfl) (fun _ _ _ h => h) (Or.inl ⟨by rfl, ?_⟩) (by assumption) ?_
      rotate_left
      focus (intro w hSw; (try dsimp only at hSw); go_simp; first | done | with_reducible rfl)
      go_simp
      refine wpAnyH_done (by kernel_rfl) ?_ _
      have hL5 : NumsAt w5 v5 L := NumsAt.ran (NumsAt.ran (hL) hLa' hr4 (show w.heap.size < W2.heap.size by omega)) hLa' (hr5) (show w.heap.size < W2.heap.size by omega)
      have hO5 : OpsAt w5 v6 O := OpsAt.ran hO hOa (hr5) (show w.heap.size < _ by omega)
      have hS5 : NumsAt w5 (.slice fa S.length fc) S := NumsAt.ran hN2 hNa hR5 (show w.heap.size < w.heap.size + 1 by omega)
      have hbx : w5.cell? ⟨w1.heap.size, 0, none⟩ = some (.slice fa S.length fc) := hR5.cell g2 (show w1.heap.size ≠ w.heap.size by omega)
      have hB5 : Below w.heap.size w w5 := HB2.out.trans (hR5.below (show w.heap.size ≤ W2.heap.size by omega))
      obtain ⟨a5, c5, rfl, -, -⟩ := id hL5
      obtain ⟨a6, c6, rfl, -, -⟩ := id hO5
      go_wp2_with fail
      go_meet
      exact ⟨_, _, _, _, L, O, pk, rfl, hLl, hL5, rfl, hOl, hO5, rfl, hS5, hbx, hB5⟩
  case rest =>
    obtain ⟨a5, a6, c5, c6, L, O, pk, rfl, hLl, hL, rfl, hOl, hO, rfl, hS, gb, hB⟩ := hcut
    obtain ⟨wo, rfl⟩ : ∃ wo : World, wo = wc := ⟨_, rfl⟩
    have hbl : w1.heap.size < wo.heap.size := World.block_lt_of_cell? wo ⟨w1.heap.size, 0, none⟩ gb
    have hSz : S.length ≤ 1000000 := by omega
    have hLz : L.length ≤ 1000000 := by omega
    have hOz : O.length ≤ 1000000 := by omega
    have hFF := fun (X : World) (hX : Below wo.heap.size wo X) => flashFault_any S hSz X _ (hS.later hX)
    have hWF := fun (X : World) (hX : Below wo.heap.size wo X) b hb => wordsFault_any S L hSz hLz b X _ _ (hS.later hX) (hL.later hX) hb
    have hOF := fun hR (X : World) (hX : Below wo.heap.size wo X) => opsFault_any S O hR hOz X _ _ (hS.later hX) (hO.later hX)
    have hCF := fun (X : World) (hX : Below wo.heap.size wo X) => checkFlash_any S hSz X _ (hS.later hX)
    have hCI := fun (X : World) (hX : Below wo.heap.size wo X) => checkImage_any S L hSz hLz X _ _ (hS.later hX) (hL.later hX)
    have hCO := fun (X : World) (hX : Below wo.heap.size wo X) => checkOps_any S O hSz hOz X _ _ (hS.later hX) (hO.later hX)
    have hSO := fun (X : World) (hX : Below wo.heap.size wo X) => sectorOf_any S hSz pk X _ (hS.later hX)
    have hSA := fun hR (X : World) (hX : Below wo.heap.size wo X) => rsectorAt_any S hR pk X _ (hS.later hX)
    have hAP := fun (X : World) (hX : Below wo.heap.size wo X) => apply_any S L O hSz hLz hOz X _ _ _ (hS.later hX) (hL.later hX) (hO.later hX)
    have hAT := fun hR hl ho he (X : World) (hX : Below wo.heap.size wo X) => appliedTo_any S L O hR hl ho he X _ _ _ (hS.later hX) (hL.later hX) (hO.later hX)
    have hFl := fun h0 => flErr_right (S := S) h0
    have hcm : cmErr S L = if flErr S = 0 then imErr S L else flErr S := rfl
    have hco : coErr S O = if flErr S = 0 then opsErr S O else flErr S := rfl
    obtain ⟨qa, qb, qc, hsq, hsof⟩ := sof_form S pk
    rw [hsq] at hSO
    clear hsq
    have hdl := doOps_len S O L
    unfold ApplySaid at hAP
    obtain ⟨F, hF⟩ : ∃ F, F = flErr S := ⟨_, rfl⟩
    obtain ⟨E, hE⟩ : ∃ E, E = cmErr S L := ⟨_, rfl⟩
    obtain ⟨C, hC⟩ : ∃ C, C = coErr S O := ⟨_, rfl⟩
    have hEok := fun e => cmErr_ok (S := S) (W := L) e
    have hCok := fun e => coErr_ok (S := S) (O := O) e
    rw [← hF] at hFF hCF hsof hcm hco hFl
    rw [← hE] at hWF hCI hcm hAP hEok
    rw [← hC] at hCO hco hAP hCok
    have HH := Lib.hid (⟨hOF, hSA, hAT, hFl, hcm, hco, hsof, hEok, hCok, hB, hdl⟩ : _ ∧ _ ∧ _ ∧ _ ∧ _ ∧ _ ∧ _ ∧ _ ∧ _ ∧ _ ∧ _)
    have HC := Lib.hid (⟨hCF, hCI, hCO, hSO, hAP⟩ : _ ∧ _ ∧ _ ∧ _ ∧ _)
    clear hOF hSA hAT hFl hcm hco hsof hEok hCok hB hF hE hC hS hL hO hCF hCI hCO hSO hAP hdl
    go_upto_region 4 with (fail)
    go_cut [8, 9] (fun x8 x9 wx => x8 = .int .i64 F ∧ x9 = .int .i64 E ∧ Below wo.heap.size wo wx)
    case first =>
      refine wp_region_held_drew (S := (fun W' => W'.cell? ⟨w1.heap.size, 0, none⟩ = some (.slice fa S.length fc))) (by kernel_rfl) (by first | exact gb | exact gb1 | exact gb2 | exact (World.cell?_alloc_lt wo _ _ hbl).trans gb | exact (World.cell?_alloc_lt y1 _ _ (Nat.lt_of_lt_of_le hbl hA1.size)).trans gb1) (fun hHeld => ?_)
      refine wpAnyH_take (i := 0) (v := ?_) rfl (by kernel_rfl) (by kernel_rfl) (by kernel_rfl) (fun _ _ _ h => h) (Or.inl ⟨by rfl, ?_⟩) (by assumption) ?_
      rotate_left
      focus (intro w hSw; (try dsimp only at hSw); go_simp; first | done | with_reducible rfl)
      go_simp
      refine wpAnyH_take (i := 2) (v := ?_) rfl (by kernel_rfl) (by kernel_rfl) (by kernel_rfl) (fun _ _ _ h => h) (Or.inl ⟨by rfl, ?_⟩) (by assumption) ?_
      rotate_left
      focus (intro w hSw; (try dsimp only at hSw); go_simp; first | done | with_reducible rfl)
      go_simp
      refine wpAnyH_take (i := 3) (v := ?_) rfl (by kernel_rfl) (by kernel_rfl) (by kernel_rfl) (fun _ _ _ h => h) (Or.inl ⟨by rfl, ?_⟩) (by assumption) ?_
      rotate_left
      focus (intro w hSw; (try dsimp only at hSw); go_simp; first | done | with_reducible rfl)
      go_simp
      refine wpAnyH_ready (rs := [1, 4]) (by kernel_rfl) (by simp) (AllReadyH.cons rfl (fun K hK => ?_) (AllReadyH.cons rfl (fun K hK => ?_) AllReadyH.nil))
      ·
        go_simp
        go_at_call 10
        refine (hFF wo.drew (Below.refl _ _).drew).mono ?_
        rintro e y1 ⟨rfl, hy1⟩
        have hA1 : Below wo.heap.size wo y1 := ((Below.refl _ _).drew).trans hy1
        have gb1 := (hA1.cell (p := ⟨w1.heap.size, 0, none⟩) hbl).trans gb
        refine hK.out _ _ ?_ (fun hHeld => ?_)
        focus (first | exact gb | exact gb1 | exact gb2 | exact (World.cell?_alloc_lt wo _ _ hbl).trans gb | exact (World.cell?_alloc_lt y1 _ _ (Nat.lt_of_lt_of_le hbl hA1.size)).trans gb1)
        clear hK K
        go_simp
        refine wpAnyH_ready (rs := [4]) (by kernel_rfl) (by simp) (AllReadyH.cons rfl (fun K hK => ?_) AllReadyH.nil)
        go_simp
        refine hK.out _ _ ?_ (fun hHeld => ?_)
        focus (first | exact gb | exact gb1 | exact gb2 | exact (World.cell?_alloc_lt wo _ _ hbl).trans gb | exact (World.cell?_alloc_lt y1 _ _ (Nat.lt_of_lt_of_le hbl hA1.size)).trans gb1)
        clear hK K
        go_simp
        refine wpAnyH_ready (rs := [5]) (by kernel_rfl) (by simp) (AllReadyH.cons rfl (fun K hK => ?_) AllReadyH.nil)
        go_simp
        go_at_call 11
        refine (hWF _ (hA1.alloc hA1.size _) _ (cell_new1 y1 _ _ rfl)).mono ?_
        rintro e y2 ⟨rfl, hy2⟩
        have hA2 := (hA1.alloc hA1.size _).trans (hy2.mono (hA1.alloc hA1.size _).size)
        have gb2 := (hA2.cell (p := ⟨w1.heap.size, 0, none⟩) hbl).trans gb
        refine hK.out _ _ ?_ (fun hHeld => ?_)
        focus (first | exact gb | exact gb1 | exact gb2 | exact (World.cell?_alloc_lt wo _ _ hbl).trans gb | exact (World.cell?_alloc_lt y1 _ _ (Nat.lt_of_lt_of_le hbl hA1.size)).trans gb1)
        clear hK K
        go_simp
        refine wpAnyH_take (i := 6) (v := ?_) rfl (by kernel_rfl) (by kernel_rfl) (by kernel_rfl) (fun _ _ _ h => h) (Or.inl ⟨by rfl, ?_⟩) (by assumption) ?_
        rotate_left
        focus (intro w hSw; (try dsimp only at hSw); go_simp; first | done | with_reducible rfl)
        go_simp
        refine wpAnyH_take (i := 7) (v := ?_) rfl (by kernel_rfl) (by kernel_rfl) (by kernel_rfl) (fun _ _ _ h => h) (Or.inl ⟨by rfl, ?_⟩) (by assumption) ?_
        rotate_left
        focus (intro w hSw; (try dsimp only at hSw); go_simp; first | done | with_reducible rfl)
        go_simp
        refine wpAnyH_done (by kernel_rfl) ?_ _
        have HA2 := Lib.hid hA2
        go_wp2_with fail
        go_meet
        exact ⟨rfl, rfl, HA2.out⟩
      ·
        go_simp
        refine hK.out _ _ ?_ (fun hHeld => ?_)
        focus (first | exact gb | exact gb1 | exact gb2 | exact (World.cell?_alloc_lt wo _ _ hbl).trans gb | exact (World.cell?_alloc_lt y1 _ _ (Nat.lt_of_lt_of_le hbl hA1.size)).trans gb1)
        clear hK K
        go_simp
        refine wpAnyH_ready (rs := [1]) (by kernel_rfl) (by simp) (AllReadyH.cons rfl (fun K hK => ?_) AllReadyH.nil)
        go_simp
        go_at_call 10
        refine (hFF (wo.alloc (.cells #[.slice a5 L.length c5] 22)).drew ((Below.refl _ _).alloc (Nat.le_refl _) _).drew).mono ?_
        rintro e y1 ⟨rfl, hy1⟩
        have hA1 : Below wo.heap.size wo y1 := (((Below.refl _ _).alloc (Nat.le_refl _) _).drew).trans (hy1.mono (by simp))
        have hlb : y1.cell? ⟨wo.heap.size, 0, none⟩ = some (.slice a5 L.length c5) := (hy1.cell (p := ⟨wo.heap.size, 0, none⟩) (by simp)).trans (cell_new1 wo _ _ rfl)
        have gb1 := (hA1.cell (p := ⟨w1.heap.size, 0, none⟩) hbl).trans gb
        refine hK.out _ _ ?_ (fun hHeld => ?_)
        focus (first | exact gb | exact gb1 | exact gb2 | exact (World.cell?_alloc_lt wo _ _ hbl).trans gb | exact (World.cell?_alloc_lt y1 _ _ (Nat.lt_of_lt_of_le hbl hA1.size)).trans gb1)
        clear hK K
        go_simp
        refine wpAnyH_ready (rs := [5]) (by kernel_rfl) (by simp) (AllReadyH.cons rfl (fun K hK => ?_) AllReadyH.nil)
        go_simp
        go_at_call 11
        refine (hWF _ hA1 _ hlb).mono ?_
        rintro e y2 ⟨rfl, hy2⟩
        have hA2 := hA1.trans (hy2.mono hA1.size)
        have gb2 := (hA2.cell (p := ⟨w1.heap.size, 0, none⟩) hbl).trans gb
        refine hK.out _ _ ?_ (fun hHeld => ?_)
        focus (first | exact gb | exact gb1 | exact gb2 | exact (World.cell?_alloc_lt wo _ _ hbl).trans gb | exact (World.cell?_alloc_lt y1 _ _ (Nat.lt_of_lt_of_le hbl hA1.size)).trans gb1)
        clear hK K
        go_simp
        refine wpAnyH_take (i := 6) (v := ?_) rfl (by kernel_rfl) (by kernel_rfl) (by kernel_rfl) (fun _ _ _ h => h) (Or.inl ⟨by rfl, ?_⟩) (by assumption) ?_
        rotate_left
        focus (intro w hSw; (try dsimp only at hSw); go_simp; first | done | with_reducible rfl)
        go_simp
        refine wpAnyH_take (i := 7) (v := ?_) rfl (by kernel_rfl) (by kernel_rfl) (by kernel_rfl) (fun _ _ _ h => h) (Or.inl ⟨by rfl, ?_⟩) (by assumption) ?_
        rotate_left
        focus (intro w hSw; (try dsimp only at hSw); go_simp; first | done | with_reducible rfl)
        go_simp
        refine wpAnyH_done (by kernel_rfl) ?_ _
        have HA2 := Lib.hid hA2
        go_wp2_with fail
        go_meet
        exact ⟨rfl, rfl, HA2.out⟩
    case rest =>
      obtain ⟨rfl, rfl, hBc⟩ := hcut
      have gc := (hBc.cell (p := ⟨w1.heap.size, 0, none⟩) hbl).trans gb
      obtain ⟨w8, rfl⟩ : ∃ x : World, x = wc := ⟨_, rfl⟩
      have HBc := Lib.hid hBc
      clear hBc
      go_upto_if 42 with (fail)
      go_cut [10] (fun x10 wx => x10 = .int .i64 C ∧ Below wo.heap.size wo wx)
      case first =>
        by_cases h0 : F = 0
        · have hq := HH.out.1 (HH.out.2.2.2.1 h0) w8 HBc.out
          have hco := HH.out.2.2.2.2.2.1
          rw [if_pos h0] at hco
          rw [← hco] at hq
          subst h0
          clear hco
          go_wp2_with fail
          refine hq.mono ?_
          rintro e w9 ⟨rfl, hB9⟩
          have HB9 := Lib.hid (HBc.out.trans (hB9.mono HBc.out.size))
          clear hq hB9
          go_wp2_with fail
          go_meet
          exact ⟨rfl, HB9.out⟩
        · have hco := HH.out.2.2.2.2.2.1
          rw [if_neg h0] at hco
          have n0 : (F == 0) = false := by simpa using h0
          have HCO := Lib.hid hco
          clear hco h0
          go_wp2_with fail
          go_meet
          exact ⟨by rw [HCO.out], HBc.out⟩
      case rest =>
        obtain ⟨rfl, hBc⟩ := hcut
        have gd := (hBc.cell (p := ⟨w1.heap.size, 0, none⟩) hbl).trans gb
        obtain ⟨w9, rfl⟩ : ∃ x : World, x = wc := ⟨_, rfl⟩
        have HB9 := Lib.hid hBc
        clear hBc gc HBc gb
        have q1 := HC.out.1 w9 HB9.out
        go_wp2_with fail
        refine q1.mono ?_
        rintro e y1 ⟨rfl, hy⟩
        have hA := HB9.out.trans (hy.mono HB9.out.size)
        have g1 := (hy.cell (p := ⟨w1.heap.size, 0, none⟩) (World.block_lt_of_cell? w9 _ gd)).trans gd
        have q2 := HC.out.2.1 y1 hA
        have HA1 := Lib.hid hA
        clear q1 hy hA
        go_wp2_with fail
        refine q2.mono ?_
        rintro e y2 ⟨rfl, hy⟩
        have hA := HA1.out.trans (hy.mono HA1.out.size)
        have g2' := (hy.cell (p := ⟨w1.heap.size, 0, none⟩) (World.block_lt_of_cell? y1 _ g1)).trans g1
        have q3 := HC.out.2.2.1 y2 hA
        have HA2 := Lib.hid hA
        clear q2 hy hA g1
        go_wp2_with fail
        refine q3.mono ?_
        rintro e y3 ⟨rfl, hy⟩
        have hA := HA2.out.trans (hy.mono HA2.out.size)
        have g3 := (hy.cell (p := ⟨w1.heap.size, 0, none⟩) (World.block_lt_of_cell? y2 _ g2')).trans g2'
        have q4 := HC.out.2.2.2.1 y3 hA
        have HA3 := Lib.hid hA
        clear q3 hy hA g2'
        go_wp2_with fail
        refine q4.mono ?_
        rintro e y4 ⟨rfl, hy⟩
        have hA := HA3.out.trans (hy.mono HA3.out.size)
        have g4 := (hy.cell (p := ⟨w1.heap.size, 0, none⟩) (World.block_lt_of_cell? y3 _ g3)).trans g3
        have HA4 := Lib.hid hA
        clear q4 hy hA g3
        go_upto_if 73 with (fail)
        go_cut [14, 15, 16] (fun x14 x15 x16 wx => x14 = .int .i64 qc ∧ x15 = .int .i64 qa ∧ x16 = .int .i64 qb ∧ Below wo.heap.size wo wx)
        case first =>
          rcases HH.out.2.2.2.2.2.2.1 with ⟨h0, r1, r2, r3⟩ | ⟨h0, hcase⟩
          · subst r1
            subst r2
            have n0 : (F == 0) = false := by simpa using h0
            have HR := Lib.hid r3
            clear h0 r3
            go_wp2_with fail
            go_meet
            exact ⟨by rw [HR.out], rfl, rfl, HA4.out⟩
          · have q5 := HH.out.2.1 (HH.out.2.2.2.1 h0) y4 HA4.out
            subst h0
            rcases hcase with ⟨hst, rfl⟩ | ⟨hst, rfl, rfl, rfl⟩
            · rw [hst] at q5
              clear hst
              go_wp2_with fail
              refine q5.mono ?_
              rintro e y5 ⟨rfl, hy⟩
              have HA5 := Lib.hid (HA4.out.trans (hy.mono HA4.out.size))
              clear q5 hy g4
              go_wp2_with fail
              go_meet
              exact ⟨rfl, rfl, rfl, HA5.out⟩
            · rw [hst] at q5
              clear hst
              go_wp2_with fail
              refine q5.mono ?_
              rintro e y5 ⟨rfl, hy⟩
              have HA5 := Lib.hid (HA4.out.trans (hy.mono HA4.out.size))
              clear q5 hy g4
              go_wp2_with fail
              go_meet
              exact ⟨rfl, rfl, rfl, HA5.out⟩
        case rest =>
          obtain ⟨rfl, rfl, rfl, hBc⟩ := hcut
          have ge := (hBc.cell (p := ⟨w1.heap.size, 0, none⟩) hbl).trans ((HA4.out.cell (p := ⟨w1.heap.size, 0, none⟩) hbl).symm.trans g4)
          have q1 := HC.out.2.2.2.2 wc hBc
          have HBc := Lib.hid hBc
          clear hBc g4
          go_wp2_with fail
          refine q1.mono ?_
          rintro e y1 ⟨hs, hy⟩
          have hA := HBc.out.trans (hy.mono HBc.out.size)
          have g1 := (hy.cell (p := ⟨w1.heap.size, 0, none⟩) (World.block_lt_of_cell? wc _ ge)).trans ge
          have HA := Lib.hid (HH.out.2.2.2.2.2.2.2.2.2.1.trans (hA.mono (HH.out.2.2.2.2.2.2.2.2.2.1.size)))
          have HA0 := Lib.hid hA
          clear q1 hy hA ge
          rcases hs with ⟨hne, rfl⟩ | ⟨h0, x, rfl, hx⟩
          · unfold twoErr at hne ⊢
            by_cases hE : E = 0
            · rw [if_pos hE] at hne ⊢
              subst hE
              have n0 : (C != 0) = true := by simpa using hne
              have hfl := flashed_any y1
              clear hne g1
              go_wp2_with fail
              refine hfl.mono ?_
              rintro e y2 ⟨rfl, hy⟩
              have HA2 := Lib.hid (HA.out.trans (hy.mono HA.out.size))
              clear hfl hy
              go_wp2_with fail
              go_ret
              exact ⟨rfl, HA2.out⟩
            · rw [if_neg hE] at hne ⊢
              have n0 : (E != 0) = true := by simpa using hE
              have n1 : (E == 0) = false := by simpa using hE
              have hfl := flashed_any y1
              clear hne g1 hE
              go_wp2_with fail
              refine hfl.mono ?_
              rintro e y2 ⟨rfl, hy⟩
              have HA2 := Lib.hid (HA.out.trans (hy.mono HA.out.size))
              clear hfl hy
              go_wp2_with fail
              go_ret
              exact ⟨rfl, HA2.out⟩
          · obtain ⟨hE, hC0⟩ := twoErr_ok h0
            obtain ⟨hR, hl, hok⟩ := HH.out.2.2.2.2.2.2.2.1 hE
            have hoe := HH.out.2.2.2.2.2.2.2.2.1 hC0
            have q2 := HH.out.2.2.1 hR hl hok hoe y1 HA0.out
            have hdl := HH.out.2.2.2.2.2.2.2.2.2.2
            have hxn := hx.nums
            obtain ⟨gx, cx, rfl, -, -, -, -⟩ := id hx
            subst hE
            subst hC0
            have HX := Lib.hid hxn
            have HD := Lib.hid hdl
            clear h0 hR hl hok hoe hx hxn hdl
            go_wp2_with fail
            refine q2.mono ?_
            rintro e y2 ⟨x2, rfl, hx2, hy⟩
            have he := eqInts_same (doOps S L O) (by rw [HD.out]; omega) y2 _ _ (HX.out.later hy) hx2.nums
            obtain ⟨gx2, cx2, rfl, -, -, -, -⟩ := id hx2
            have HA2 := Lib.hid (HA.out.trans (hy.mono HA.out.size))
            clear q2 hx2 hy g1
            go_wp2_with fail
            refine he.mono ?_
            rintro e y3 ⟨rfl, hy⟩
            have hfl := flashed_any y3
            have HA3 := Lib.hid (HA2.out.trans (hy.mono HA2.out.size))
            clear he hy
            go_wp2_with fail
            refine hfl.mono ?_
            rintro e y4 ⟨rfl, hy⟩
            have HA4 := Lib.hid (HA3.out.trans (hy.mono HA3.out.size))
            clear hfl hy
            go_wp2_with fail
            go_ret
            exact ⟨rfl, HA4.out⟩
end Go.Proofs.Ytdejjplkignaoaa
