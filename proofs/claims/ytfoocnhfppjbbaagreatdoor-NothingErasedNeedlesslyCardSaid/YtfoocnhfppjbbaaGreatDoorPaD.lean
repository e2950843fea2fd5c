/- The walk of PlansArrive: it returns true, and turns nothing that was there. Made by gens/palaw.py. -/
import Derived.Test.YtfoocnhfppjbbaaGreatDoorM19
import Derived.Test.YtfoocnhfppjbbaaGreatDoorMdN
import Derived.Test.YtfoocnhfppjbbaaGreatDoorM23
import Derived.Test.YtfoocnhfppjbbaaGreatDoorWfE
import Derived.Deep.CutBlock
import Derived.Deep.DeepCutAuto
namespace Go.Proofs.YtfoocnhfppjbbaaGreatDoor
open Go.RowKit

theorem flErr_zero {S : List Int} (h : FlashRight S) : flErr S = 0 := by
  unfold flErr
  have h1 := h.l1
  have h2 := h.l2
  have h3 : withinB 1 4096 S = true := withinB_iff.2 fun k hk => ⟨h.low k hk, h.high k hk⟩
  have h4 := h.sum
  rw [if_neg (by omega), if_neg (by omega), if_neg (by rw [h3]; decide), if_neg (by omega)]
set_option maxHeartbeats 1600000 in
set_option maxRecDepth 100000 in
theorem palaw_any (a0 : Option Addr) (len cap : Nat) (w : World) (h : RowIn w a0 len) (hT : Tab w) :
    Calls Tryz.prog 3 #[.slice a0 len cap] w fun e w' => e = .returned (.bool true) ∧ Below w.heap.size w w' := by
  have hs := Strm.start (cap := cap) h
  have hTl := hT.lt
  obtain ⟨W0, hW0⟩ : ∃ W0 : World, w.alloc (.cells #[.slice a0 len cap, .int .i64 0] 25) = W0 := ⟨_, rfl⟩
  rw [hW0] at hs
  have hB0 : Below w.heap.size w W0 := by rw [← hW0]; exact (Below.refl _ w).alloc (Nat.le_refl _) _
  have hsz0 : W0.heap.size = w.heap.size + 1 := by rw [← hW0]; simp
  have hff := flashOf_any w.heap.size 0 W0 hs (by omega)
  have HB0 := Lib.hid hB0
  have HT := Lib.hid (fun X (hX : Below w.heap.size w X) => ready1_any X (hT.below hX hTl))
  clear h hB0 hs hT hTl
  go_enter Tryz.func3, Tryz.ntmps3
  go_wp2_with fail
  have HW0 := Lib.hid hW0
  clear hW0
  refine hff.mono ?_
  rintro e w1 ⟨⟨fv, S, rfl, hSl, hN1, hNa1⟩, hr1⟩
  obtain ⟨t1, ht1, ht1', hs1⟩ := hr1.strm
  obtain ⟨fa, fc, rfl, -, -⟩ := id hN1
  have hNa : Ahead (w.heap.size + 1) (.slice fa S.length fc) := fun x y z hh => by have := hNa1 x y z hh; omega
  obtain ⟨W2, hW2⟩ : ∃ X : World, X = w1.alloc (.cells #[.slice fa S.length fc] 27) := ⟨_, rfl⟩
  have hs2 : Strm W2 w.heap.size t1 := by rw [hW2]; exact hs1.alloc _
  have hB12 : Below w1.heap.size w1 W2 := by rw [hW2]; exact (Below.refl _ _).alloc (Nat.le_refl _) _
  have hN2 := hN1.later hB12
  have g2 : W2.cell? ⟨w1.heap.size, 0, none⟩ = some (.slice fa S.length fc) := by rw [hW2]; exact cell_new1 _ _ _ rfl
  have hR2 : Ran w.heap.size t1 0 W2 W2 := Ran.refl hs2
  have hz1 : W0.heap.size ≤ w1.heap.size := hr1.size
  have hz2 : w1.heap.size < W2.heap.size := World.block_lt_of_cell? W2 ⟨w1.heap.size, 0, none⟩ g2
  have HB2 := Lib.hid (HB0.out.trans ((hr1.below (by omega)).trans (hB12.mono (by omega))))
  have HW2 := Lib.hid hW2
  have hz12 : w1.heap.size ≠ w.heap.size := by omega
  clear hff hN1 hNa1 hr1 hs1 hB12 hW2
  go_wp2_with fail
  rw [← HW2.out]
  go_upto_region 3 with (fail)
  go_cut [5, 6] (fun x5 x6 wx => ∃ (a5 a6 : Option Addr) (c5 c6 : Nat) (L O : List Int), x5 = .slice a5 L.length c5 ∧ L.length ≤ 100 ∧ NumsAt wx (.slice a5 L.length c5) L ∧ x6 = .slice a6 O.length c6 ∧ O.length ≤ 100 ∧ NumsAt wx (.slice a6 O.length c6) O ∧ NumsAt wx (.slice fa S.length fc) S ∧ wx.cell? ⟨w1.heap.size, 0, none⟩ = some (.slice fa S.length fc) ∧ Below w.heap.size w wx)
  case first =>
    refine wp_region_held_drew (S := (fun W' => W'.cell? ⟨w1.heap.size, 0, none⟩ = some (.slice fa S.length fc))) (by kernel_rfl) (by first | exact g2 | exact hR4.cell g2 (show w1.heap.size ≠ w.heap.size by omega) | exact hR3.cell g2 (show w1.heap.size ≠ w.heap.size by omega) | exact hR2.cell g2 (show w1.heap.size ≠ w.heap.size by omega)) (fun hHeld => ?_)
    refine wpAnyH_take (i := 0) (v := ?_) rfl (by kernel_rfl) (by kernel_rfl) (by kernel_rfl) (fun _ _ _ h => h) (Or.inl ⟨by rfl, ?_⟩) (by assumption) ?_
    rotate_left
    focus (intro w hSw; (try dsimp only at hSw); go_simp; first | done | with_reducible rfl)
    go_simp
    refine wpAnyH_take (i := 1) (v := ?_) rfl (by kernel_rfl) (by kernel_rfl) (by kernel_rfl) (fun _ _ _ h => h) (Or.inl ⟨by rfl, ?_⟩) (by assumption) ?_
    rotate_left
    focus (intro w hSw; (try dsimp only at hSw); go_simp; first | done | with_reducible rfl)
    go_simp
    refine wpAnyH_take (i := 3) (v := ?_) rfl (by kernel_rfl) (by kernel_rfl) (by kernel_rfl) (fun _ _ _ h => h) (Or.inl ⟨by rfl, ?_⟩) (by assumption) ?_
    rotate_left
    focus (intro w hSw; (try dsimp only at hSw); go_simp; first | done | with_reducible rfl)
    go_simp
    refine wpAnyH_take (i := 4) (v := ?_) rfl (by kernel_rfl) (by kernel_rfl) (by kernel_rfl) (fun _ _ _ h => h) (Or.inl ⟨by rfl, ?_⟩) (by assumption) ?_
    rotate_left
    focus (intro w hSw; (try dsimp only at hSw); go_simp; first | done | with_reducible rfl)
    go_simp
    refine wpAnyH_ready (rs := [2]) (by kernel_rfl) (by simp) (AllReadyH.cons rfl (fun K hK => ?_) AllReadyH.nil)
    go_simp
    go_at_call 6
    refine (wordList_any w.heap.size t1 S (by omega) W2.drew _ (NumsAt.later hN2 (Below.refl _ _).drew) (Strm.kept hs2 fun _ _ => rfl) (by omega)).mono ?_
    rintro e w3 ⟨⟨v5, L, rfl, hLl, hL, hLa⟩, hr3⟩
    have hR3 := hR2.then (Nat.le_refl _) (by omega) hr3.undrew
    have hLa' : Ahead W2.heap.size v5 := fun x y z hh => Nat.le_trans (by simp) (hLa x y z hh)
    refine hK.out _ _ ?_ (fun hHeld => ?_)
    focus (first | exact g2 | exact hR4.cell g2 (show w1.heap.size ≠ w.heap.size by omega) | exact hR3.cell g2 (show w1.heap.size ≠ w.heap.size by omega) | exact hR2.cell g2 (show w1.heap.size ≠ w.heap.size by omega))
    clear hK K
    go_simp
    refine wpAnyH_ready (rs := [5]) (by kernel_rfl) (by simp) (AllReadyH.cons rfl (fun K hK => ?_) AllReadyH.nil)
    go_simp
    obtain ⟨t3, ht3, ht3', hs3⟩ := hR3.strm
    go_at_call 6
    have hN3 : NumsAt w3 (.slice fa S.length fc) S := NumsAt.ran hN2 hNa hR3 (show w.heap.size < w.heap.size + 1 by omega)
    refine (wordList_any w.heap.size t3 S (by omega) w3 _ hN3 hs3 (by omega)).mono ?_
    rintro e w4 ⟨⟨v6, O, rfl, hOl, hO, hOa⟩, hr4⟩
    have hR4 := hR3.then ht3 ht3' hr4
    have hz3 : W2.heap.size ≤ w3.heap.size := hR3.size
    have hz4 : W2.heap.size ≤ w4.heap.size := hR4.size
    refine hK.out _ _ ?_ (fun hHeld => ?_)
    focus (first | exact g2 | exact hR4.cell g2 (show w1.heap.size ≠ w.heap.size by omega) | exact hR3.cell g2 (show w1.heap.size ≠ w.heap.size by omega) | exact hR2.cell g2 (show w1.heap.size ≠ w.heap.size by omega))
    clear hK K
    go_simp
    refine wpAnyH_take (i := 6) (v := ?_) rfl (by kernel_rfl) (by kernel_rfl) (by kernel_rfl) (fun _ _ _ h => h) (Or.inl ⟨by rfl, ?_⟩) (by assumption) ?_
    rotate_left
    focus (intro w hSw; (try dsimp only at hSw); go_simp; first | done | with_reducible rfl)
    go_simp
    refine wpAnyH_take (i := 7) (v := ?_) rfl (by kernel_rfl) (by kernel_rfl) (by kernel_rfl) (fun _ _ _ h => h) (Or.inl ⟨by rfl, ?_⟩) (by assumption) ?_
    rotate_left
    focus (intro w hSw; (try dsimp only at hSw); go_simp; first | done | with_reducible rfl)
    go_simp
    refine wpAnyH_done (by kernel_rfl) ?_ _
    have hL5 : NumsAt w4 v5 L := NumsAt.ran hL hLa' hr4 (show w.heap.size < W2.heap.size by omega)
    have hS5 : NumsAt w4 (.slice fa S.length fc) S := NumsAt.ran hN2 hNa hR4 (show w.heap.size < w.heap.size + 1 by omega)
    have hbx : w4.cell? ⟨w1.heap.size, 0, none⟩ = some (.slice fa S.length fc) := hR4.cell g2 (show w1.heap.size ≠ w.heap.size by omega)
    have hB5 : Below w.heap.size w w4 := HB2.out.trans (hR4.below (show w.heap.size ≤ W2.heap.size by omega))
    obtain ⟨a5, c5, rfl, -, -⟩ := id hL5
    obtain ⟨a6, c6, rfl, -, -⟩ := id hO
    go_wp2_with fail
    go_meet
    exact ⟨_, _, _, _, L, O, rfl, hLl, hL5, rfl, hOl, hO, hS5, hbx, hB5⟩
  case rest =>
    obtain ⟨a5, a6, c5, c6, L, O, rfl, hLl, hL, rfl, hOl, hO, hS, gb, hB⟩ := hcut
    obtain ⟨wo, rfl⟩ : ∃ wo : World, wo = wc := ⟨_, rfl⟩
    have hbl : w1.heap.size < wo.heap.size := World.block_lt_of_cell? wo ⟨w1.heap.size, 0, none⟩ gb
    have hSz : S.length ≤ 1000000 := by omega
    have hLz : L.length ≤ 1000000 := by omega
    have hOz : O.length ≤ 1000000 := by omega
    have hrd := fun (X : World) (hX : Below wo.heap.size wo X) => HT.out X (hB.trans (hX.mono hB.size))
    have hq1 := flashFault_any S hSz wo _ hS
    obtain ⟨F, hF⟩ : ∃ F, F = flErr S := ⟨_, rfl⟩
    rw [← hF] at hq1
    have HR := Lib.hid (⟨hrd, hB⟩ : _ ∧ _)
    have HN := Lib.hid (⟨hS, hL, hO⟩ : _ ∧ _ ∧ _)
    clear hrd hB hS hL hO
    by_cases hF0 : F = 0
    · have hfl := flErr_right (hF.symm.trans hF0)
      have hsm := hfl.small
      have n1 : (F != 0) = false := by rw [hF0]; rfl
      have hI1 := fun X hX => imageFault_any S L hsm hLz X _ _ (HN.out.1.later (w' := X) hX) (HN.out.2.1.later hX)
      have hI2 := fun X hX => imageFault_any S O hsm hOz X _ _ (HN.out.1.later (w' := X) hX) (HN.out.2.2.later hX)
      obtain ⟨I1, hI1d⟩ : ∃ I, I = imErr S L := ⟨_, rfl⟩
      obtain ⟨I2, hI2d⟩ : ∃ I, I = imErr S O := ⟨_, rfl⟩
      rw [← hI1d] at hI1
      rw [← hI2d] at hI2
      have hc1 : I1 = 0 → cmErr S L = 0 := fun e => by unfold cmErr; rw [← hF, if_pos hF0, ← hI1d, e]
      have hc2 : I2 = 0 → cmErr S O = 0 := fun e => by unfold cmErr; rw [← hF, if_pos hF0, ← hI2d, e]
      have hm1 : I1 = 0 → (L.length : Int) = sumS S ∧ WordsOk L := fun e => imErr_ok (hI1d.symm.trans e)
      have hm2 : I2 = 0 → (O.length : Int) = sumS S ∧ WordsOk O := fun e => imErr_ok (hI2d.symm.trans e)
      have HC := Lib.hid (⟨hfl, hc1, hc2, hm1, hm2, hI1, hI2⟩ : _ ∧ _ ∧ _ ∧ _ ∧ _ ∧ _ ∧ _)
      clear hfl hsm hc1 hc2 hm1 hm2 hI1 hI2 hI1d hI2d hF hF0
      by_cases hI0 : I1 = 0
      · have n2 : (I1 != 0) = false := by rw [hI0]; rfl
        by_cases hJ0 : I2 = 0
        · have n3 : (I2 != 0) = false := by rw [hJ0]; rfl
          obtain ⟨hfl, hc1, hc2, hm1, hm2, hI1, hI2⟩ := HC.out
          have z1 := hc1 hI0
          have z2 := hc2 hJ0
          obtain ⟨l1, k1⟩ := hm1 hI0
          obtain ⟨l2, k2⟩ := hm2 hJ0
          have hne : twoErr (cmErr S L) (cmErr S O) = 0 := by unfold twoErr; rw [z1, z2]; rfl
          have hne2 : twoErr (cmErr S O) (cmErr S O) = 0 := by unfold twoErr; rw [z2]; rfl
          have hpl := planL_len S L O hfl
          have harr := plan_arrives S L O hfl l1 l2 k2
          have hoe := opsErr_right S L O hfl l1 l2 k2 (planL S L O) (fun o h => h) hpl
          have hco : coErr S (planL S L O) = 0 := by unfold coErr; rw [if_pos (flErr_zero hfl)]; exact hoe
          have hcy := cycErr_plan S L O hfl l1 l2 k2
          have hdr := drv_plan S L O hfl l1 l2 k2
          have hsm := planL_same S O hfl l2 k2
          have hap : twoErr (cmErr S L) (coErr S (planL S L O)) = 0 := by unfold twoErr; rw [z1, hco]; rfl
          have hdc : twoErr (cmErr S L) (cycErr (cycL S (planL S L O))) = 0 := by unfold twoErr; rw [z1, hcy.2]; rfl
          have hIa := hI1
          have hIb := hI2
          have HE := Lib.hid (⟨hne, hne2, hpl, harr, hco, hcy, hdr, hsm, hap, hdc, z2⟩ : _ ∧ _ ∧ _ ∧ _ ∧ _ ∧ _ ∧ _ ∧ _ ∧ _ ∧ _ ∧ _)
          clear hfl hc1 hc2 hm1 hm2 hI1 hI2 z1 z2 l1 k1 l2 k2 hne hne2 hpl harr hco hcy hdr hsm hap hdc HC
          subst hI0
          subst hJ0
          go_wp2_with fail
          refine hq1.mono ?_
          rintro e y1 ⟨rfl, hy⟩
          have HA1 := Lib.hid hy
          have g1' := (hy.cell (p := ⟨w1.heap.size, 0, none⟩) hbl).trans gb
          clear hq1 hy gb
          have hq2 := hIa y1 HA1.out
          clear hIa
          go_wp2_with fail
          refine hq2.mono ?_
          rintro e y2 ⟨rfl, hy⟩
          have hA := HA1.out.trans (hy.mono HA1.out.size)
          have g2' := (hy.cell (p := ⟨w1.heap.size, 0, none⟩) (World.block_lt_of_cell? y1 ⟨w1.heap.size, 0, none⟩ g1')).trans g1'
          have HA2 := Lib.hid hA
          clear hq2 hy hA g1'
          have hq3 := hIb y2 HA2.out
          clear hIb
          go_wp2_with fail
          refine hq3.mono ?_
          rintro e y3 ⟨rfl, hy⟩
          have hA := HA2.out.trans (hy.mono HA2.out.size)
          have g3' := (hy.cell (p := ⟨w1.heap.size, 0, none⟩) (World.block_lt_of_cell? y2 ⟨w1.heap.size, 0, none⟩ g2')).trans g2'
          have HA3 := Lib.hid hA
          clear hq3 hy hA g2'
          have hq4 := plan_any S L O hSz hLz hOz y3 _ _ _ (HN.out.1.later HA3.out) (HN.out.2.1.later HA3.out) (HN.out.2.2.later HA3.out)
          go_wp2_with fail
          refine hq4.mono ?_
          rintro e y4 ⟨hps, hy⟩
          have hA := HA3.out.trans (hy.mono HA3.out.size)
          have g4' := (hy.cell (p := ⟨w1.heap.size, 0, none⟩) (World.block_lt_of_cell? y3 ⟨w1.heap.size, 0, none⟩ g3')).trans g3'
          have HA4 := Lib.hid hA
          unfold PlanSaid at hps
          rcases hps with ⟨hx, -⟩ | ⟨-, pv, rfl, hp⟩
          · exact absurd HE.out.1 hx
          obtain ⟨pa, pc, rfl, -, -⟩ := id hp
          obtain ⟨P, hP⟩ : ∃ P, P = planL S L O := ⟨_, rfl⟩
          rw [← hP] at hp ⊢
          have HP := Lib.hid (⟨hP, hp⟩ : _ ∧ _)
          clear hP hp
          clear hq4 hy hA g3'
          have hPz : P.length ≤ 1000000 := by have := HE.out.2.2.1; rw [← HP.out.1] at this; omega
          have hq5 := apply_any S L P hSz hLz hPz y4 _ _ _ (HN.out.1.later HA4.out) (HN.out.2.1.later HA4.out) HP.out.2
          go_wp2_with fail
          refine hq5.mono ?_
          rintro e y5 ⟨has, hy⟩
          have hA := HA4.out.trans (hy.mono HA4.out.size)
          have g5' := (hy.cell (p := ⟨w1.heap.size, 0, none⟩) (World.block_lt_of_cell? y4 ⟨w1.heap.size, 0, none⟩ g4')).trans g4'
          have HA5 := Lib.hid hA
          unfold ApplySaid at has
          rw [HP.out.1] at has
          rcases has with ⟨hx, -⟩ | ⟨-, xv, rfl, hxw⟩
          · exact absurd HE.out.2.2.2.2.2.2.2.2.1 hx
          rw [HE.out.2.2.2.1] at hxw
          have hxn := hxw.nums
          obtain ⟨xa, xc, rfl, -, -⟩ := id hxn
          have HX := Lib.hid (⟨hxn, HP.out.2.later hy⟩ : _ ∧ _)
          clear hxw hxn
          clear hq5 hy hA g4'
          have hq6 := cycles_any S P hSz hPz y5 _ _ (HN.out.1.later HA5.out) HX.out.2
          go_wp2_with fail
          refine hq6.mono ?_
          rintro e y6 ⟨hcs, hy⟩
          have hA := HA5.out.trans (hy.mono HA5.out.size)
          have g6' := (hy.cell (p := ⟨w1.heap.size, 0, none⟩) (World.block_lt_of_cell? y5 ⟨w1.heap.size, 0, none⟩ g5')).trans g5'
          have HA6 := Lib.hid hA
          unfold CyclesSaid at hcs
          rw [HP.out.1] at hcs
          rcases hcs with ⟨hx, -⟩ | ⟨-, hx, -⟩ | ⟨-, -, cv, rfl, hcv⟩
          · exact absurd HE.out.2.2.2.2.1 hx
          · exact absurd HE.out.2.2.2.2.2.1.1 (by omega)
          obtain ⟨ca, cc, rfl, -, -⟩ := id hcv
          have HX6 := Lib.hid (⟨hcv, HX.out.1.later hy⟩ : _ ∧ _)
          obtain ⟨C, hC⟩ : ∃ C, C = cycL S (planL S L O) := ⟨_, rfl⟩
          rw [← hC]
          have HCy := Lib.hid hC
          clear hcv hC
          clear hq6 hy hA g5'
          have hq7 := eqInts_same O hOz y6 _ _ HX6.out.2 (HN.out.2.2.later HA6.out)
          go_wp2_with fail
          refine hq7.mono ?_
          rintro e y7 ⟨rfl, hy⟩
          have hA := HA6.out.trans (hy.mono HA6.out.size)
          have g7' := (hy.cell (p := ⟨w1.heap.size, 0, none⟩) (World.block_lt_of_cell? y6 ⟨w1.heap.size, 0, none⟩ g6')).trans g6'
          have HA7 := Lib.hid hA
          have hc7 := HX6.out.1.later hy
          rw [← HCy.out] at hc7
          have HX7 := Lib.hid hc7
          clear hc7
          clear hq7 hy hA g6'
          have hCz : C.length ≤ 1000000 := by rw [HCy.out]; have := HE.out.2.2.2.2.2.1.1; omega
          have hq8 := drive_any S L C hSz hLz hCz y7 _ _ _ (HN.out.1.later HA7.out) (HN.out.2.1.later HA7.out) HX7.out
          go_wp2_with fail
          refine hq8.mono ?_
          rintro e y8 ⟨hds, hy⟩
          have hA := HA7.out.trans (hy.mono HA7.out.size)
          have g8' := (hy.cell (p := ⟨w1.heap.size, 0, none⟩) (World.block_lt_of_cell? y7 ⟨w1.heap.size, 0, none⟩ g7')).trans g7'
          have HA8 := Lib.hid hA
          unfold DriveSaid at hds
          rw [HCy.out, HE.out.2.2.2.2.2.2.1] at hds
          rcases hds with ⟨hx, -⟩ | ⟨-, dv, bv, rfl, hdv, hbv⟩
          · exact absurd HE.out.2.2.2.2.2.2.2.2.2.1 hx
          dsimp only at hdv hbv
          obtain ⟨da, dc, rfl, -, -⟩ := id hdv
          obtain ⟨ea, ec, rfl, -, -⟩ := id hbv
          have HX8 := Lib.hid hdv
          clear hdv hbv
          clear hq8 hy hA g7'
          have hq9 := eqInts_same O hOz y8 _ _ HX8.out (HN.out.2.2.later HA8.out)
          go_wp2_with fail
          refine hq9.mono ?_
          rintro e y9 ⟨rfl, hy⟩
          have hA := HA8.out.trans (hy.mono HA8.out.size)
          have g9' := (hy.cell (p := ⟨w1.heap.size, 0, none⟩) (World.block_lt_of_cell? y8 ⟨w1.heap.size, 0, none⟩ g8')).trans g8'
          have HA9 := Lib.hid hA
          clear hq9 hy hA g8'
          have hq10 := plan_any S O O hSz hOz hOz y9 _ _ _ (HN.out.1.later HA9.out) (HN.out.2.2.later HA9.out) (HN.out.2.2.later HA9.out)
          go_wp2_with fail
          refine hq10.mono ?_
          rintro e y10 ⟨hps, hy⟩
          have hA := HA9.out.trans (hy.mono HA9.out.size)
          have g10' := (hy.cell (p := ⟨w1.heap.size, 0, none⟩) (World.block_lt_of_cell? y9 ⟨w1.heap.size, 0, none⟩ g9')).trans g9'
          have HA10 := Lib.hid hA
          unfold PlanSaid at hps
          rw [HE.out.2.2.2.2.2.2.2.1] at hps
          rcases hps with ⟨hx, -⟩ | ⟨-, nv, rfl, hnv⟩
          · exact absurd HE.out.2.1 hx
          obtain ⟨na, nc, rfl, -, -⟩ := id hnv
          clear hnv
          clear hq10 hy hA g9'
          have hq11 := differSame_any S O HE.out.2.2.2.2.2.2.2.2.2.2 hSz hOz y10 _ _ _ (HN.out.1.later HA10.out) (HN.out.2.2.later HA10.out) (HN.out.2.2.later HA10.out)
          go_wp2_with fail
          refine hq11.mono ?_
          rintro e y11 ⟨rfl, hy⟩
          have hA := HA10.out.trans (hy.mono HA10.out.size)
          have g11' := (hy.cell (p := ⟨w1.heap.size, 0, none⟩) (World.block_lt_of_cell? y10 ⟨w1.heap.size, 0, none⟩ g10')).trans g10'
          have HA11 := Lib.hid hA
          clear hq11 hy hA g10'
          have hrk := HR.out.1 y11 HA11.out
          go_wp2_with fail
          refine hrk.mono ?_
          rintro e y12 ⟨rfl, hy⟩
          have HZ := Lib.hid (HR.out.2.trans ((HA11.out.trans (hy.mono HA11.out.size)).mono HR.out.2.size))
          clear hrk hy
          go_wp2_with fail
          go_ret
          exact ⟨rfl, HZ.out⟩
        · have n3 : (I2 != 0) = true := by rw [bne_iff_ne]; exact hJ0
          clear hJ0 hI0
          go_wp2_with fail
          refine hq1.mono ?_
          rintro e y1 ⟨rfl, hy⟩
          have HA1 := Lib.hid hy
          have g1' := (hy.cell (p := ⟨w1.heap.size, 0, none⟩) hbl).trans gb
          clear hq1 hy gb
          have hq2 := HC.out.2.2.2.2.2.1 y1 HA1.out
          go_wp2_with fail
          refine hq2.mono ?_
          rintro e y2 ⟨rfl, hy⟩
          have hA := HA1.out.trans (hy.mono HA1.out.size)
          have g2' := (hy.cell (p := ⟨w1.heap.size, 0, none⟩) (World.block_lt_of_cell? y1 ⟨w1.heap.size, 0, none⟩ g1')).trans g1'
          have HA2 := Lib.hid hA
          clear hq2 hy hA g1'
          have hq3 := HC.out.2.2.2.2.2.2 y2 HA2.out
          go_wp2_with fail
          refine hq3.mono ?_
          rintro e y3 ⟨rfl, hy⟩
          have hA := HA2.out.trans (hy.mono HA2.out.size)
          have g3' := (hy.cell (p := ⟨w1.heap.size, 0, none⟩) (World.block_lt_of_cell? y2 ⟨w1.heap.size, 0, none⟩ g2')).trans g2'
          have HA3 := Lib.hid hA
          clear hq3 hy hA g2'
          have hrk := HR.out.1 y3 HA3.out
          go_wp2_with fail
          refine hrk.mono ?_
          rintro e y4 ⟨rfl, hy⟩
          have HZ := Lib.hid (HR.out.2.trans ((HA3.out.trans (hy.mono HA3.out.size)).mono HR.out.2.size))
          clear hrk hy
          go_wp2_with fail
          go_ret
          exact ⟨rfl, HZ.out⟩
      · have n2 : (I1 != 0) = true := by rw [bne_iff_ne]; exact hI0
        clear hI0
        go_wp2_with fail
        refine hq1.mono ?_
        rintro e y1 ⟨rfl, hy⟩
        have HA1 := Lib.hid hy
        have g1' := (hy.cell (p := ⟨w1.heap.size, 0, none⟩) hbl).trans gb
        clear hq1 hy gb
        have hq2 := HC.out.2.2.2.2.2.1 y1 HA1.out
        go_wp2_with fail
        refine hq2.mono ?_
        rintro e y2 ⟨rfl, hy⟩
        have hA := HA1.out.trans (hy.mono HA1.out.size)
        have g2' := (hy.cell (p := ⟨w1.heap.size, 0, none⟩) (World.block_lt_of_cell? y1 ⟨w1.heap.size, 0, none⟩ g1')).trans g1'
        have HA2 := Lib.hid hA
        clear hq2 hy hA g1'
        have hrk := HR.out.1 y2 HA2.out
        go_wp2_with fail
        refine hrk.mono ?_
        rintro e y3 ⟨rfl, hy⟩
        have HZ := Lib.hid (HR.out.2.trans ((HA2.out.trans (hy.mono HA2.out.size)).mono HR.out.2.size))
        clear hrk hy
        go_wp2_with fail
        go_ret
        exact ⟨rfl, HZ.out⟩
    · have n1 : (F != 0) = true := by rw [bne_iff_ne]; exact hF0
      clear hF hF0
      go_wp2_with fail
      refine hq1.mono ?_
      rintro e y1 ⟨rfl, hy⟩
      have HA1 := Lib.hid hy
      have g1' := (hy.cell (p := ⟨w1.heap.size, 0, none⟩) hbl).trans gb
      clear hq1 hy gb
      have hrk := HR.out.1 y1 HA1.out
      go_wp2_with fail
      refine hrk.mono ?_
      rintro e y2 ⟨rfl, hy⟩
      have HZ := Lib.hid (HR.out.2.trans ((HA1.out.trans (hy.mono HA1.out.size)).mono HR.out.2.size))
      clear hrk hy
      go_wp2_with fail
      go_ret
      exact ⟨rfl, HZ.out⟩
end Go.Proofs.YtfoocnhfppjbbaaGreatDoor
