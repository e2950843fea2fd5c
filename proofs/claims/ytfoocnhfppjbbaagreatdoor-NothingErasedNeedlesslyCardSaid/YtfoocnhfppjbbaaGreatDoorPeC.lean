/- The walk of NothingErasedNeedlessly: it returns true, and turns nothing that was there. Made by gens/pelaw.py. -/
import Derived.Test.YtfoocnhfppjbbaaGreatDoorPaD
import Derived.Test.YtfoocnhfppjbbaaGreatDoorM26
import Derived.Deep.CutBlock
import Derived.Deep.DeepCutAuto
namespace Go.Proofs.YtfoocnhfppjbbaaGreatDoor
open Go.RowKit

set_option maxHeartbeats 1600000 in
set_option maxRecDepth 100000 in
theorem pelaw_any (a0 : Option Addr) (len cap : Nat) (w : World) (h : RowIn w a0 len) (hT : Tab w) :
    Calls Tryz.prog 4 #[.slice a0 len cap] w fun e w' => e = .returned (.bool true) ∧ Below w.heap.size w w' := by
  have hs := Strm.start (cap := cap) h
  have hTl := hT.lt
  obtain ⟨W0, hW0⟩ : ∃ W0 : World, w.alloc (.cells #[.slice a0 len cap, .int .i64 0] 25) = W0 := ⟨_, rfl⟩
  rw [hW0] at hs
  have hB0 : Below w.heap.size w W0 := by rw [← hW0]; exact (Below.refl _ w).alloc (Nat.le_refl _) _
  have hsz0 : W0.heap.size = w.heap.size + 1 := by rw [← hW0]; simp
  have hff := flashOf_any w.heap.size 0 W0 hs (by omega)
  have HB0 := Lib.hid hB0
  have HT := Lib.hid (fun X (hX : Below w.heap.size w X) => ready1_any X (hT.below hX hTl))
  clear h hB0 hs hT hTl
  go_enter Tryz.func4, Tryz.ntmps4
  go_wp2_with fail
  have HW0 := Lib.hid hW0
  clear hW0
  refine hff.mono ?_
  rintro e w1 ⟨⟨fv, S, rfl, hSl, hN1, hNa1⟩, hr1⟩
  obtain ⟨t1, ht1, ht1', hs1⟩ := hr1.strm
  obtain ⟨fa, fc, rfl, -, -⟩ := id hN1
  have hNa : Ahead (w.heap.size + 1) (.slice fa S.length fc) := fun x y z hh => by have := hNa1 x y z hh; omega
  obtain ⟨W2, hW2⟩ : ∃ X : World, X = w1.alloc (.cells #[.slice fa S.length fc] 27) := ⟨_, rfl⟩
  have hs2 : Strm W2 w.heap.size t1 := by rw [hW2]; exact hs1.alloc _
  have hB12 : Below w1.heap.size w1 W2 := by rw [hW2]; exact (Below.refl _ _).alloc (Nat.le_refl _) _
  have hN2 := hN1.later hB12
  have g2 : W2.cell? ⟨w1.heap.size, 0, none⟩ = some (.slice fa S.length fc) := by rw [hW2]; exact cell_new1 _ _ _ rfl
  have hR2 : Ran w.heap.size t1 0 W2 W2 := Ran.refl hs2
  have hz1 : W0.heap.size ≤ w1.heap.size := hr1.size
  have hz2 : w1.heap.size < W2.heap.size := World.block_lt_of_cell? W2 ⟨w1.heap.size, 0, none⟩ g2
  have HB2 := Lib.hid (HB0.out.trans ((hr1.below (by omega)).trans (hB12.mono (by omega))))
  have HW2 := Lib.hid hW2
  have hz12 : w1.heap.size ≠ w.heap.size := by omega
  clear hff hN1 hNa1 hr1 hs1 hB12 hW2
  go_wp2_with fail
  rw [← HW2.out]
  go_upto_region 3 with (fail)
  go_cut [5, 6] (fun x5 x6 wx => ∃ (a5 a6 : Option Addr) (c5 c6 : Nat) (L O : List Int), x5 = .slice a5 L.length c5 ∧ L.length ≤ 100 ∧ NumsAt wx (.slice a5 L.length c5) L ∧ x6 = .slice a6 O.length c6 ∧ O.length ≤ 100 ∧ NumsAt wx (.slice a6 O.length c6) O ∧ NumsAt wx (.slice fa S.length fc) S ∧ wx.cell? ⟨w1.heap.size, 0, none⟩ = some (.slice fa S.length fc) ∧ Below w.heap.size w wx)
  case first =>
    refine wp_region_held_drew (S := (fun W' => W'.cell? ⟨w1.heap.size, 0, none⟩ = some (.slice fa S.length fc))) (by kernel_rfl) (by first | exact g2 | exact hR4.cell g2 (show w1.heap.size ≠ w.heap.size by omega) | exact hR3.cell g2 (show w1.heap.size ≠ w.heap.size by omega) | exact hR2.cell g2 (show w1.heap.size ≠ w.heap.size by omega)) (fun hHeld => ?_)
    refine wpAnyH_take (i := 0) (v := ?_) rfl (by kernel_rfl) (by kernel_rfl) (by kernel_rfl) (fun _ _ _ h => h) (Or.inl ⟨by rfl, ?_⟩) (by assumption) ?_
    rotate_left
    focus (intro w hSw; (try dsimp only at hSw); go_simp; first | done | with_reducible rfl)
    go_simp
    refine wpAnyH_take (i := 1) (v := ?_) rfl (by kernel_rfl) (by kernel_rfl) (by kernel_rfl) (fun _ _ _ h => h) (Or.inl ⟨by rfl, ?_⟩) (by assumption) ?_
    rotate_left
    focus (intro w hSw; (try dsimp only at hSw); go_simp; first | done | with_reducible rfl)
    go_simp
    refine wpAnyH_take (i := 3) (v := ?_) rfl (by kernel_rfl) (by kernel_rfl) (by kernel_rfl) (fun _ _ _ h => h) (Or.inl ⟨by rfl, ?_⟩) (by assumption) ?_
    rotate_left
    focus (intro w hSw; (try dsimp only at hSw); go_simp; first | done | with_reducible rfl)
    go_simp
    refine wpAnyH_take (i := 4) (v := ?_) rfl (by kernel_rfl) (by kernel_rfl) (by kernel_rfl) (fun _ _ _ h => h) (Or.inl ⟨by rfl, ?_⟩) (by assumption) ?_
    rotate_left
    focus (intro w hSw; (try dsimp only at hSw); go_simp; first | done | with_reducible rfl)
    go_simp
    refine wpAnyH_ready (rs := [2]) (by kernel_rfl) (by simp) (AllReadyH.cons rfl (fun K hK => ?_) AllReadyH.nil)
    go_simp
    go_at_call 6
    refine (wordList_any w.heap.size t1 S (by omega) W2.drew _ (NumsAt.later hN2 (Below.refl _ _).drew) (Strm.kept hs2 fun _ _ => rfl) (by omega)).mono ?_
    rintro e w3 ⟨⟨v5, L, rfl, hLl, hL, hLa⟩, hr3⟩
    have hR3 := hR2.then (Nat.le_refl _) (by omega) hr3.undrew
    have hLa' : Ahead W2.heap.size v5 := fun x y z hh => Nat.le_trans (by simp) (hLa x y z hh)
    refine hK.out _ _ ?_ (fun hHeld => ?_)
    focus (first | exact g2 | exact hR4.cell g2 (show w1.heap.size ≠ w.heap.size by omega) | exact hR3.cell g2 (show w1.heap.size ≠ w.heap.size by omega) | exact hR2.cell g2 (show w1.heap.size ≠ w.heap.size by omega))
    clear hK K
    go_simp
    refine wpAnyH_ready (rs := [5]) (by kernel_rfl) (by simp) (AllReadyH.cons rfl (fun K hK => ?_) AllReadyH.nil)
    go_simp
    obtain ⟨t3, ht3, ht3', hs3⟩ := hR3.strm
    go_at_call 6
    have hN3 : NumsAt w3 (.slice fa S.length fc) S := NumsAt.ran hN2 hNa hR3 (show w.heap.size < w.heap.size + 1 by omega)
    refine (wordList_any w.heap.size t3 S (by omega) w3 _ hN3 hs3 (by omega)).mono ?_
    rintro e w4 ⟨⟨v6, O, rfl, hOl, hO, hOa⟩, hr4⟩
    have hR4 := hR3.then ht3 ht3' hr4
    have hz3 : W2.heap.size ≤ w3.heap.size := hR3.size
    have hz4 : W2.heap.size ≤ w4.heap.size := hR4.size
    refine hK.out _ _ ?_ (fun hHeld => ?_)
    focus (first | exact g2 | exact hR4.cell g2 (show w1.heap.size ≠ w.heap.size by omega) | exact hR3.cell g2 (show w1.heap.size ≠ w.heap.size by omega) | exact hR2.cell g2 (show w1.heap.size ≠ w.heap.size by omega))
    clear hK K
    go_simp
    refine wpAnyH_take (i := 6) (v := ?_) rfl (by kernel_rfl) (by kernel_rfl) (by kernel_rfl) (fun _ _ _ h => h) (Or.inl ⟨by rfl, ?_⟩) (by assumption) ?_
    rotate_left
    focus (intro w hSw; (try dsimp only at hSw); go_simp; first | done | with_reducible rfl)
    go_simp
    refine wpAnyH_take (i := 7) (v := ?_) rfl (by kernel_rfl) (by kernel_rfl) (by kernel_rfl) (fun _ _ _ h => h) (Or.inl ⟨by rfl, ?_⟩) (by assumption) ?_
    rotate_left
    focus (intro w hSw; (try dsimp only at hSw); go_simp; first | done | with_reducible rfl)
    go_simp
    refine wpAnyH_done (by kernel_rfl) ?_ _
    have hL5 : NumsAt w4 v5 L := NumsAt.ran hL hLa' hr4 (show w.heap.size < W2.heap.size by omega)
    have hS5 : NumsAt w4 (.slice fa S.length fc) S := NumsAt.ran hN2 hNa hR4 (show w.heap.size < w.heap.size + 1 by omega)
    have hbx : w4.cell? ⟨w1.heap.size, 0, none⟩ = some (.slice fa S.length fc) := hR4.cell g2 (show w1.heap.size ≠ w.heap.size by omega)
    have hB5 : Below w.heap.size w w4 := HB2.out.trans (hR4.below (show w.heap.size ≤ W2.heap.size by omega))
    obtain ⟨a5, c5, rfl, -, -⟩ := id hL5
    obtain ⟨a6, c6, rfl, -, -⟩ := id hO
    go_wp2_with fail
    go_meet
    exact ⟨_, _, _, _, L, O, rfl, hLl, hL5, rfl, hOl, hO, hS5, hbx, hB5⟩
  case rest =>
    obtain ⟨a5, a6, c5, c6, L, O, rfl, hLl, hL, rfl, hOl, hO, hS, gb, hB⟩ := hcut
    obtain ⟨wo, rfl⟩ : ∃ wo : World, wo = wc := ⟨_, rfl⟩
    have hbl : w1.heap.size < wo.heap.size := World.block_lt_of_cell? wo ⟨w1.heap.size, 0, none⟩ gb
    have hSz : S.length ≤ 1000000 := by omega
    have hLz : L.length ≤ 1000000 := by omega
    have hOz : O.length ≤ 1000000 := by omega
    have hrd := fun (X : World) (hX : Below wo.heap.size wo X) => HT.out X (hB.trans (hX.mono hB.size))
    have hq1 := flashFault_any S hSz wo _ hS
    obtain ⟨F, hF⟩ : ∃ F, F = flErr S := ⟨_, rfl⟩
    rw [← hF] at hq1
    have HR := Lib.hid (⟨hrd, hB⟩ : _ ∧ _)
    have HN := Lib.hid (⟨hS, hL, hO⟩ : _ ∧ _ ∧ _)
    clear hrd hB hS hL hO
    by_cases hF0 : F = 0
    · have hfl := flErr_right (hF.symm.trans hF0)
      have hsm := hfl.small
      have n1 : (F != 0) = false := by rw [hF0]; rfl
      have hI1 := fun X hX => imageFault_any S L hsm hLz X _ _ (HN.out.1.later (w' := X) hX) (HN.out.2.1.later hX)
      have hI2 := fun X hX => imageFault_any S O hsm hOz X _ _ (HN.out.1.later (w' := X) hX) (HN.out.2.2.later hX)
      obtain ⟨I1, hI1d⟩ : ∃ I, I = imErr S L := ⟨_, rfl⟩
      obtain ⟨I2, hI2d⟩ : ∃ I, I = imErr S O := ⟨_, rfl⟩
      rw [← hI1d] at hI1
      rw [← hI2d] at hI2
      have hc1 : I1 = 0 → cmErr S L = 0 := fun e => by unfold cmErr; rw [← hF, if_pos hF0, ← hI1d, e]
      have hc2 : I2 = 0 → cmErr S O = 0 := fun e => by unfold cmErr; rw [← hF, if_pos hF0, ← hI2d, e]
      have hm1 : I1 = 0 → (L.length : Int) = sumS S ∧ WordsOk L := fun e => imErr_ok (hI1d.symm.trans e)
      have hm2 : I2 = 0 → (O.length : Int) = sumS S ∧ WordsOk O := fun e => imErr_ok (hI2d.symm.trans e)
      have HC := Lib.hid (⟨hfl, hc1, hc2, hm1, hm2, hI1, hI2⟩ : _ ∧ _ ∧ _ ∧ _ ∧ _ ∧ _ ∧ _)
      clear hfl hsm hc1 hc2 hm1 hm2 hI1 hI2 hI1d hI2d hF hF0
      by_cases hI0 : I1 = 0
      · have n2 : (I1 != 0) = false := by rw [hI0]; rfl
        by_cases hJ0 : I2 = 0
        · have n3 : (I2 != 0) = false := by rw [hJ0]; rfl
          obtain ⟨hfl, hc1, hc2, hm1, hm2, hI1, hI2⟩ := HC.out
          have z1 := hc1 hI0
          have z2 := hc2 hJ0
          obtain ⟨l1, k1⟩ := hm1 hI0
          obtain ⟨l2, k2⟩ := hm2 hJ0
          have hne : twoErr (cmErr S L) (cmErr S O) = 0 := by unfold twoErr; rw [z1, z2]; rfl
          have hne2 : twoErr (cmErr S O) (cmErr S O) = 0 := by unfold twoErr; rw [z2]; rfl
          have hpl := planL_len S L O hfl
          have harr := plan_arrives S L O hfl l1 l2 k2
          have hoe := opsErr_right S L O hfl l1 l2 k2 (planL S L O) (fun o h => h) hpl
          have hco : coErr S (planL S L O) = 0 := by unfold coErr; rw [if_pos (flErr_zero hfl)]; exact hoe
          have hcy := cycErr_plan S L O hfl l1 l2 k2
          have hdr := drv_plan S L O hfl l1 l2 k2
          have hsm := planL_same S O hfl l2 k2
          have hap : twoErr (cmErr S L) (coErr S (planL S L O)) = 0 := by unfold twoErr; rw [z1, hco]; rfl
          have hdc : twoErr (cmErr S L) (cycErr (cycL S (planL S L O))) = 0 := by unfold twoErr; rw [z1, hcy.2]; rfl
          have hpn := plan_needs S L O hfl l1 l2 k1 k2
          have hpo := planL_op S L O hfl l1
          have hsub := fun Q hQ hl => opsErr_right S L O hfl l1 l2 k2 Q hQ hl
          have hwl := wearL_le S L O hfl l1 l2 k2
          have hlo : L.length = O.length := by omega
          have hl0 : 0 < O.length := by have h1 := preS_mono hfl.low S.length (Nat.le_refl _) 0 (by omega); have h2 := hfl.l1; rw [show preS S 0 = 0 from rfl, show preS S S.length = sumS S from rfl] at h1; omega
          have hfz := flErr_zero hfl
          have HX := Lib.hid (⟨hpn, hpo, hsub, hwl, hlo, hl0, hfl, hoe, hfz⟩ : _ ∧ _ ∧ _ ∧ _ ∧ _ ∧ _ ∧ _ ∧ _ ∧ _)
          clear hpn hpo hsub hwl hlo hl0 hoe hfz
          have hIa := hI1
          have hIb := hI2
          have HE := Lib.hid (⟨hne, hne2, hpl, harr, hco, hcy, hdr, hsm, hap, hdc, z2⟩ : _ ∧ _ ∧ _ ∧ _ ∧ _ ∧ _ ∧ _ ∧ _ ∧ _ ∧ _ ∧ _)
          clear hfl hc1 hc2 hm1 hm2 hI1 hI2 z1 z2 l1 k1 l2 k2 hne hne2 hpl harr hco hcy hdr hsm hap hdc HC
          subst hI0
          subst hJ0
          go_wp2_with fail
          refine hq1.mono ?_
          rintro e y1 ⟨rfl, hy⟩
          have HA1 := Lib.hid hy
          have g1' := (hy.cell (p := ⟨w1.heap.size, 0, none⟩) hbl).trans gb
          clear hq1 hy gb
          have hq2 := hIa y1 HA1.out
          clear hIa
          go_wp2_with fail
          refine hq2.mono ?_
          rintro e y2 ⟨rfl, hy⟩
          have hA := HA1.out.trans (hy.mono HA1.out.size)
          have g2' := (hy.cell (p := ⟨w1.heap.size, 0, none⟩) (World.block_lt_of_cell? y1 ⟨w1.heap.size, 0, none⟩ g1')).trans g1'
          have HA2 := Lib.hid hA
          clear hq2 hy hA g1'
          have hq3 := hIb y2 HA2.out
          clear hIb
          go_wp2_with fail
          refine hq3.mono ?_
          rintro e y3 ⟨rfl, hy⟩
          have hA := HA2.out.trans (hy.mono HA2.out.size)
          have g3' := (hy.cell (p := ⟨w1.heap.size, 0, none⟩) (World.block_lt_of_cell? y2 ⟨w1.heap.size, 0, none⟩ g2')).trans g2'
          have HA3 := Lib.hid hA
          clear hq3 hy hA g2'
          have hq4 := plan_any S L O hSz hLz hOz y3 _ _ _ (HN.out.1.later HA3.out) (HN.out.2.1.later HA3.out) (HN.out.2.2.later HA3.out)
          go_wp2_with fail
          refine hq4.mono ?_
          rintro e y4 ⟨hps, hy⟩
          have hA := HA3.out.trans (hy.mono HA3.out.size)
          have g4' := (hy.cell (p := ⟨w1.heap.size, 0, none⟩) (World.block_lt_of_cell? y3 ⟨w1.heap.size, 0, none⟩ g3')).trans g3'
          have HA4 := Lib.hid hA
          unfold PlanSaid at hps
          rcases hps with ⟨hx, -⟩ | ⟨-, pv, rfl, hp⟩
          · exact absurd HE.out.1 hx
          obtain ⟨pa, pc, rfl, -, -⟩ := id hp
          obtain ⟨P, hP⟩ : ∃ P, P = planL S L O := ⟨_, rfl⟩
          rw [← hP] at hp ⊢
          obtain ⟨m, hm⟩ : ∃ m, m = P.length := ⟨_, rfl⟩
          rw [← hm] at hp ⊢
          have HP := Lib.hid (⟨hP, hp, hm⟩ : _ ∧ _ ∧ _)
          clear hP hp hm
          clear hq4 hy hA g3'
          have hPz : P.length ≤ 4116 := by have := HE.out.2.2.1; rw [← HP.out.1] at this; exact this
          have hmz : m ≤ 4116 := by have := HP.out.2.2; omega
          have hb4 : w1.heap.size < y4.heap.size := World.block_lt_of_cell? y4 ⟨w1.heap.size, 0, none⟩ g4'
          have hclo : 0 < m → ∀ X, Below y4.heap.size y4 X → Calls Tryz.prog 17 #[.slice pa m pc] X fun e w' => ∃ g c, e = .returned (.slice (some ⟨g, 0, none⟩) m c) ∧ w'.ownsRow X.heap.size 51 3 (.slice (some ⟨g, 0, none⟩) m c) m (cellsOf P) ∧ Below X.heap.size X w' := fun h0 X hX => by
            have h := cloneOps_any P (by omega) (by have := HP.out.2.2; omega) X _ (HP.out.2.1.later hX)
            rw [← HP.out.2.2] at h
            exact h
          have hdel : ∀ k, k < m → ∀ (B : Nat) X g c, X.ownsRow B 51 3 (.slice (some ⟨g, 0, none⟩) m c) m (cellsOf P) → Calls Tryz.prog 16 #[.slice (some ⟨g, 0, none⟩) m c, .int .i64 (k : Int), .int .i64 (IntKind.i64.wrap ((k : Int) + 1))] X fun e w' => e = .returned (.slice (some ⟨g, 0, none⟩) (m - 1) c) ∧ w'.ownsRow B 51 3 (.slice (some ⟨g, 0, none⟩) (m - 1) c) (m - 1) (cellsOf (P.eraseIdx k)) ∧ Below B X w' := fun k hk B X g c hX => by
            have hwr : IntKind.i64.wrap ((k : Int) + 1) = (k : Int) + 1 := by rw [IntKind.wrap_i64]; omega
            rw [hwr]
            rw [HP.out.2.2] at hX ⊢
            exact delOps_any P k (by have := HP.out.2.2; omega) (by omega) B X g c hX
          have her : ∀ k, k < m → (P.eraseIdx k).length = m - 1 := fun k hk => by rw [List.length_eraseIdx_of_lt (by have := HP.out.2.2; omega), ← HP.out.2.2]
          have hcut : ∀ k, k < m → ∃ hk : k < P.length, P = P.take k ++ P[k] :: P.drop (k + 1) := fun k hk => ⟨by have := HP.out.2.2; omega, by simp⟩
          have hdo : ∀ k, k < m → doOps S L (P.eraseIdx k) ≠ O := fun k hk => by
            obtain ⟨hk2, hc⟩ := hcut k hk
            rw [List.eraseIdx_eq_take_drop_succ]
            exact HX.out.1 (P.take k) (P.drop (k + 1)) P[k] (by rw [← HP.out.1]; exact hc) (HX.out.2.1 _ (by rw [← HP.out.1]; exact List.getElem_mem hk2))
          have hoe2 : ∀ k, k < m → twoErr (cmErr S L) (coErr S (P.eraseIdx k)) = 0 := fun k hk => by
            have h := HX.out.2.2.1 (P.eraseIdx k) (fun o ho => by rw [← HP.out.1]; exact List.mem_of_mem_eraseIdx ho) (by rw [her k hk]; omega)
            unfold twoErr coErr
            rw [if_pos HX.out.2.2.2.2.2.2.2.2, h]
            unfold cmErr
            rw [if_pos HX.out.2.2.2.2.2.2.2.2]
            have h2 := HE.out.2.2.2.2.2.2.2.2.1
            unfold twoErr cmErr at h2
            rw [if_pos HX.out.2.2.2.2.2.2.2.2] at h2
            split at h2
            · rename_i h3; rw [if_pos h3]
            · rename_i h3; exact absurd h2 h3
          have happ : ∀ k, k < m → ∀ X, Below y4.heap.size y4 X → ∀ (B g c : Nat), X.ownsRow B 51 3 (.slice (some ⟨g, 0, none⟩) (m - 1) c) (m - 1) (cellsOf (P.eraseIdx k)) → Calls Tryz.prog 11 #[.agg #[.slice fa S.length fc], .slice a5 L.length c5, .slice (some ⟨g, 0, none⟩) (m - 1) c] X fun e w' => ∃ xa xc, e = .returned (.tuple #[.slice xa O.length xc, .int .i64 0]) ∧ NumsAt w' (.slice xa O.length xc) (doOps S L (P.eraseIdx k)) ∧ Below X.heap.size X w' := fun k hk X hX B g c hr => by
            have hXo := HA4.out.trans (hX.mono HA4.out.size)
            have hops : OpsAt X (.slice (some ⟨g, 0, none⟩) (m - 1) c) (P.eraseIdx k) := ops_of_own (by rw [her k hk]; exact hr)
            refine (apply_any S L (P.eraseIdx k) hSz hLz (by rw [her k hk]; omega) X _ _ _ (HN.out.1.later hXo) (HN.out.2.1.later hXo) hops).mono ?_
            rintro e w' ⟨hs, hw⟩
            unfold ApplySaid at hs
            rcases hs with ⟨hx, -⟩ | ⟨-, xv, rfl, hxw⟩
            · exact absurd (hoe2 k hk) hx
            have hxn := hxw.nums
            obtain ⟨xa, xc, rfl, -, -⟩ := id hxn
            have hlen : (doOps S L (P.eraseIdx k)).length = O.length := by rw [doOps_len, HX.out.2.2.2.2.1]
            rw [hlen] at hxn ⊢
            exact ⟨xa, xc, rfl, hxn, hw⟩
          have hdif : ∀ k, k < m → ∀ X, Below y4.heap.size y4 X → ∀ x, NumsAt X x (doOps S L (P.eraseIdx k)) → Calls Tryz.prog 13 #[x, .slice a6 O.length c6] X fun e w' => e = .returned (.bool false) ∧ Below X.heap.size X w' := fun k hk X hX x hx => by
            have hlen : (doOps S L (P.eraseIdx k)).length = O.length := by rw [doOps_len, HX.out.2.2.2.2.1]
            have hXo := HA4.out.trans (hX.mono HA4.out.size)
            exact eqInts_diff _ O (by rw [hlen]; exact hOz) hlen (by rw [hlen]; exact HX.out.2.2.2.2.2.1) (hdo k hk) X _ _ hx (HN.out.2.2.later hXo)
          have HL := Lib.hid (⟨hclo, hdel, happ, hdif⟩ : _ ∧ _ ∧ _ ∧ _)
          clear hclo hdel happ hdif her hcut hdo hoe2
          go_wp2_with fail
          go_loopw [51] (fun ix wr => ∃ k : Nat, k ≤ m ∧ ix = .int .i64 (k : Int) ∧ Below y4.heap.size y4 wr) (fun ix _ => m - (intOf ix).toNat)
          case atStart => exact ⟨0, by omega, rfl, Below.refl _ _⟩
          case round =>
            obtain ⟨k, hk, rfl, hB⟩ := hrel
            have gf := (hB.cell (p := ⟨w1.heap.size, 0, none⟩) hb4).trans g4'
            by_cases hlt : k < m
            · obtain ⟨hclo, hdel, happ, hdif⟩ := HL.out
              have hclo := hclo (by omega)
              have hlt' : (k : Int) < (m : Int) := by omega
              have k0 : (0 : Int) ≤ (k : Int) := by omega
              go_upto_region 12 with (fail)
              refine wp_region_held_drew (S := (fun W' => W'.cell? ⟨w1.heap.size, 0, none⟩ = some (.slice fa S.length fc))) (by kernel_rfl) (by first | exact gf | exact gz1 | exact gz2 | exact gz3) (fun hHeld => ?_)
              refine wpAnyH_take (i := 0) (v := ?_) rfl (by kernel_rfl) (by kernel_rfl) (by kernel_rfl) (fun _ _ _ h => h) (Or.inl ⟨by rfl, ?_⟩) (by assumption) ?_
              rotate_left
              focus (intro w hSw; (try dsimp only at hSw); go_simp; first | done | with_reducible rfl)
              go_simp
              refine wpAnyH_take (i := 1) (v := ?_) rfl (by kernel_rfl) (by kernel_rfl) (by kernel_rfl) (fun _ _ _ h => h) (Or.inl ⟨by rfl, ?_⟩) (by assumption) ?_
              rotate_left
              focus (intro w hSw; (try dsimp only at hSw); go_simp; first | done | with_reducible rfl)
              go_simp
              refine wpAnyH_take (i := 2) (v := ?_) rfl (by kernel_rfl) (by kernel_rfl) (by kernel_rfl) (fun _ _ _ h => h) (Or.inl ⟨by rfl, ?_⟩) (by assumption) ?_
              rotate_left
              focus (intro w hSw; (try dsimp only at hSw); go_simp; first | done | with_reducible rfl)
              go_simp
              refine wpAnyH_take (i := 4) (v := ?_) rfl (by kernel_rfl) (by kernel_rfl) (by kernel_rfl) (fun _ _ _ h => h) (Or.inl ⟨by rfl, ?_⟩) (by assumption) ?_
              rotate_left
              focus (intro w hSw; (try dsimp only at hSw); go_simp; first | done | with_reducible rfl)
              go_simp
              refine wpAnyH_take (i := 5) (v := ?_) rfl (by kernel_rfl) (by kernel_rfl) (by kernel_rfl) (fun _ _ _ h => h) (Or.inl ⟨by rfl, ?_⟩) (by assumption) ?_
              rotate_left
              focus (intro w hSw; (try dsimp only at hSw); go_simp; first | done | with_reducible rfl)
              go_simp
              refine wpAnyH_take (i := 6) (v := ?_) rfl (by kernel_rfl) (by kernel_rfl) (by kernel_rfl) (fun _ _ _ h => h) (Or.inl ⟨by rfl, ?_⟩) (by assumption) ?_
              rotate_left
              focus (intro w hSw; (try dsimp only at hSw); go_simp; first | done | with_reducible rfl)
              go_simp
              refine wpAnyH_ready (rs := [3]) (by kernel_rfl) (by simp) (AllReadyH.cons rfl (fun K hK => ?_) AllReadyH.nil)
              go_simp
              go_at_call 17
              refine (hclo wr.drew hB.drew).mono ?_
              rintro e z1 ⟨gc, cc, rfl, hrow1, hz1⟩
              have hB1 : Below y4.heap.size y4 z1 := (hB.drew).trans (hz1.mono hB.size)
              have gz1 := (hB1.cell (p := ⟨w1.heap.size, 0, none⟩) hb4).trans g4'
              refine hK.out _ _ ?_ (fun hHeld => ?_)
              focus (first | exact gf | exact gz1 | exact gz2 | exact gz3)
              clear hK K
              go_simp
              refine wpAnyH_ready (rs := [7]) (by kernel_rfl) (by simp) (AllReadyH.cons rfl (fun K hK => ?_) AllReadyH.nil)
              go_simp
              go_at_call 16
              refine (hdel k hlt _ z1 gc cc hrow1).mono ?_
              rintro e z2 ⟨rfl, hrow2, hz2⟩
              have hB2 : Below y4.heap.size y4 z2 := hB1.trans (hz2.mono hB.size)
              have gz2 := (hB2.cell (p := ⟨w1.heap.size, 0, none⟩) hb4).trans g4'
              refine hK.out _ _ ?_ (fun hHeld => ?_)
              focus (first | exact gf | exact gz1 | exact gz2 | exact gz3)
              clear hK K
              go_simp
              refine wpAnyH_ready (rs := [8]) (by kernel_rfl) (by simp) (AllReadyH.cons rfl (fun K hK => ?_) AllReadyH.nil)
              go_simp
              go_at_call 11
              refine (happ k hlt z2 hB2 _ _ _ hrow2).mono ?_
              rintro e z3 ⟨xa, xc, rfl, hxn, hz3⟩
              have hB3 : Below y4.heap.size y4 z3 := hB2.trans (hz3.mono hB2.size)
              have gz3 := (hB3.cell (p := ⟨w1.heap.size, 0, none⟩) hb4).trans g4'
              refine hK.out _ _ ?_ (fun hHeld => ?_)
              focus (first | exact gf | exact gz1 | exact gz2 | exact gz3)
              clear hK K
              go_simp
              refine wpAnyH_take (i := 9) (v := ?_) rfl (by kernel_rfl) (by kernel_rfl) (by kernel_rfl) (fun _ _ _ h => h) (Or.inl ⟨by rfl, ?_⟩) (by assumption) ?_
              rotate_left
              focus (intro w hSw; (try dsimp only at hSw); go_simp; first | done | with_reducible rfl)
              go_simp
              refine wpAnyH_take (i := 10) (v := ?_) rfl (by kernel_rfl) (by kernel_rfl) (by kernel_rfl) (fun _ _ _ h => h) (Or.inl ⟨by rfl, ?_⟩) (by assumption) ?_
              rotate_left
              focus (intro w hSw; (try dsimp only at hSw); go_simp; first | done | with_reducible rfl)
              go_simp
              refine wpAnyH_take (i := 11) (v := ?_) rfl (by kernel_rfl) (by kernel_rfl) (by kernel_rfl) (fun _ _ _ h => h) (Or.inl ⟨by rfl, ?_⟩) (by assumption) ?_
              rotate_left
              focus (intro w hSw; (try dsimp only at hSw); go_simp; first | done | with_reducible rfl)
              go_simp
              refine wpAnyH_take (i := 12) (v := ?_) rfl (by kernel_rfl) (by kernel_rfl) (by kernel_rfl) (fun _ _ _ h => h) (Or.inl ⟨by rfl, ?_⟩) (by assumption) ?_
              rotate_left
              focus (intro w hSw; (try dsimp only at hSw); go_simp; first | done | with_reducible rfl)
              go_simp
              refine wpAnyH_take (i := 13) (v := ?_) rfl (by kernel_rfl) (by kernel_rfl) (by kernel_rfl) (fun _ _ _ h => h) (Or.inl ⟨by rfl, ?_⟩) (by assumption) ?_
              rotate_left
              focus (intro w hSw; (try dsimp only at hSw); go_simp; first | done | with_reducible rfl)
              go_simp
              refine wpAnyH_done (by kernel_rfl) ?_ _
              have hq5 := hdif k hlt z3 hB3 _ hxn
              have HB3 := Lib.hid hB3
              clear hB hB1 hB2 hB3 hrow1 hrow2 hz1 hz2 hz3 hxn hclo hdel happ hdif gf gz1 gz2 gz3
              go_wp2_with fail
              refine hq5.mono ?_
              rintro e z4 ⟨rfl, hz4⟩
              have HB4 := Lib.hid (HB3.out.trans (hz4.mono HB3.out.size))
              clear hq5 hz4
              go_wp2_with fail
              go_roundw
              case rel => exact ⟨k + 1, by omega, by go_num, HB4.out⟩
              case measure => simp [intOf]; omega
            · obtain rfl : k = m := by omega
              have hXo := HA4.out.trans (hB.mono HA4.out.size)
              have hw0 := wear_any S P HX.out.2.2.2.2.2.2.1 (by rw [HP.out.1]; exact HX.out.2.2.2.2.2.2.2.1) (by omega) wr _ _ (HN.out.1.later hXo) (HP.out.2.1.later hB)
              have HXo := Lib.hid hXo
              have HBk := Lib.hid hB
              clear hXo hB
              go_wp2_with fail
              refine hw0.mono ?_
              rintro e z1 ⟨x, rfl, hx, hz⟩
              have gf1 := (hz.cell (p := ⟨w1.heap.size, 0, none⟩) (World.block_lt_of_cell? wr _ gf)).trans gf
              have hwz := HX.out.2.2.2.1
              rw [← HP.out.1] at hwz
              have hwlen : (wearL S P P.length).length = S.length := by simp [wearL]
              have hg0 := contGt_any (wearL S P P.length) (by rw [hwlen]; exact hSz) hwz z1 x hx
              obtain ⟨xa, xc, rfl, -, -⟩ := id hx
              rw [hwlen] at hg0 ⊢
              have HZ1 := Lib.hid (HXo.out.trans (hz.mono HXo.out.size))
              clear hz hx hwz hwlen hw0 gf
              go_wp2_with fail
              refine hg0.mono ?_
              rintro e z2 ⟨rfl, hz⟩
              have HZ2 := Lib.hid (HZ1.out.trans (hz.mono HZ1.out.size))
              have hrk := HR.out.1 z2 HZ2.out
              clear hz hg0
              go_wp2_with fail
              refine hrk.mono ?_
              rintro e z3 ⟨rfl, hz⟩
              have HZ := Lib.hid (HR.out.2.trans ((HZ2.out.trans (hz.mono HZ2.out.size)).mono HR.out.2.size))
              clear hrk hz
              go_wp2_with fail
              go_ret
              exact ⟨rfl, HZ.out⟩
        · have n3 : (I2 != 0) = true := by rw [bne_iff_ne]; exact hJ0
          clear hJ0 hI0
          go_wp2_with fail
          refine hq1.mono ?_
          rintro e y1 ⟨rfl, hy⟩
          have HA1 := Lib.hid hy
          have g1' := (hy.cell (p := ⟨w1.heap.size, 0, none⟩) hbl).trans gb
          clear hq1 hy gb
          have hq2 := HC.out.2.2.2.2.2.1 y1 HA1.out
          go_wp2_with fail
          refine hq2.mono ?_
          rintro e y2 ⟨rfl, hy⟩
          have hA := HA1.out.trans (hy.mono HA1.out.size)
          have g2' := (hy.cell (p := ⟨w1.heap.size, 0, none⟩) (World.block_lt_of_cell? y1 ⟨w1.heap.size, 0, none⟩ g1')).trans g1'
          have HA2 := Lib.hid hA
          clear hq2 hy hA g1'
          have hq3 := HC.out.2.2.2.2.2.2 y2 HA2.out
          go_wp2_with fail
          refine hq3.mono ?_
          rintro e y3 ⟨rfl, hy⟩
          have hA := HA2.out.trans (hy.mono HA2.out.size)
          have g3' := (hy.cell (p := ⟨w1.heap.size, 0, none⟩) (World.block_lt_of_cell? y2 ⟨w1.heap.size, 0, none⟩ g2')).trans g2'
          have HA3 := Lib.hid hA
          clear hq3 hy hA g2'
          have hrk := HR.out.1 y3 HA3.out
          go_wp2_with fail
          refine hrk.mono ?_
          rintro e y4 ⟨rfl, hy⟩
          have HZ := Lib.hid (HR.out.2.trans ((HA3.out.trans (hy.mono HA3.out.size)).mono HR.out.2.size))
          clear hrk hy
          go_wp2_with fail
          go_ret
          exact ⟨rfl, HZ.out⟩
      · have n2 : (I1 != 0) = true := by rw [bne_iff_ne]; exact hI0
        clear hI0
        go_wp2_with fail
        refine hq1.mono ?_
        rintro e y1 ⟨rfl, hy⟩
        have HA1 := Lib.hid hy
        have g1' := (hy.cell (p := ⟨w1.heap.size, 0, none⟩) hbl).trans gb
        clear hq1 hy gb
        have hq2 := HC.out.2.2.2.2.2.1 y1 HA1.out
        go_wp2_with fail
        refine hq2.mono ?_
        rintro e y2 ⟨rfl, hy⟩
        have hA := HA1.out.trans (hy.mono HA1.out.size)
        have g2' := (hy.cell (p := ⟨w1.heap.size, 0, none⟩) (World.block_lt_of_cell? y1 ⟨w1.heap.size, 0, none⟩ g1')).trans g1'
        have HA2 := Lib.hid hA
        clear hq2 hy hA g1'
        have hrk := HR.out.1 y2 HA2.out
        go_wp2_with fail
        refine hrk.mono ?_
        rintro e y3 ⟨rfl, hy⟩
        have HZ := Lib.hid (HR.out.2.trans ((HA2.out.trans (hy.mono HA2.out.size)).mono HR.out.2.size))
        clear hrk hy
        go_wp2_with fail
        go_ret
        exact ⟨rfl, HZ.out⟩
    · have n1 : (F != 0) = true := by rw [bne_iff_ne]; exact hF0
      clear hF hF0
      go_wp2_with fail
      refine hq1.mono ?_
      rintro e y1 ⟨rfl, hy⟩
      have HA1 := Lib.hid hy
      have g1' := (hy.cell (p := ⟨w1.heap.size, 0, none⟩) hbl).trans gb
      clear hq1 hy gb
      have hrk := HR.out.1 y1 HA1.out
      go_wp2_with fail
      refine hrk.mono ?_
      rintro e y2 ⟨rfl, hy⟩
      have HZ := Lib.hid (HR.out.2.trans ((HA1.out.trans (hy.mono HA1.out.size)).mono HR.out.2.size))
      clear hrk hy
      go_wp2_with fail
      go_ret
      exact ⟨rfl, HZ.out⟩
end Go.Proofs.YtfoocnhfppjbbaaGreatDoor
