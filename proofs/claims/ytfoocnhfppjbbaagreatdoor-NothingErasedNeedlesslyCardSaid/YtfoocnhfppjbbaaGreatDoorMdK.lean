/- Package flash: the driver of one cycle. Made by gens/mdk.py. -/
import Derived.Test.YtfoocnhfppjbbaaGreatDoorM16
namespace Go.Proofs.YtfoocnhfppjbbaaGreatDoor
open Go.RowKit

theorem Drv.nilOf {M R gW b p m e gp ge nW cW : Nat} {vS : Value} {S W : List Int} {w : World} (h : DrvM M R gW p m e gp ge nW cW vS S W w) (hb : w.cell? ⟨b, 0, none⟩ = some (.slice none 0 0)) (fz : w.frozen? ⟨b, 0, none⟩ = false) : Drv M R gW b p m e gp ge nW cW vS S [] (.slice none 0 0) W w := ⟨h, hb, fz, COwn.nil _ _⟩
/-- What the driver of a cycle answers and leaves. -/
def DrvSaid (M R gW b p m e gp ge nW cW : Nat) (vS : Value) (S : List Int) (vb : Value) (r : List Cyc × List Int × Bool) (w : World) (E : Ending) (w' : World) : Prop :=
  E = .returned (.bool r.2.2) ∧ ∃ vb', Drv M R gW b p m e gp ge nW cW vS S r.1 vb' r.2.1 w' ∧ (∀ k, vb'.ownBlock = some k → vb.ownBlock = some k ∨ w.heap.size ≤ k) ∧ Kept gW b vb w w' ∧ Below M w w'
theorem DrvSaid.intro {M R gW b p m e gp ge nW cW : Nat} {vS : Value} {S : List Int} {vb : Value} {r : List Cyc × List Int × Bool} {w w' : World} {t : Bool} (ht : r.2.2 = t) (vb' : Value) (hD : Drv M R gW b p m e gp ge nW cW vS S r.1 vb' r.2.1 w') (ho : ∀ k, vb'.ownBlock = some k → vb.ownBlock = some k ∨ w.heap.size ≤ k) (hK : Kept gW b vb w w') (hB : Below M w w') :
    DrvSaid M R gW b p m e gp ge nW cW vS S vb r w (.returned (.bool t)) w' := ⟨by rw [ht], vb', hD, ho, hK, hB⟩
set_option maxHeartbeats 1200000 in
set_option maxRecDepth 100000 in
theorem driver1_any (M R gW b p m e gp ge nW cW : Nat) (vS : Value) (S : List Int) (row : List Cyc) (vb : Value) (W : List Int) (hS : FlashRight S) (hL : (W.length : Int) = sumS S) (hok : WordsOk W) (hLay : DLay M R gW b p m e gp ge vS) (x d : Int) (hx : 0 ≤ x ∧ x ≤ 65535) (hd : 0 ≤ d ∧ d ≤ 65535) (hrow : row.length ≤ 5)
    (w : World) (h : Drv M R gW b p m e gp ge nW cW vS S row vb W w) :
    Calls Tryz.prog 58 #[.agg #[.int .i64 x, .int .i64 d], .pointer (some ⟨b, 0, none⟩), .pointer (some ⟨p, 0, none⟩), .pointer (some ⟨m, 0, none⟩), .pointer (some ⟨e, 0, none⟩)] w (DrvSaid M R gW b p m e gp ge nW cW vS S vb (stepC S row W (x, d)) w) := by
  obtain ⟨i0, hi, hz0, hz1, hz2⟩ := info_parts Tryz.infoCyc
  have hund : Tryz.prog.underlying 39 = some (.slice 83) := by kernel_rfl
  obtain ⟨hmem, hb0, hfz0, hown0⟩ := h
  have hsz := hmem.sz
  have hMR : M ≤ R := by have := hLay.lgW; omega
  have hbR : b < R := hLay.lb.2.1
  have hbw : b < w.heap.size := by omega
  have hpw : p < w.heap.size := by have := hLay.lp.1; omega
  have hpb : ¬ p = b := hLay.lp.2.2
  have hp0 := hmem.hp
  obtain ⟨V1, hV1⟩ : ∃ X : World, X = w.setCell ⟨b, 0, none⟩ (.slice none 0 0) := ⟨_, rfl⟩
  have hv1 : V1.heap.size = w.heap.size := by rw [hV1]; simp
  have hm1 : DrvM M R gW p m e gp ge nW cW vS S W V1 := by rw [hV1]; exact hmem.setB hLay _
  have b1 : V1.cell? ⟨b, 0, none⟩ = some (.slice none 0 0) := by rw [hV1]; exact World.cell?_setCell_same _ _ _ hb0
  have z1 : V1.frozen? ⟨b, 0, none⟩ = false := by rw [hV1]; exact (World.frozen?_setCell _ _ _ _).trans hfz0
  have hown1 : COwn R V1 vb row := by
    refine row_heap (w := w) hown0 fun g hg hl => ?_
    rw [hV1, Below.heap_setCell _ _ _ _ (show g ≠ b by omega)]
  have hK1 : Kept gW b vb w V1 := by rw [hV1]; exact Kept.setB _ _
  have hB1 : Below M w V1 := by rw [hV1]; exact (Below.refl _ _).setCell (p := ⟨b, 0, none⟩) hLay.lb.1 _
  have hpv : (w.setCell ⟨b, 0, none⟩ (.slice none 0 0)).cell? ⟨p, 0, none⟩ = some (.slice (some ⟨gp, 0, none⟩) 3 3) := by rw [← hV1]; exact hm1.hp
  obtain ⟨W2, hW2⟩ : ∃ X : World, X = V1.alloc (.cells #[.int .i64 x, .int .i64 d] 83) := ⟨_, rfl⟩
  have hA : Below V1.heap.size V1 W2 := by rw [hW2]; exact below_alloc _ _
  have hw2 : W2.heap.size = w.heap.size + 1 := by rw [hW2]; simp [hv1]
  have hmem2 := hm1.below hLay (hA.mono (by omega))
  have b2 := (hA.cell (p := ⟨b, 0, none⟩) (show b < _ by omega)).trans b1
  have z2 := (hA.frozen (p := ⟨b, 0, none⟩) (show b < _ by omega)).trans z1
  have g0 : W2.cell? ⟨w.heap.size, 0, none⟩ = some (.int .i64 x) := by rw [hW2, ← hv1]; exact cell_new1 V1 _ _ rfl
  have g1 : W2.cell? ⟨w.heap.size, 1, none⟩ = some (.int .i64 d) := by rw [hW2, ← hv1]; exact cell_new1 V1 _ _ rfl
  have hown2 := hown1.below hA
  have hK2 := hK1.trans (Kept.of_below hA)
  have hB2 := hB1.trans (hA.mono (by omega))
  have hW : W2 = (w.setCell ⟨b, 0, none⟩ (.slice none 0 0)).alloc (.cells #[.int .i64 x, .int .i64 d] 83) := by rw [hW2, hV1]
  have hq1 := fun (X : World) (hX : Below W2.heap.size W2 X) => eqCycs_any row progKey (by omega) (by decide) X vb _ (hown2.at.later hX) (hmem2.kp.later hX)
  have hq2 := fun (X : World) (hX : Below W2.heap.size W2 X) => eqCycs_any row eraseKey (by omega) (by decide) X vb _ (hown2.at.later hX) (hmem2.ke.later hX)
  obtain ⟨va, vc, rfl⟩ := hown2.form
  have HW := Lib.hid hW
  have HS := Lib.hid (⟨hS, hL, hok, hLay⟩ : _ ∧ _ ∧ _ ∧ _)
  have HM := Lib.hid (⟨hmem2, hown2, hK2, hB2, hMR⟩ : _ ∧ _ ∧ _ ∧ _ ∧ _)
  have hmemB := fun (X : World) (hX : Below W2.heap.size W2 X) => hmem2.below hLay (hX.mono hmem2.sz)
  have HX := Lib.hid hmemB
  have hbW2 : b < W2.heap.size := by omega
  have hsW2 : w.heap.size < W2.heap.size := by omega
  have hszm : M ≤ W2.heap.size := by omega
  clear hmemB hW hV1 hW2 hB1 hmem hmem2 hown0 hown1 hown2 hK1 hK2 hB2 hm1 hA hv1 b1 z1 hS hL hok hLay
  obtain ⟨r, hr⟩ : ∃ r, r = stepC S row W (x, d) := ⟨_, rfl⟩
  rw [← hr]
  unfold stepC at hr
  dsimp only at hr
  by_cases e1 : row = progKey
  · rw [if_pos e1] at hr
    rw [decide_eq_true e1] at hq1
    have hq := hq1 W2 (Below.refl _ _)
    have HR := Lib.hid hr
    clear hq1 hq2 hr e1
    generalize row.length = n at *
    go_enter Tryz.func58, Tryz.ntmps58
    go_wp2_with fail
    rw [← HW.out]
    refine hq.mono ?_
    rintro E w3 ⟨rfl, hB3⟩
    have m3 := HX.out w3 hB3
    have p0 := m3.m0
    have p1 := m3.m1
    have q0 := (hB3.cell (p := ⟨w.heap.size, 0, none⟩) hsW2).trans g0
    have q1 := (hB3.cell (p := ⟨w.heap.size, 1, none⟩) hsW2).trans g1
    have b3 := (hB3.cell (p := ⟨b, 0, none⟩) hbW2).trans b2
    have z3 := (hB3.frozen (p := ⟨b, 0, none⟩) hbW2).trans z2
    have hs3 := hB3.size
    clear hq b2 z2 hb0 hfz0 hpv hp0
    have ht := takesWord_any M W HS.out.2.2.1 x d hx.1 hd w3 vS _ m3.wo (by omega)
    have H3 := Lib.hid (⟨m3, b3, z3, HM.out.2.2.1.trans (Kept.of_below hB3), HM.out.2.2.2.1.trans (hB3.mono hszm)⟩ : _ ∧ _ ∧ _ ∧ _ ∧ _)
    clear m3 b3 z3 hB3
    go_wp2_with fail
    refine ht.mono ?_
    rintro E w4 ⟨rfl, h2, h3, h4⟩
    have hk := h4 gW nW cW rfl
    have hlay := HS.out.2.2.2
    have hs4 := hk.1
    have m4 := H3.out.1.kept (b := b) hlay hk.1 (fun k hk1 hg _ => hk.2 k hg (Nat.lt_of_lt_of_le hk1 H3.out.1.sz)) h2
    have hkb := hk.2 b hlay.lb.2.2 (by omega)
    have b4 := (World.cell?_of_block (a := ⟨b, 0, none⟩) hkb).trans H3.out.2.1
    have z4 := (World.frozen?_of_block (a := ⟨b, 0, none⟩) hkb).trans H3.out.2.2.1
    have HF := Lib.hid (⟨m4, b4, z4, H3.out.2.2.2.1.trans (Kept.of_keeps hk), H3.out.2.2.2.2.trans h3⟩ : _ ∧ _ ∧ _ ∧ _ ∧ _)
    clear ht h2 h3 h4 hk m4 b4 z4 hkb hlay
    go_wp2_with fail
    go_ret
    exact DrvSaid.intro (by rw [HR.out] <;> simp) (.slice none 0 0) (by rw [HR.out]; exact Drv.nilOf HF.out.1 HF.out.2.1 HF.out.2.2.1) (fun k hk => by cases hk) HF.out.2.2.2.1 HF.out.2.2.2.2
  · rw [if_neg e1] at hr
    rw [decide_eq_false e1] at hq1
    by_cases e2 : d = 240
    · rw [if_pos e2] at hr
      have hq := hq1 W2 (Below.refl _ _)
      have HR := Lib.hid hr
      clear hq1 hq2 hr e1
      subst e2
      generalize row.length = n at *
      go_enter Tryz.func58, Tryz.ntmps58
      go_wp2_with fail
      rw [← HW.out]
      refine hq.mono ?_
      rintro E w3 ⟨rfl, hB3⟩
      have m3 := HX.out w3 hB3
      have p0 := m3.m0
      have p1 := m3.m1
      have q0 := (hB3.cell (p := ⟨w.heap.size, 0, none⟩) hsW2).trans g0
      have q1 := (hB3.cell (p := ⟨w.heap.size, 1, none⟩) hsW2).trans g1
      have b3 := (hB3.cell (p := ⟨b, 0, none⟩) hbW2).trans b2
      have z3 := (hB3.frozen (p := ⟨b, 0, none⟩) hbW2).trans z2
      have hs3 := hB3.size
      clear hq b2 z2 hb0 hfz0 hpv hp0
      have H3 := Lib.hid (⟨m3, b3, z3, HM.out.2.2.1.trans (Kept.of_below hB3), HM.out.2.2.2.1.trans (hB3.mono hszm)⟩ : _ ∧ _ ∧ _ ∧ _ ∧ _)
      clear m3 b3 z3 hB3
      go_wp2_with fail
      go_ret
      exact DrvSaid.intro (by rw [HR.out]) (.slice none 0 0) (by rw [HR.out]; exact Drv.nilOf H3.out.1 H3.out.2.1 H3.out.2.2.1) (fun k hk => by cases hk) H3.out.2.2.2.1 H3.out.2.2.2.2
    · rw [if_neg e2] at hr
      have n2 : (d == 240) = false := by simpa using e2
      by_cases e3 : row = eraseKey
      · rw [if_pos e3] at hr
        rw [decide_eq_true e3] at hq2
        have hq := hq1 W2 (Below.refl _ _)
        have HR := Lib.hid hr
        have HQ2 := Lib.hid hq2
        clear hq1 hq2 hr e1 e2 e3
        generalize row.length = n at *
        go_enter Tryz.func58, Tryz.ntmps58
        go_wp2_with fail
        rw [← HW.out]
        refine hq.mono ?_
        rintro E w3 ⟨rfl, hB3⟩
        have m3 := HX.out w3 hB3
        have p0 := m3.m0
        have p1 := m3.m1
        have q0 := (hB3.cell (p := ⟨w.heap.size, 0, none⟩) hsW2).trans g0
        have q1 := (hB3.cell (p := ⟨w.heap.size, 1, none⟩) hsW2).trans g1
        have b3 := (hB3.cell (p := ⟨b, 0, none⟩) hbW2).trans b2
        have z3 := (hB3.frozen (p := ⟨b, 0, none⟩) hbW2).trans z2
        have hs3 := hB3.size
        clear hq b2 z2 hb0 hfz0 hpv hp0
        have hq2 := HQ2.out w3 hB3
        have e5 := m3.he
        have HB3 := Lib.hid hB3
        have HBZ := Lib.hid (⟨b3, z3⟩ : _ ∧ _)
        clear b3 z3 m3 hB3
        go_wp2_with fail
        refine hq2.mono ?_
        rintro E w9 ⟨rfl, hB9⟩
        have b3 := (hB9.cell (p := ⟨b, 0, none⟩) (show b < _ by omega)).trans HBZ.out.1
        have z3 := (hB9.frozen (p := ⟨b, 0, none⟩) (show b < _ by omega)).trans HBZ.out.2
        have hB3 := HB3.out.trans (hB9.mono HB3.out.size)
        have m3 := HX.out w9 hB3
        have p0 := m3.m0
        have p1 := m3.m1
        have q0 := (hB3.cell (p := ⟨w.heap.size, 0, none⟩) hsW2).trans g0
        have q1 := (hB3.cell (p := ⟨w.heap.size, 1, none⟩) hsW2).trans g1
        have hs9 := hB3.size
        have ht := takesErase_any M S W HS.out.1 HS.out.2.1 x d w9 vS _ m3.sp m3.wo (by omega)
        have H3 := Lib.hid (⟨m3, b3, z3, HM.out.2.2.1.trans (Kept.of_below hB3), HM.out.2.2.2.1.trans (hB3.mono hszm)⟩ : _ ∧ _ ∧ _ ∧ _ ∧ _)
        clear m3 b3 z3 hB3 hB9 hq2
        go_wp2_with fail
        refine ht.mono ?_
        rintro E w4 ⟨rfl, h2, h3, h4⟩
        have hk := h4 gW nW cW rfl
        have hlay := HS.out.2.2.2
        have hs4 := hk.1
        have m4 := H3.out.1.kept (b := b) hlay hk.1 (fun k hk1 hg _ => hk.2 k hg (Nat.lt_of_lt_of_le hk1 H3.out.1.sz)) h2
        have hkb := hk.2 b hlay.lb.2.2 (by omega)
        have b4 := (World.cell?_of_block (a := ⟨b, 0, none⟩) hkb).trans H3.out.2.1
        have z4 := (World.frozen?_of_block (a := ⟨b, 0, none⟩) hkb).trans H3.out.2.2.1
        have HF := Lib.hid (⟨m4, b4, z4, H3.out.2.2.2.1.trans (Kept.of_keeps hk), H3.out.2.2.2.2.trans h3⟩ : _ ∧ _ ∧ _ ∧ _ ∧ _)
        clear ht h2 h3 h4 hk m4 b4 z4 hkb hlay
        go_wp2_with fail
        go_ret
        exact DrvSaid.intro (by rw [HR.out] <;> simp) (.slice none 0 0) (by rw [HR.out]; exact Drv.nilOf HF.out.1 HF.out.2.1 HF.out.2.2.1) (fun k hk => by cases hk) HF.out.2.2.2.1 HF.out.2.2.2.2
      · rw [if_neg e3] at hr
        rw [decide_eq_false e3] at hq2
        have hq := hq1 W2 (Below.refl _ _)
        have HR := Lib.hid hr
        have HQ2 := Lib.hid hq2
        obtain ⟨P1, hP1⟩ : ∃ P, P = isPre (row ++ [(x, d)]) progKey := ⟨_, rfl⟩
        obtain ⟨P2, hP2⟩ : ∃ P, P = isPre (row ++ [(x, d)]) eraseKey := ⟨_, rfl⟩
        rw [← hP1, ← hP2] at HR
        have hi1 := fun (X : World) (v : Value) (hX : DrvM M R gW p m e gp ge nW cW vS S W X) (hv : CycsAt X v (row ++ [(x, d)])) => isStart_any (row ++ [(x, d)]) progKey (by rw [List.length_append]; simp; omega) (by decide) X v _ hv hX.kp
        have hi2 := fun (X : World) (v : Value) (hX : DrvM M R gW p m e gp ge nW cW vS S W X) (hv : CycsAt X v (row ++ [(x, d)])) => isStart_any (row ++ [(x, d)]) eraseKey (by rw [List.length_append]; simp; omega) (by decide) X v _ hv hX.ke
        rw [← hP1] at hi1
        rw [← hP2] at hi2
        have hpush := fun (X : World) (v : Value) (hv : X.ownsRow R 83 2 v (row.length + 1) (cellsC row ++ cellsC [(x, d)])) => COwn.push (C := row) (D := [(x, d)]) hv
        have hraw := fun (X : World) (hX : COwn R X (.slice va row.length vc) row) => (show X.ownsRow R 83 2 (.slice va row.length vc) row.length (cellsC row) from hX)
        have HI := Lib.hid (⟨hi1, hi2, hpush, hraw⟩ : _ ∧ _ ∧ _ ∧ _)
        clear hq1 hq2 hr e1 e2 e3 hi1 hi2 hpush hraw hP1 hP2
        generalize row.length = n at *
        go_enter Tryz.func58, Tryz.ntmps58
        go_wp2_with fail
        rw [← HW.out]
        refine hq.mono ?_
        rintro E w3 ⟨rfl, hB3⟩
        have m3 := HX.out w3 hB3
        have p0 := m3.m0
        have p1 := m3.m1
        have q0 := (hB3.cell (p := ⟨w.heap.size, 0, none⟩) hsW2).trans g0
        have q1 := (hB3.cell (p := ⟨w.heap.size, 1, none⟩) hsW2).trans g1
        have b3 := (hB3.cell (p := ⟨b, 0, none⟩) hbW2).trans b2
        have z3 := (hB3.frozen (p := ⟨b, 0, none⟩) hbW2).trans z2
        have hs3 := hB3.size
        clear hq b2 z2 hb0 hfz0 hpv hp0
        have hq2 := HQ2.out w3 hB3
        have e5 := m3.he
        have HB3 := Lib.hid hB3
        have HBZ := Lib.hid (⟨b3, z3⟩ : _ ∧ _)
        clear b3 z3 m3 hB3
        go_wp2_with fail
        refine hq2.mono ?_
        rintro E w9 ⟨rfl, hB9⟩
        have b9 := (hB9.cell (p := ⟨b, 0, none⟩) (show b < _ by omega)).trans HBZ.out.1
        have z9 := (hB9.frozen (p := ⟨b, 0, none⟩) (show b < _ by omega)).trans HBZ.out.2
        have hB3 := HB3.out.trans (hB9.mono HB3.out.size)
        have m9 := HX.out w9 hB3
        have q0 := (hB3.cell (p := ⟨w.heap.size, 0, none⟩) hsW2).trans g0
        have q1 := (hB3.cell (p := ⟨w.heap.size, 1, none⟩) hsW2).trans g1
        have hs9 := hB3.size
        have own9 := HI.out.2.2.2 w9 (HM.out.2.1.below hB3)
        have H9 := Lib.hid (⟨m9, b9, z9, HM.out.2.2.1.trans (Kept.of_below hB3), HM.out.2.2.2.1.trans (hB3.mono hszm)⟩ : _ ∧ _ ∧ _ ∧ _ ∧ _)
        clear m9 b9 z9 hB3 hB9 hq2
        go_wp2_with (at_builtin; refine wpList_append_lies _ rfl _ _ 39 rfl R 83 i0 (.agg #[.int .i64 0, .int .i64 0]) 2 16 hund hi hz0 hz1 hz2 rfl (by decide) _ _ _ rfl (World.ownsRow.alloc own9 _) ⟨w9.heap.size, 0, none⟩ 1 1 (cellsC [(x, d)]) rfl rfl (cells_list w9 (cellsC [(x, d)]) _) (cellsC_one _) (by decide) (by unfold maxLen; omega) (by omega) (by simp; omega) _ rfl ?_)
        intro g5 cap5 w5 hown5 hg5 hat5 hlt5
        have hlay := HS.out.2.2.2
        have hBR : Below R w9 w5 := ((Below.refl R w9).alloc (by omega) _).grown hg5 (by simp; omega) (fun j hj => (own9.lt j hj).1)
        have m5 := H9.out.1.below hlay hBR
        have b5 := (hBR.cell (p := ⟨b, 0, none⟩) hbR).trans H9.out.2.1
        have z5 := (hBR.frozen (p := ⟨b, 0, none⟩) hbR).trans H9.out.2.2.1
        have n5 := HI.out.2.2.1 w5 _ hown5
        have k5 : Kept gW b (.slice va n vc) w9 w5 := ⟨hBR.size, fun k hk _ _ h3 => (hg5.block k (by simp; omega) h3).trans (Below.heap_alloc _ _ _ hk)⟩
        have o5 : ∀ k, (Value.slice (some ⟨g5, 0, none⟩) (n + 1) cap5).ownBlock = some k → (Value.slice va n vc).ownBlock = some k ∨ w.heap.size ≤ k := fun k hk => by
          have hk2 : g5 = k := by injection hk
          subst hk2
          rcases hat5 with h1 | h1
          · exact Or.inl h1
          · exact Or.inr (by first | omega | (simp at h1; omega))
        have q5 := m5.hp
        have r5 := m5.he
        have ha5 := HI.out.1 w5 _ m5 n5.at
        have hs5 := hBR.size
        have H5 := Lib.hid (⟨m5, b5, z5, n5, H9.out.2.2.2.1.trans k5, H9.out.2.2.2.2.trans (hBR.mono hMR), o5⟩ : _ ∧ _ ∧ _ ∧ _ ∧ _ ∧ _ ∧ _)
        clear hown5 hg5 hat5 hBR m5 b5 z5 n5 k5 o5 own9
        go_wp2_with fail
        refine ha5.mono ?_
        rintro E w6 ⟨rfl, hB6⟩
        have hs6 := hB6.size
        have m6 := H5.out.1.below hlay (hB6.mono (by omega))
        have b6 := (hB6.cell (p := ⟨b, 0, none⟩) (show b < _ by omega)).trans H5.out.2.1
        have z6 := (hB6.frozen (p := ⟨b, 0, none⟩) (show b < _ by omega)).trans H5.out.2.2.1
        have n6 := H5.out.2.2.2.1.below hB6
        have H6 := Lib.hid (⟨m6, b6, z6, n6, H5.out.2.2.2.2.1.trans (Kept.of_below hB6), H5.out.2.2.2.2.2.1.trans (hB6.mono (by omega))⟩ : _ ∧ _ ∧ _ ∧ _ ∧ _ ∧ _)
        have r6 := m6.he
        have ha6 := HI.out.2.1 w6 _ m6 n6.at
        cases P1 with
        | true =>
          clear m6 n6 hB6 ha5 ha6
          go_wp2_with fail
          go_ret
          exact DrvSaid.intro (by rw [HR.out, if_pos (by simp)]) (.slice (some ⟨g5, 0, none⟩) (n + 1) cap5) (by rw [HR.out, if_pos (by simp)]; exact ⟨H6.out.1.setB hlay _, World.cell?_setCell_same _ _ _ H6.out.2.1, (World.frozen?_setCell _ _ _ _).trans H6.out.2.2.1, row_heap H6.out.2.2.2.1 fun g hg _ => Below.heap_setCell _ _ _ _ (show g ≠ b by omega)⟩) H5.out.2.2.2.2.2.2 (H6.out.2.2.2.2.1.trans (Kept.setB _ _)) (H6.out.2.2.2.2.2.setCell (p := ⟨b, 0, none⟩) hlay.lb.1 _)
        | false =>
          clear m6 b6 z6 n6 hB6 ha5
          go_wp2_with fail
          refine ha6.mono ?_
          rintro E w7 ⟨rfl, hB7⟩
          have hs7 := hB7.size
          have m7 := H6.out.1.below hlay (hB7.mono (by omega))
          have b7 := (hB7.cell (p := ⟨b, 0, none⟩) (show b < _ by omega)).trans H6.out.2.1
          have z7 := (hB7.frozen (p := ⟨b, 0, none⟩) (show b < _ by omega)).trans H6.out.2.2.1
          have n7 := H6.out.2.2.2.1.below hB7
          have H7 := Lib.hid (⟨m7, b7, z7, n7, H6.out.2.2.2.2.1.trans (Kept.of_below hB7), H6.out.2.2.2.2.2.trans (hB7.mono (by omega))⟩ : _ ∧ _ ∧ _ ∧ _ ∧ _ ∧ _)
          clear m7 n7 hB7 ha6
          cases P2 with
          | true =>
            go_wp2_with fail
            go_ret
            exact DrvSaid.intro (by rw [HR.out, if_pos (by simp)]) (.slice (some ⟨g5, 0, none⟩) (n + 1) cap5) (by rw [HR.out, if_pos (by simp)]; exact ⟨H7.out.1.setB hlay _, World.cell?_setCell_same _ _ _ H7.out.2.1, (World.frozen?_setCell _ _ _ _).trans H7.out.2.2.1, row_heap H7.out.2.2.2.1 fun g hg _ => Below.heap_setCell _ _ _ _ (show g ≠ b by omega)⟩) H5.out.2.2.2.2.2.2 (H7.out.2.2.2.2.1.trans (Kept.setB _ _)) (H7.out.2.2.2.2.2.setCell (p := ⟨b, 0, none⟩) hlay.lb.1 _)
          | false =>
            clear b7 z7
            go_wp2_with fail
            go_ret
            exact DrvSaid.intro (by rw [HR.out, if_neg (by simp)]) (.slice none 0 0) (by rw [HR.out, if_neg (by simp)]; exact Drv.nilOf H7.out.1 H7.out.2.1 H7.out.2.2.1) (fun k hk => by cases hk) H7.out.2.2.2.2.1 H7.out.2.2.2.2.2
end Go.Proofs.YtfoocnhfppjbbaaGreatDoor
