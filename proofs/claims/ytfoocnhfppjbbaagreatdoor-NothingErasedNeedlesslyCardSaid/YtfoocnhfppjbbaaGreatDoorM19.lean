/- Package flash, plain: the cycles of a plan are right, none of them is ignored, and they make what its operations make. -/
import Derived.Test.YtfoocnhfppjbbaaGreatDoorPaA
import Derived.Test.YtfoocnhfppjbbaaGreatDoorM18
import Derived.Test.YtfoocnhfppjbbaaGreatDoorMcZ
import Derived.Deep.RegionHeld
namespace Go.Proofs.YtfoocnhfppjbbaaGreatDoor
open Go.RowKit

theorem drvTo_next (S W : List Int) (C : List Cyc) (k : Nat) (c : Cyc) (r r2 : List Cyc) (V V2 : List Int) (hc : C.getD k (0, 0) = c) (h : drvTo S W C k = (r, V, [])) (hs : stepC S r V c = (r2, V2, true)) : drvTo S W C (k + 1) = (r2, V2, []) := by
  show ((stepC S (drvTo S W C k).1 (drvTo S W C k).2.1 (C.getD k (0, 0))).1, (stepC S (drvTo S W C k).1 (drvTo S W C k).2.1 (C.getD k (0, 0))).2.1, if (stepC S (drvTo S W C k).1 (drvTo S W C k).2.1 (C.getD k (0, 0))).2.2 = true then (drvTo S W C k).2.2 else (drvTo S W C k).2.2 ++ [(k : Int)]) = _
  rw [hc, h]
  dsimp only
  rw [hs]
  simp
theorem stepC_word (S V : List Int) (a v : Int) (ha : a < (V.length : Int)) : stepC S progKey V (a, v) = ([], V.set a.toNat (((V.getD a.toNat 0).toNat &&& v.toNat : Nat) : Int), true) := by
  unfold stepC
  rw [if_pos rfl]
  dsimp only
  unfold wordTo
  rw [if_pos ha, decide_eq_true ha]
theorem stepC_erase (S V : List Int) (a : Int) (k : Nat) (h : secI S a = (k : Int)) : stepC S eraseKey V (a, 48) = ([], onesTo V (preS S k) (preS S (k + 1)), true) := by
  unfold stepC
  rw [if_neg (show ¬ eraseKey = progKey by decide), if_neg (show ¬ (48 : Int) = 240 by decide), if_pos rfl]
  dsimp only
  unfold eraseTo
  rw [h, if_pos ⟨by omega, rfl⟩, decide_eq_true ⟨by omega, rfl⟩, Int.toNat_natCast]
theorem stepC_go (S V : List Int) (r : List Cyc) (c : Cyc) (h1 : decide (r = progKey) = false) (h2 : decide (c.2 = 240) = false) (h3 : decide (r = eraseKey) = false) (h4 : (isPre (r ++ [c]) progKey || isPre (r ++ [c]) eraseKey) = true) : stepC S r V c = (r ++ [c], V, true) := by
  unfold stepC
  rw [if_neg (of_decide_eq_false h1), if_neg (of_decide_eq_false h2), if_neg (of_decide_eq_false h3), if_pos h4]
theorem drv_prog (S W : List Int) (C : List Cyc) (k : Nat) (V : List Int) (a v : Int) (ha : a < (V.length : Int)) (h : drvTo S W C k = ([], V, [])) (hC : ∀ i, i < 4 → C.getD (k + i) (0, 0) = (progKey ++ [(a, v)]).getD i (0, 0)) :
    drvTo S W C (k + 4) = ([], V.set a.toNat (((V.getD a.toNat 0).toNat &&& v.toNat : Nat) : Int), []) := by
  have s0 := drvTo_next S W C k _ _ [(1365, 170)] V V (hC 0 (by decide)) h (stepC_go S V [] (1365, 170) (by decide) (by decide) (by decide) (by decide))
  have s1 := drvTo_next S W C (k + 1) _ _ [(1365, 170), (682, 85)] V V (hC 1 (by decide)) s0 (stepC_go S V [(1365, 170)] (682, 85) (by decide) (by decide) (by decide) (by decide))
  have s2 := drvTo_next S W C (k + 2) _ _ progKey V V (hC 2 (by decide)) s1 (stepC_go S V [(1365, 170), (682, 85)] (1365, 160) (by decide) (by decide) (by decide) (by decide))
  exact drvTo_next S W C (k + 3) (a, v) _ _ V _ (hC 3 (by decide)) s2 (stepC_word S V a v ha)
theorem drv_erase (S W : List Int) (C : List Cyc) (k : Nat) (V : List Int) (a : Int) (j : Nat) (ha : secI S a = (j : Int)) (h : drvTo S W C k = ([], V, [])) (hC : ∀ i, i < 6 → C.getD (k + i) (0, 0) = (eraseKey ++ [(a, 48)]).getD i (0, 0)) :
    drvTo S W C (k + 6) = ([], onesTo V (preS S j) (preS S (j + 1)), []) := by
  have s0 := drvTo_next S W C k _ _ [(1365, 170)] V V (hC 0 (by decide)) h (stepC_go S V [] (1365, 170) (by decide) (by decide) (by decide) (by decide))
  have s1 := drvTo_next S W C (k + 1) _ _ [(1365, 170), (682, 85)] V V (hC 1 (by decide)) s0 (stepC_go S V [(1365, 170)] (682, 85) (by decide) (by decide) (by decide) (by decide))
  have s2 := drvTo_next S W C (k + 2) _ _ [(1365, 170), (682, 85), (1365, 128)] V V (hC 2 (by decide)) s1 (stepC_go S V [(1365, 170), (682, 85)] (1365, 128) (by decide) (by decide) (by decide) (by decide))
  have s3 := drvTo_next S W C (k + 3) _ _ [(1365, 170), (682, 85), (1365, 128), (1365, 170)] V V (hC 3 (by decide)) s2 (stepC_go S V [(1365, 170), (682, 85), (1365, 128)] (1365, 170) (by decide) (by decide) (by decide) (by decide))
  have s4 := drvTo_next S W C (k + 4) _ _ eraseKey V V (hC 4 (by decide)) s3 (stepC_go S V [(1365, 170), (682, 85), (1365, 128), (1365, 170)] (682, 85) (by decide) (by decide) (by decide) (by decide))
  exact drvTo_next S W C (k + 5) (a, 48) _ _ V _ (hC 5 (by decide)) s4 (stepC_erase S V a j ha)
theorem getD_mid {α : Type} (A B D : List α) (d : α) (i : Nat) (hi : i < B.length) : (A ++ (B ++ D)).getD (A.length + i) d = B.getD i d := by
  rw [List.getD_eq_getElem?_getD, List.getElem?_append_right (by omega), Nat.add_sub_cancel_left, List.getElem?_append_left hi, List.getD_eq_getElem?_getD]
theorem secI_first {S : List Int} (hS : FlashRight S) (k : Nat) (hk : k < S.length) : secI S (preS S k) = (k : Int) := by
  refine secI_is hS hk ?_
  have h := hS.low k hk
  unfold isAt
  simp only [Bool.and_eq_true, decide_eq_true_eq]
  refine ⟨Int.le_refl _, ?_⟩
  show _ < preS S k + S.getD k 0
  omega
/-- The cycles of right operations do what these do, and none is ignored. -/
theorem drv_ops (S : List Int) (hS : FlashRight S) (W : List Int) (hW : (W.length : Int) = sumS S) : ∀ (B A : List Opn), (∀ o ∈ B, opErr (S.length : Int) (sumS S) o = 0) →
    drvTo S W (cycL S (A ++ B)) (cycL S A).length = ([], doOps S W A, []) → drvTo S W (cycL S (A ++ B)) (cycL S (A ++ B)).length = ([], doOps S W (A ++ B), [])
  | [], A, _, h => by rw [List.append_nil] at h ⊢; exact h
  | o :: B, A, hB, h => by
    have ho := hB o (by simp)
    have e1 : A ++ o :: B = (A ++ [o]) ++ B := by simp
    have e2 : cycL S (A ++ o :: B) = cycL S A ++ (cycOf S o ++ cycL S B) := by unfold cycL; rw [List.flatMap_append, List.flatMap_cons]
    have e3 : (cycL S (A ++ [o])).length = (cycL S A).length + (cycOf S o).length := by unfold cycL; rw [List.flatMap_append, List.length_append]; simp
    have e4 : doOps S W (A ++ [o]) = doOp S (doOps S W A) o := by rw [doOps_app]; rfl
    have hl := doOps_len S A W
    have hC : ∀ i, i < (cycOf S o).length → (cycL S (A ++ o :: B)).getD ((cycL S A).length + i) (0, 0) = (cycOf S o).getD i (0, 0) := fun i hi => by rw [e2, getD_mid _ _ _ _ _ hi]
    have hstep : drvTo S W (cycL S (A ++ o :: B)) (cycL S (A ++ [o])).length = ([], doOps S W (A ++ [o]), []) := by
      obtain ⟨k, a, v⟩ := o
      by_cases hk : k = 1
      · subst hk
        obtain ⟨a0, a1⟩ := opErr_erase ho
        have ec : cycOf S (1, a, v) = eraseKey ++ [(preS S a.toNat, 48)] := by unfold cycOf; rw [if_pos rfl]
        have hsec := secI_first hS a.toNat (by omega)
        rw [e3, e4, ec, doOp_erase]
        rw [ec] at hC
        exact drv_erase S W _ _ _ _ a.toNat hsec h hC
      · obtain ⟨k2, a0, a1, v0, v1⟩ := opErr_program hk ho
        have ec : cycOf S (k, a, v) = progKey ++ [(a, v)] := by unfold cycOf; rw [if_neg hk]
        rw [e3, e4, ec, doOp_program _ _ _ _ _ hk]
        rw [ec] at hC
        exact drv_prog S W _ _ _ a v (by omega) h hC
    rw [e1] at hstep ⊢
    exact drv_ops S hS W hW B (A ++ [o]) (fun o' h' => hB o' (by simp [h'])) hstep
theorem drv_plan (S N T : List Int) (hS : FlashRight S) (hN : (N.length : Int) = sumS S) (hTl : (T.length : Int) = sumS S) (hT : WordsOk T) :
    drvTo S N (cycL S (planL S N T)) (cycL S (planL S N T)).length = ([], T, []) := by
  have h := drv_ops S hS N hN (planL S N T) [] (fun o ho => (planL_op S N T hS hN o ho).right hN hTl hT) rfl
  rw [List.nil_append, plan_arrives S N T hS hN hTl hT] at h
  exact h
theorem cycOf_ok (S : List Int) (hS : FlashRight S) (o : Opn) (ho : opErr (S.length : Int) (sumS S) o = 0) : (cycOf S o).all okCyc = true := by
  obtain ⟨k, a, v⟩ := o
  by_cases hk : k = 1
  · subst hk
    obtain ⟨a0, a1⟩ := opErr_erase ho
    have h1 := pre_le hS a.toNat (by omega)
    have h2 := preS_zero_le hS a.toNat (by omega)
    have h3 := hS.sum
    unfold cycOf
    rw [if_pos rfl, List.all_append]
    dsimp only
    rw [show eraseKey.all okCyc = true by decide]
    simp only [List.all_cons, List.all_nil, Bool.and_true, Bool.true_and]
    unfold okCyc inB
    simp
    omega
  · obtain ⟨k2, a0, a1, v0, v1⟩ := opErr_program hk ho
    have h3 := hS.sum
    unfold cycOf
    rw [if_neg hk, List.all_append]
    dsimp only
    rw [show progKey.all okCyc = true by decide]
    simp only [List.all_cons, List.all_nil, Bool.and_true, Bool.true_and]
    unfold okCyc inB
    simp
    omega
theorem cycErr_plan (S N T : List Int) (hS : FlashRight S) (hN : (N.length : Int) = sumS S) (hTl : (T.length : Int) = sumS S) (hT : WordsOk T) : (cycL S (planL S N T)).length ≤ 50000 ∧ cycErr (cycL S (planL S N T)) = 0 := by
  have h1 := cycL_len S (planL S N T)
  have h2 := planL_len S N T hS
  refine ⟨by omega, ?_⟩
  unfold cycErr
  rw [if_neg (by omega), if_pos]
  unfold cycL
  rw [List.all_flatMap]
  rw [List.all_eq_true]
  exact fun o ho => cycOf_ok S hS o ((planL_op S N T hS hN o ho).right hN hTl hT)
end Go.Proofs.YtfoocnhfppjbbaaGreatDoor
/- Package flash: Differ of words and themselves: no window. Made by gens/pac.py. -/
namespace Go.Proofs.YtfoocnhfppjbbaaGreatDoor
open Go.RowKit

set_option maxHeartbeats 1200000 in
set_option maxRecDepth 100000 in
theorem differSame_any (S L : List Int) (h0 : cmErr S L = 0) (hz : S.length ≤ 1000000) (hzL : L.length ≤ 1000000) (w : World) (v u t : Value) (h : NumsAt w v S) (hN : NumsAt w u L) (hT : NumsAt w t L) :
    Calls Tryz.prog 15 #[.agg #[v], u, t] w fun e w' => e = .returned (.tuple #[.slice none 0 0, .int .i64 0]) ∧ Below w.heap.size w w' := by
  have hci := fun X hB => checkImage_any S L hz hzL X v u (h.later hB) (hN.later hB)
  have hco := fun X hB => checkImage_any S L hz hzL X v t (h.later hB) (hT.later hB)
  obtain ⟨n, hn⟩ : ∃ n, n = S.length := ⟨_, rfl⟩
  obtain ⟨W1, hW1⟩ : ∃ W1 : World, W1 = w.alloc (.cells #[v] 27) := ⟨_, rfl⟩
  have hB1 : Below w.heap.size w W1 := by rw [hW1]; exact (Below.refl _ _).alloc (Nat.le_refl _) _
  have hc0 : W1.cell? ⟨w.heap.size, 0, none⟩ = some v := by rw [hW1]; simp
  have hl1 : w.heap.size < W1.heap.size := World.block_lt_of_cell? W1 ⟨w.heap.size, 0, none⟩ hc0
  obtain ⟨a, c, rfl, -, -⟩ := h
  obtain ⟨a2, c2, rfl, hca2, hop2⟩ := hN
  obtain ⟨a3, c3, rfl, hca3, hop3⟩ := hT
  rw [h0] at hci hco
  obtain ⟨E1, hE1⟩ : ∃ E1 : Int, E1 = 0 := ⟨_, rfl⟩
  obtain ⟨E2, hE2⟩ : ∃ E2 : Int, E2 = 0 := ⟨_, rfl⟩
  obtain ⟨m, hm⟩ : ∃ m, m = L.length := ⟨_, rfl⟩
  rw [← hm] at hop2 hop3 hzL hci hco ⊢
  rw [← hE1] at hci
  rw [← hE2] at hco
  have hcm := fun b X h0 h1 => cmpOr_any E1 E2 b X h0 h1
  rw [show (if E1 = 0 then E2 else E1) = 0 from by rw [hE1, hE2]; rfl] at hcm
  rw [← hn] at hci hco hc0 hW1
  rw [← hn]
  have HW := Lib.hid hW1
  have HP := Lib.hid (⟨hop2, hop3⟩ : _ ∧ _)
  have hBd : Below w.heap.size w W1.drew := hB1.drew
  clear hW1 hB1 hop2 hop3 hn hE1 hE2 hm h0
  go_enter Tryz.func15, Tryz.ntmps15
  go_wp2_with fail
  rw [← HW.out]
  refine wp_region_held_drew (S := (fun W' => W'.cell? ⟨w.heap.size, 0, none⟩ = some (.slice a n c))) (by kernel_rfl) (by first | exact hc0 | exact g1 | exact g2 | (rw [World.cell?_alloc_lt _ _ _ (by assumption)]; exact g2)) (fun hHeld => ?_)
  refine wpAnyH_take (i := 0) (v := ?_) rfl (by kernel_rfl) (by kernel_rfl) (by kernel_rfl) (fun _ _ _ h => h) (Or.inl ⟨by rfl, ?_⟩) (by assumption) ?_
  rotate_left
  focus (intro w hSw; (try dsimp only at hSw); go_simp; first | done | with_reducible rfl)
  go_simp
  refine wpAnyH_take (i := 1) (v := ?_) rfl (by kernel_rfl) (by kernel_rfl) (by kernel_rfl) (fun _ _ _ h => h) (Or.inl ⟨by rfl, ?_⟩) (by assumption) ?_
  rotate_left
  focus (intro w hSw; (try dsimp only at hSw); go_simp; first | done | with_reducible rfl)
  go_simp
  refine wpAnyH_take (i := 3) (v := ?_) rfl (by kernel_rfl) (by kernel_rfl) (by kernel_rfl) (fun _ _ _ h => h) (Or.inl ⟨by rfl, ?_⟩) (by assumption) ?_
  rotate_left
  focus (intro w hSw; (try dsimp only at hSw); go_simp; first | done | with_reducible rfl)
  go_simp
  refine wpAnyH_take (i := 4) (v := ?_) rfl (by kernel_rfl) (by kernel_rfl) (by kernel_rfl) (fun _ _ _ h => h) (Or.inl ⟨by rfl, ?_⟩) (by assumption) ?_
  rotate_left
  focus (intro w hSw; (try dsimp only at hSw); go_simp; first | done | with_reducible rfl)
  go_simp
  refine wpAnyH_ready (rs := [2]) (by kernel_rfl) (by simp) (AllReadyH.cons rfl (fun K hK => ?_) AllReadyH.nil)
  go_simp
  go_at_call 31
  refine (hci _ hBd).mono ?_
  rintro e w2 ⟨rfl, hB2⟩
  have g1 := (hB2.cell (p := ⟨w.heap.size, 0, none⟩) hl1).trans hc0
  have hl2 : w.heap.size < w2.heap.size := Nat.lt_of_lt_of_le hl1 hB2.size
  have hB2' := hBd.trans (hB2.mono hBd.size)
  clear hB2
  refine hK.out _ _ ?_ (fun hHeld => ?_)
  focus (first | exact hc0 | exact g1 | exact g2 | (rw [World.cell?_alloc_lt _ _ _ (by assumption)]; exact g2))
  clear hK K
  go_simp
  refine wpAnyH_ready (rs := [5]) (by kernel_rfl) (by simp) (AllReadyH.cons rfl (fun K hK => ?_) AllReadyH.nil)
  go_simp
  go_at_call 31
  refine (hco _ hB2').mono ?_
  rintro e w3 ⟨rfl, hB3⟩
  have g2 := (hB3.cell (p := ⟨w.heap.size, 0, none⟩) hl2).trans g1
  have hl3 : w.heap.size < w3.heap.size := Nat.lt_of_lt_of_le hl2 hB3.size
  have hB3' := hB2'.trans (hB3.mono hB2'.size)
  clear hB3
  refine hK.out _ _ ?_ (fun hHeld => ?_)
  focus (first | exact hc0 | exact g1 | exact g2 | (rw [World.cell?_alloc_lt _ _ _ (by assumption)]; exact g2))
  clear hK K
  go_simp
  refine wpAnyH_ready (rs := [6]) (by kernel_rfl) (by simp) (AllReadyH.cons rfl (fun K hK => ?_) AllReadyH.nil)
  go_simp
  refine hK.out _ _ ?_ (fun hHeld => ?_)
  focus (first | exact hc0 | exact g1 | exact g2 | (rw [World.cell?_alloc_lt _ _ _ (by assumption)]; exact g2))
  clear hK K
  go_simp
  refine wpAnyH_ready (rs := [7]) (by kernel_rfl) (by simp) (AllReadyH.cons rfl (fun K hK => ?_) AllReadyH.nil)
  go_simp
  go_at_call 30
  refine (hcm _ _ (cell_new1 _ _ _ rfl) (cell_new1 _ _ _ rfl)).mono ?_
  rintro e w5 ⟨rfl, rfl⟩
  refine hK.out _ _ ?_ (fun hHeld => ?_)
  focus (first | exact hc0 | exact g1 | exact g2 | (rw [World.cell?_alloc_lt _ _ _ (by assumption)]; exact g2))
  clear hK K
  go_simp
  refine wpAnyH_take (i := 8) (v := ?_) rfl (by kernel_rfl) (by kernel_rfl) (by kernel_rfl) (fun _ _ _ h => h) (Or.inl ⟨by rfl, ?_⟩) (by assumption) ?_
  rotate_left
  focus (intro w hSw; (try dsimp only at hSw); go_simp; first | done | with_reducible rfl)
  go_simp
  refine wpAnyH_done (by kernel_rfl) ?_ _
  have HE3 := Lib.hid (hB3'.alloc hB3'.size (.cells #[.int .i64 E1, .int .i64 E2] 30))
  have g4 : (w3.alloc (.cells #[.int .i64 E1, .int .i64 E2] 30)).cell? ⟨w.heap.size, 0, none⟩ = some (.slice a n c) := by rw [World.cell?_alloc_lt _ _ _ (by assumption)]; exact g2
  clear hB3' hB2' g1 g2 hBd
  clear hci hco hcm hc0
  obtain ⟨W5, hW5⟩ : ∃ W5, W5 = w3.alloc (.cells #[.int .i64 E1, .int .i64 E2] 30) := ⟨_, rfl⟩
  rw [← hW5] at HE3 g4 ⊢
  clear hW5
  go_wp2_with fail
  go_loopw [9, 25] (fun x i wr => ∃ k : Nat, k ≤ m ∧ i = .int .i64 (k : Int) ∧ x = .slice none 0 0 ∧ Below w.heap.size w wr) (fun _ i _ => m - (intOf i).toNat)
  case atStart => exact ⟨0, by omega, rfl, rfl, HE3.out⟩
  case round =>
    obtain ⟨k, hk, rfl, rfl, hB⟩ := hrel
    by_cases hlt : k < m
    · obtain ⟨g, o, rfl, hg, hcell⟩ := HP.out.1 (by omega)
      obtain ⟨g2, o2, rfl, hg2, hcell2⟩ := HP.out.2 (by omega)
      have d1 := (hB.cell (p := ⟨g, o + k, none⟩) hg).trans (hcell k hlt)
      have d2 := (hB.cell (p := ⟨g2, o2 + k, none⟩) hg2).trans (hcell2 k hlt)
      obtain ⟨y, hy⟩ : ∃ y, y = L.getD k 0 := ⟨_, rfl⟩
      rw [← hy] at d1 d2
      have k0 : (0 : Int) ≤ (k : Int) := by omega
      have k1 : (k : Int) < (m : Int) := by omega
      have HB := Lib.hid hB
      clear hB hcell hcell2 hy
      go_wp2_with fail
      go_quiet (fail)
      go_wp2_with fail
      go_roundw
      case rel => exact ⟨k + 1, by omega, by go_num, rfl, HB.out.trans ((drewN_below _ _).mono HB.out.size)⟩
      case measure => simp [intOf]; omega
    · obtain rfl : k = m := by omega
      have HB := Lib.hid hB
      clear hB
      go_wp2_with fail
      go_ret2
      exact ⟨rfl, HB.out⟩
end Go.Proofs.YtfoocnhfppjbbaaGreatDoor
