/- Package flash: Plan. Made by gens/mcz.py. -/
import Derived.Test.YtfoocnhfppjbbaaGreatDoorMcY
import Derived.Deep.RegionHeld3
namespace Go.Proofs.YtfoocnhfppjbbaaGreatDoor
open Go.RowKit

/-- What Plan answers: the operations, or none and an error. -/
def PlanSaid (S N T : List Int) (e : Ending) (w' : World) : Prop :=
  (twoErr (cmErr S N) (cmErr S T) ≠ 0 ∧ e = .returned (.tuple #[.slice none 0 0, .int .i64 (twoErr (cmErr S N) (cmErr S T))])) ∨
  (twoErr (cmErr S N) (cmErr S T) = 0 ∧ ∃ x, e = .returned (.tuple #[x, .int .i64 0]) ∧ OpsAt w' x (planL S N T))
theorem cellsOf_at : ∀ (O : List Opn) (j : Nat), j < O.length → (cellsOf O)[j * 3]? = some (.int .i64 (O.getD j (0, 0, 0)).1) ∧ (cellsOf O)[j * 3 + 1]? = some (.int .i64 (O.getD j (0, 0, 0)).2.1) ∧ (cellsOf O)[j * 3 + 2]? = some (.int .i64 (O.getD j (0, 0, 0)).2.2)
  | [], j, h => by simp at h
  | o :: O, 0, _ => ⟨rfl, rfl, rfl⟩
  | o :: O, j + 1, h => by
    have h1 := cellsOf_at O j (by simpa using h)
    have e : cellsOf (o :: O) = .int .i64 o.1 :: .int .i64 o.2.1 :: .int .i64 o.2.2 :: cellsOf O := rfl
    rw [e, show (j + 1) * 3 = j * 3 + 1 + 1 + 1 by omega]
    simpa using h1
theorem ops_of_owns {w : World} {B : Nat} {v : Value} {O : List Opn} (h : w.ownsRow B 51 3 v O.length (cellsOf O)) : OpsAt w v O := by
  obtain ⟨hl, h⟩ := h
  rcases h with ⟨hv, h⟩ | ⟨g, cap, cur, hv, hg, hh, hnc, hcm, hcs, ht⟩
  · exact ⟨none, 0, by rw [hv, h], by omega, fun h0 => by omega⟩
  · have hgl : g < w.heap.size := by
      by_cases e : g < w.heap.size
      · exact e
      · rw [Array.getElem?_eq_none (by omega)] at hh
        cases hh
    have hcell : ∀ i u, i < O.length * 3 → (cellsOf O)[i]? = some u → w.cell? ⟨g, i, none⟩ = some u := by
      intro i u hi hu
      rw [← ht, List.getElem?_take_of_lt hi] at hu
      have h2 : cur[i]? = some u := by simpa using hu
      unfold World.cell?
      simp only [hh]
      simp [h2]
    refine ⟨_, cap, hv, hnc, fun _ => ⟨g, 0, rfl, hgl, fun j hj => ?_⟩⟩
    obtain ⟨h1, h2, h3⟩ := cellsOf_at O j hj
    simp only [Nat.zero_add]
    exact ⟨hcell _ _ (by omega) h1, hcell _ _ (by omega) h2, hcell _ _ (by omega) h3⟩
theorem NumsAt.sub {w : World} {g o n c : Nat} {L : List Int} {p q : Nat} (hn : n = L.length) (h : NumsAt w (.slice (some ⟨g, o, none⟩) n c) L) (hpq : p < q) (hq : q ≤ n) : NumsAt w (.slice (some ⟨g, o + p, none⟩) (q - p) (c - p)) (subL L p q) := by
  obtain ⟨a', c', h1, h2, h3⟩ := h
  injection h1 with x1 x2 x3
  obtain ⟨g', o', h4, h5, h6⟩ := h3 (by omega)
  rw [← x1] at h4
  injection h4 with h4
  injection h4 with h4 h7
  subst h4
  subst h7
  refine ⟨_, _, by rw [subL_len (by omega)], by rw [subL_len (by omega)]; omega, fun _ => ⟨g, o + p, rfl, h5, fun j hj => ?_⟩⟩
  rw [subL_len (by omega)] at hj
  rw [subL_at hj, Nat.add_assoc]
  exact h6 (p + j) (by omega)
theorem PlanSt.any {S W : List Int} {O : List Opn} {M g len cy b bs : Nat} {x : Value} {w : World} (h : PlanSt S W O M g len cy b bs x w) : PlanSt S W O M g len cy b b x w := by
  obtain ⟨h1, h2, h3, h4, a, n, c, h5, h6, h7, h8⟩ := h
  refine ⟨h1, h2, h3, h4, a, n, c, h5, h6, h7, fun hh => ?_⟩
  have := (h7.lt _ hh).1
  omega
theorem opErr_erases {S : List Int} {k : Nat} (hk : k < S.length) (y : Int) : opErr (S.length : Int) y (1, (k : Int), 0) = 0 := by
  rw [opErr_one]
  unfold inB
  rw [decide_eq_true (show (0 : Int) ≤ (k : Int) by omega), decide_eq_true (show (k : Int) ≤ (S.length : Int) - 1 by omega)]
  rfl
theorem opErr_programs {x y a v : Int} (h : 0 ≤ a ∧ a < y) (hv : 0 ≤ v ∧ v ≤ 65535) : opErr x y (2, a, v) = 0 := by
  rw [opErr_two]
  unfold inB
  rw [decide_eq_true h.1, decide_eq_true (show a ≤ y - 1 by omega), decide_eq_true hv.1, decide_eq_true hv.2]
  rfl
theorem planIn_same {S T : List Int} {st : List Int × List Opn} {a : Nat} (h : st.1.getD a 0 = T.getD a 0) : planIn S T st a = st := by
  unfold planIn
  rw [if_pos h]
theorem planIn_turn {S T : List Int} {st : List Int × List Opn} {a : Nat} (h : st.1.getD a 0 ≠ T.getD a 0) : planIn S T st a = (doOp S st.1 (2, (a : Int), T.getD a 0), st.2 ++ [(2, (a : Int), T.getD a 0)]) := by
  unfold planIn
  rw [if_neg h]
theorem planRun_next {S T : List Int} {st : List Int × List Opn} {P A : Nat} (h : P ≤ A) : planRun S T st P (A + 1 - P) = planIn S T (planRun S T st P (A - P)) A := by
  have e : A + 1 - P = (A - P) + 1 := by omega
  rw [e]
  show planIn S T (planRun S T st P (A - P)) (P + (A - P)) = _
  rw [show P + (A - P) = A by omega]
set_option maxHeartbeats 1600000 in
set_option maxRecDepth 100000 in
theorem plan_any (S N T : List Int) (hz : S.length ≤ 1000000) (hzN : N.length ≤ 1000000) (hzT : T.length ≤ 1000000) (w : World) (v u t : Value) (h : NumsAt w v S) (hN : NumsAt w u N) (hT : NumsAt w t T) :
    Calls Tryz.prog 10 #[.agg #[v], u, t] w fun e w' => PlanSaid S N T e w' ∧ Below w.heap.size w w' := by
  have hci := fun X hB => checkImage_any S N hz hzN X v u (h.later hB) (hN.later hB)
  have hco := fun X hB => checkImage_any S T hz hzT X v t (h.later hB) (hT.later hB)
  have hmo := fun hS h0 X hB => memoryOf_any S N hS h0 hzN X v u (h.later hB) (hN.later hB)
  have hok := twoErr_ok (x := cmErr S N) (y := cmErr S T)
  have hNw := fun X hB => hN.later (w' := X) hB
  have hTw := fun X hB => hT.later (w' := X) hB
  obtain ⟨n, hn⟩ : ∃ n, n = S.length := ⟨_, rfl⟩
  obtain ⟨W1, hW1⟩ : ∃ W1 : World, W1 = w.alloc (.cells #[v] 27) := ⟨_, rfl⟩
  have hB1 : Below w.heap.size w W1 := by rw [hW1]; exact (Below.refl _ _).alloc (Nat.le_refl _) _
  have hc0 : W1.cell? ⟨w.heap.size, 0, none⟩ = some v := by rw [hW1]; simp
  have hl1 : w.heap.size < W1.heap.size := World.block_lt_of_cell? W1 ⟨w.heap.size, 0, none⟩ hc0
  obtain ⟨a, c, rfl, -, -⟩ := h
  obtain ⟨a2, c2, rfl, hca2, hop2⟩ := hN
  obtain ⟨a3, c3, rfl, hca3, hop3⟩ := hT
  unfold PlanSaid
  obtain ⟨E1, hE1⟩ : ∃ E1, E1 = cmErr S N := ⟨_, rfl⟩
  obtain ⟨E2, hE2⟩ : ∃ E2, E2 = cmErr S T := ⟨_, rfl⟩
  have hok1 := fun e => cmErr_ok (S := S) (W := N) e
  have hok2 := fun e => cmErr_ok (S := S) (W := T) e
  rw [← hE1] at hci hok hok1
  rw [← hE2] at hco hok hok2
  rw [← hE1, ← hE2]
  have hcm := fun b X h0 h1 => cmpOr_any E1 E2 b X h0 h1
  obtain ⟨R, hR⟩ : ∃ R, R = twoErr E1 E2 := ⟨_, rfl⟩
  rw [show (if E1 = 0 then E2 else E1) = R from hR.symm] at hcm
  rw [← hR] at hok ⊢
  rw [← hn] at hci hco hc0 hW1 hmo
  rw [← hn]
  have HW := Lib.hid hW1
  have HP := Lib.hid (⟨hmo, hok, hok1, hok2, hop2, hop3, hNw, hTw, hn⟩ : _ ∧ _ ∧ _ ∧ _ ∧ _ ∧ _ ∧ _ ∧ _ ∧ _)
  have hBd : Below w.heap.size w W1.drew := hB1.drew
  clear hW1 hB1 hmo hok hok1 hok2 hop2 hop3 hNw hTw hn hE1 hE2 hR
  go_enter Tryz.func10, Tryz.ntmps10
  go_wp2_with fail
  rw [← HW.out]
  refine wp_region_held_drew (S := (fun W' => W'.cell? ⟨w.heap.size, 0, none⟩ = some (.slice a n c))) (by kernel_rfl) (by first | exact hc0 | exact g1 | exact g2 | (rw [World.cell?_alloc_lt _ _ _ (by assumption)]; exact g2)) (fun hHeld => ?_)
  refine wpAnyH_take (i := 0) (v := ?_) rfl (by kernel_rfl) (by kernel_rfl) (by kernel_rfl) (fun _ _ _ h => h) (Or.inl ⟨by rfl, ?_⟩) (by assumption) ?_
  rotate_left
  focus (intro w hSw; (try dsimp only at hSw); go_simp; first | done | with_reducible rfl)
  go_simp
  refine wpAnyH_take (i := 1) (v := ?_) rfl (by kernel_rfl) (by kernel_rfl) (by kernel_rfl) (fun _ _ _ h => h) (Or.inl ⟨by rfl, ?_⟩) (by assumption) ?_
  rotate_left
  focus (intro w hSw; (try dsimp only at hSw); go_simp; first | done | with_reducible rfl)
  go_simp
  refine wpAnyH_take (i := 3) (v := ?_) rfl (by kernel_rfl) (by kernel_rfl) (by kernel_rfl) (fun _ _ _ h => h) (Or.inl ⟨by rfl, ?_⟩) (by assumption) ?_
  rotate_left
  focus (intro w hSw; (try dsimp only at hSw); go_simp; first | done | with_reducible rfl)
  go_simp
  refine wpAnyH_take (i := 4) (v := ?_) rfl (by kernel_rfl) (by kernel_rfl) (by kernel_rfl) (fun _ _ _ h => h) (Or.inl ⟨by rfl, ?_⟩) (by assumption) ?_
  rotate_left
  focus (intro w hSw; (try dsimp only at hSw); go_simp; first | done | with_reducible rfl)
  go_simp
  refine wpAnyH_ready (rs := [2]) (by kernel_rfl) (by simp) (AllReadyH.cons rfl (fun K hK => ?_) AllReadyH.nil)
  go_simp
  go_at_call 31
  refine (hci _ hBd).mono ?_
  rintro e w2 ⟨rfl, hB2⟩
  have g1 := (hB2.cell (p := ⟨w.heap.size, 0, none⟩) hl1).trans hc0
  have hl2 : w.heap.size < w2.heap.size := Nat.lt_of_lt_of_le hl1 hB2.size
  have hB2' := hBd.trans (hB2.mono hBd.size)
  clear hB2
  refine hK.out _ _ ?_ (fun hHeld => ?_)
  focus (first | exact hc0 | exact g1 | exact g2 | (rw [World.cell?_alloc_lt _ _ _ (by assumption)]; exact g2))
  clear hK K
  go_simp
  refine wpAnyH_ready (rs := [5]) (by kernel_rfl) (by simp) (AllReadyH.cons rfl (fun K hK => ?_) AllReadyH.nil)
  go_simp
  go_at_call 31
  refine (hco _ hB2').mono ?_
  rintro e w3 ⟨rfl, hB3⟩
  have g2 := (hB3.cell (p := ⟨w.heap.size, 0, none⟩) hl2).trans g1
  have hl3 : w.heap.size < w3.heap.size := Nat.lt_of_lt_of_le hl2 hB3.size
  have hB3' := hB2'.trans (hB3.mono hB2'.size)
  clear hB3
  refine hK.out _ _ ?_ (fun hHeld => ?_)
  focus (first | exact hc0 | exact g1 | exact g2 | (rw [World.cell?_alloc_lt _ _ _ (by assumption)]; exact g2))
  clear hK K
  go_simp
  refine wpAnyH_ready (rs := [6]) (by kernel_rfl) (by simp) (AllReadyH.cons rfl (fun K hK => ?_) AllReadyH.nil)
  go_simp
  refine hK.out _ _ ?_ (fun hHeld => ?_)
  focus (first | exact hc0 | exact g1 | exact g2 | (rw [World.cell?_alloc_lt _ _ _ (by assumption)]; exact g2))
  clear hK K
  go_simp
  refine wpAnyH_ready (rs := [7]) (by kernel_rfl) (by simp) (AllReadyH.cons rfl (fun K hK => ?_) AllReadyH.nil)
  go_simp
  go_at_call 30
  refine (hcm _ _ (cell_new1 _ _ _ rfl) (cell_new1 _ _ _ rfl)).mono ?_
  rintro e w5 ⟨rfl, rfl⟩
  refine hK.out _ _ ?_ (fun hHeld => ?_)
  focus (first | exact hc0 | exact g1 | exact g2 | (rw [World.cell?_alloc_lt _ _ _ (by assumption)]; exact g2))
  clear hK K
  go_simp
  refine wpAnyH_take (i := 8) (v := ?_) rfl (by kernel_rfl) (by kernel_rfl) (by kernel_rfl) (fun _ _ _ h => h) (Or.inl ⟨by rfl, ?_⟩) (by assumption) ?_
  rotate_left
  focus (intro w hSw; (try dsimp only at hSw); go_simp; first | done | with_reducible rfl)
  go_simp
  refine wpAnyH_done (by kernel_rfl) ?_ _
  have HE3 := Lib.hid (hB3'.alloc hB3'.size (.cells #[.int .i64 E1, .int .i64 E2] 30))
  have g4 : (w3.alloc (.cells #[.int .i64 E1, .int .i64 E2] 30)).cell? ⟨w.heap.size, 0, none⟩ = some (.slice a n c) := by rw [World.cell?_alloc_lt _ _ _ (by assumption)]; exact g2
  clear hB3' hB2' g1 g2 hBd
  clear hci hco hcm hc0
  obtain ⟨W5, hW5⟩ : ∃ W5, W5 = w3.alloc (.cells #[.int .i64 E1, .int .i64 E2] 30) := ⟨_, rfl⟩
  rw [← hW5] at HE3 g4 ⊢
  clear hW5
  by_cases h0 : R = 0
  · obtain ⟨hmo, hok, hok1, hok2, hop2, hop3, hNw, hTw, hn⟩ := HP.out
    obtain ⟨z1, z2⟩ := hok h0
    obtain ⟨hS, hLN, hNok⟩ := hok1 z1
    obtain ⟨-, hLT, hTok⟩ := hok2 z2
    have hsum := hS.sum
    have hl1' := hS.l1
    have hl2' := hS.l2
    have hlow := hS.low 0 hl1'
    have hmono := preS_mono hS.low S.length (Nat.le_refl _) 1 (by omega)
    have h1s : preS S 1 = S.getD 0 0 := Int.zero_add _
    rw [show preS S S.length = sumS S from rfl] at hmono
    have hwm : N.length ≤ 4096 := by omega
    have hTN : T.length = N.length := by omega
    obtain ⟨g2, o2, rfl, hg2, hcell2⟩ := hop2 (by omega)
    obtain ⟨g3, o3, rfl, hg3, hcell3⟩ := hop3 (by omega)
    have hq := hmo hS (by omega) W5 HE3.out
    have hn20 : n ≤ 20 := by omega
    subst h0
    have hcc2 : N.length ≤ c2 := hca2
    have hcc3 : T.length ≤ c3 := hca3
    have HS := Lib.hid (⟨hS, hLN, hNok, hTok, hTN, hNw, hTw, hn⟩ : _ ∧ _ ∧ _ ∧ _ ∧ _ ∧ _ ∧ _ ∧ _)
    have HG := Lib.hid (⟨hg2, hcell2, hg3, hcell3⟩ : _ ∧ _ ∧ _ ∧ _)
    clear hmo hok hok1 hok2 hn hS hLN hNok hTok hsum hl1' hl2' hlow hmono h1s z1 z2 hop2 hop3 hca2 hca3 hTN hNw hTw hg2 hg3 hcell2 hcell3 hLT
    go_wp2_with fail
    refine hq.mono ?_
    rintro e w6 ⟨x, y, M, rfl, hM1, hM2, hx, hxa, hxb, hy, hB6⟩
    obtain ⟨ax, cx, rfl, -, -⟩ := id hx
    obtain ⟨g, cy, rfl, -, hMg, hg6, -⟩ := id hy
    rw [← HS.out.2.2.2.2.2.2.2] at hx hxa hxb ⊢
    obtain ⟨W7, hW7⟩ : ∃ X : World, X = (w6.alloc (.cells #[.slice ax n cx, .slice (some ⟨g, 0, none⟩) N.length cy] 74)).alloc (.cells #[.slice none 0 0] 34) := ⟨_, rfl⟩
    have hB7 : Below w6.heap.size w6 W7 := by rw [hW7]; exact ((Below.refl _ _).alloc (Nat.le_refl _) _).alloc (by simp) _
    have e0 : W7.cell? ⟨w6.heap.size, 0, none⟩ = some (.slice ax n cx) := by rw [hW7]; simp
    have e1 : W7.cell? ⟨w6.heap.size, 1, none⟩ = some (.slice (some ⟨g, 0, none⟩) N.length cy) := by rw [hW7]; simp
    have e2 : W7.cell? ⟨w6.heap.size + 1, 0, none⟩ = some (.slice none 0 0) := by rw [hW7]; simp
    have e3 : W7.frozen? ⟨w6.heap.size + 1, 0, none⟩ = false := by rw [hW7]; simp
    have hst0 : PlanSt S (planTo S N T 0).1 (planTo S N T 0).2 M g N.length cy w6.heap.size w6.heap.size (.slice ax n cx) W7 := ⟨hx.later hB7, hy.later hB7, e0, e1, none, 0, 0, e2, e3, World.ownsRow_nil _ _ _ _, fun hh => by cases hh⟩
    have hxf : Behind M (.slice ax n cx) := hxb
    have HX := Lib.hid (⟨hst0, hxf, HE3.out.trans ((hB6.trans (hB7.mono hB6.size)).mono HE3.out.size), hMg⟩ : _ ∧ _ ∧ _ ∧ _)
    have HM := Lib.hid (Nat.le_trans HE3.out.size hM1)
    have HW7 := Lib.hid hW7
    have hgb : g < w6.heap.size := hg6
    have hwg : w.heap.size ≤ g := Nat.le_trans HM.out hMg
    obtain ⟨b, hb⟩ : ∃ b, b = w6.heap.size := ⟨_, rfl⟩
    clear hq hx hxa hxb hy hB6 hB7 hW7 hM1 hM2 hst0 hxf hg6 e2 e3
    go_wp2_with fail
    rw [← HW7.out]
    rw [← hb] at HX hgb e0 e1 ⊢
    clear hb HW7
    go_loopw [33] (fun i wr => ∃ k : Nat, k ≤ n ∧ i = .int .i64 (k : Int) ∧ PlanSt S (planTo S N T k).1 (planTo S N T k).2 M g N.length cy b b (.slice ax n cx) wr ∧ Below w.heap.size w wr) (fun i _ => n - (intOf i).toNat)
    case atStart => exact ⟨0, by omega, rfl, HX.out.1, HX.out.2.2.1⟩
    case round =>
      clear e0 e1
      obtain ⟨k, hk, rfl, hst, hB⟩ := hrel
      obtain ⟨wo, rfl⟩ : ∃ wo : World, wo = wr := ⟨_, rfl⟩
      by_cases hlt : k < n
      · have hS := HS.out.1
        have hkS : k < S.length := by rw [← HS.out.2.2.2.2.2.2.2]; exact hlt
        have hp0 := preS_mono hS.low k (by omega) 0 (by omega)
        rw [show preS S 0 = 0 from rfl] at hp0
        have hp1 := preS_mono hS.low (k + 1) (by omega) k (by omega)
        have hp2 := preS_mono hS.low S.length (Nat.le_refl _) (k + 1) (by omega)
        rw [show preS S S.length = sumS S from rfl, ← HS.out.2.1] at hp2
        have hplen := planTo_len S N T hS k (by omega)
        have hpk := hS.sum
        rw [← HS.out.2.1] at hpk
        obtain ⟨ax', cx', hsl, -, hops⟩ := id hst.spans
        injection hsl with x1 x2 x3
        subst x1
        obtain ⟨gs, ox, rfl, hgs, hcs⟩ := hops (by omega)
        obtain ⟨d1, d2⟩ := hcs k hkS
        obtain ⟨P, hP⟩ : ∃ P : Nat, preS S k = (P : Int) := ⟨(preS S k).toNat, by omega⟩
        obtain ⟨Q, hQ⟩ : ∃ Q : Nat, preS S (k + 1) = (Q : Int) := ⟨(preS S (k + 1)).toNat, by omega⟩
        rw [hP] at d1 hp0 hp1 hplen
        rw [hQ] at d2 hp1 hp2
        have hPQ : P < Q := by omega
        have hQN : Q ≤ N.length := by omega
        obtain ⟨st, hst1⟩ : ∃ st, st = planTo S N T k := ⟨_, rfl⟩
        have hnx : planTo S N T (k + 1) = planRun S T (planErase S N T st k P Q) P (Q - P) := by
          show planRun S T (planErase S N T (planTo S N T k) k (preS S k).toNat (preS S (k + 1)).toNat) (preS S k).toNat ((preS S (k + 1)).toNat - (preS S k).toNat) = _
          rw [hP, hQ, Int.toNat_natCast, Int.toNat_natCast, ← hst1]
        have hok1 := planTo_ok S N T HS.out.2.2.1 k
        rw [← hst1] at hst hplen hok1
        have hol := fun X (hX : Below w.heap.size w X) => onlyLowered_any (subL N P Q) (subL T P Q) (by rw [subL_len hQN, subL_len (by rw [HS.out.2.2.2.2.1]; exact hQN)]) (by rw [subL_len hQN]; omega) (fun j hj => by rw [subL_len hQN] at hj; rw [subL_at hj]; exact HS.out.2.2.1 (P + j) (by omega)) (fun j hj => by rw [subL_len (by rw [HS.out.2.2.2.2.1]; exact hQN)] at hj; rw [subL_at hj]; exact HS.out.2.2.2.1 (P + j) (by rw [HS.out.2.2.2.2.1]; omega)) X _ _ ((HS.out.2.2.2.2.2.1 X hX).sub rfl hPQ hQN) ((HS.out.2.2.2.2.2.2.1 X hX).sub rfl hPQ (by rw [HS.out.2.2.2.2.1]; exact hQN))
        obtain ⟨qb, hqb⟩ : ∃ qb, qb = lowL (subL N P Q) (subL T P Q) := ⟨_, rfl⟩
        rw [← hqb] at hol
        have HQB := Lib.hid hqb
        clear hqb
        have k0 : (0 : Int) ≤ (k : Int) := by omega
        have k1 : (k : Int) < (n : Int) := by omega
        obtain ⟨WA, hWA⟩ : ∃ X : World, X = wo.alloc (.cells #[.int .i64 (P : Int), .int .i64 (Q : Int)] 78) := ⟨_, rfl⟩
        have hBA : Below wo.heap.size wo WA := by rw [hWA]; exact (Below.refl _ _).alloc (Nat.le_refl _) _
        have hltA : wo.heap.size < WA.heap.size := by rw [hWA]; simp
        have f0 : WA.cell? ⟨wo.heap.size, 0, none⟩ = some (.int .i64 (P : Int)) := by rw [hWA]; simp
        have f1 : WA.cell? ⟨wo.heap.size, 1, none⟩ = some (.int .i64 (Q : Int)) := by rw [hWA]; simp
        have hstA := hst.fresh.later hBA
        have hbw : b < wo.heap.size := World.block_lt_of_cell? wo ⟨b, 0, none⟩ hst.m0
        have hb1w : b + 1 < wo.heap.size := by
          obtain ⟨-, -, -, -, a', n', c', h5, -⟩ := hst
          exact World.block_lt_of_cell? wo ⟨b + 1, 0, none⟩ h5
        have hBdA : Below w.heap.size w WA.drew := (hB.trans (hBA.mono hB.size)).drew
        have i0 : (0 : Int) ≤ (P : Int) := by omega
        have i1 : (P : Int) ≤ (Q : Int) := by omega
        have i2 : (Q : Int) ≤ (c2 : Int) := by omega
        have i3 : (Q : Int) ≤ (c3 : Int) := by have := HS.out.2.2.2.2.1; omega
        have i4 : ¬ c2 = P := by omega
        have i5 : ¬ c3 = P := by have := HS.out.2.2.2.2.1; omega
        have i6 : ¬ P = c2 := by omega
        have i7 : ¬ P = c3 := by have := HS.out.2.2.2.2.1; omega
        have HK := Lib.hid (⟨hstA, hnx, hplen, hok1, hkS, hBA.size⟩ : _ ∧ _ ∧ _ ∧ _ ∧ _ ∧ _)
        have HWA := Lib.hid hWA
        clear hstA hnx hplen hok1 hkS hst hB hBA hWA hS hp0 hp1 hp2 hpk hops hcs hP hQ hst1 x2 x3
        go_wp2_with fail
        rw [← HWA.out]
        refine wp_region_held_drew (S := (fun W' => W'.cell? ⟨wo.heap.size, 0, none⟩ = some (.int .i64 (P : Int)) ∧ W'.cell? ⟨wo.heap.size, 1, none⟩ = some (.int .i64 (Q : Int)))) (by kernel_rfl) (by first | exact ⟨f0, f1⟩ | exact ⟨q0, q1⟩) (fun hHeld => ?_)
        refine wpAnyH_take (i := 0) (v := ?_) rfl (by kernel_rfl) (by kernel_rfl) (by kernel_rfl) (fun _ _ _ h => h) (Or.inl ⟨by rfl, ?_⟩) (by assumption) ?_
        rotate_left
        focus (intro w hSw; (try dsimp only at hSw); go_simp; first | done | with_reducible rfl)
        go_simp
        refine wpAnyH_take (i := 1) (v := ?_) rfl (by kernel_rfl) (by kernel_rfl) (by kernel_rfl) (fun _ _ _ h => h) (Or.inl ⟨by rfl, ?_⟩) (by assumption) ?_
        rotate_left
        focus (intro w hSw; (try dsimp only at hSw); go_simp; first | done | with_reducible rfl)
        go_simp
        refine wpAnyH_take (i := 2) (v := ?_) rfl (by kernel_rfl) (by kernel_rfl) (by kernel_rfl) (fun _ _ _ h => h) (Or.inl ⟨by rfl, ?_⟩) (by assumption) ?_
        rotate_left
        focus (intro w hSw; (try dsimp only at hSw); go_simp; first | done | with_reducible rfl)
        go_simp
        refine wpAnyH_take (i := 3) (v := ?_) rfl (by kernel_rfl) (by kernel_rfl) (by kernel_rfl) (fun _ _ _ h => h) (Or.inl ⟨by rfl, ?_⟩) (by assumption) ?_
        rotate_left
        focus (intro w hSw; (try dsimp only at hSw); go_simp; first | done | with_reducible rfl)
        go_simp
        refine wpAnyH_take (i := 4) (v := ?_) rfl (by kernel_rfl) (by kernel_rfl) (by kernel_rfl) (fun _ _ _ h => h) (Or.inl ⟨by rfl, ?_⟩) (by assumption) ?_
        rotate_left
        focus (intro w hSw; (try dsimp only at hSw); go_simp; first | done | with_reducible rfl)
        go_simp
        refine wpAnyH_take (i := 5) (v := ?_) rfl (by kernel_rfl) (by kernel_rfl) (by kernel_rfl) (fun _ _ _ h => h) (Or.inl ⟨by rfl, ?_⟩) (by assumption) ?_
        rotate_left
        focus (intro w hSw; (try dsimp only at hSw); go_simp; first | done | with_reducible rfl)
        go_simp
        refine wpAnyH_take (i := 6) (v := ?_) rfl (by kernel_rfl) (by kernel_rfl) (by kernel_rfl) (fun _ _ _ h => h) (Or.inl ⟨by rfl, ?_⟩) (by assumption) ?_
        rotate_left
        focus (intro w hSw; (try dsimp only at hSw); go_simp; first | done | with_reducible rfl)
        go_simp
        refine wpAnyH_take (i := 7) (v := ?_) rfl (by kernel_rfl) (by kernel_rfl) (by kernel_rfl) (fun _ _ _ h => h) (Or.inl ⟨by rfl, ?_⟩) (by assumption) ?_
        rotate_left
        focus (intro w hSw; (try dsimp only at hSw); go_simp; first | done | with_reducible rfl)
        go_simp
        refine wpAnyH_take (i := 8) (v := ?_) rfl (by kernel_rfl) (by kernel_rfl) (by kernel_rfl) (fun _ _ _ h => h) (Or.inl ⟨by rfl, ?_⟩) (by assumption) ?_
        rotate_left
        focus (intro w hSw; (try dsimp only at hSw); go_simp; first | done | with_reducible rfl)
        go_simp
        refine wpAnyH_take (i := 9) (v := ?_) rfl (by kernel_rfl) (by kernel_rfl) (by kernel_rfl) (fun _ _ _ h => h) (Or.inl ⟨by rfl, ?_⟩) (by assumption) ?_
        rotate_left
        focus (intro w hSw; (try dsimp only at hSw); go_simp; first | done | with_reducible rfl)
        go_simp
        refine wpAnyH_take (i := 10) (v := ?_) rfl (by kernel_rfl) (by kernel_rfl) (by kernel_rfl) (fun _ _ _ h => h) (Or.inl ⟨by rfl, ?_⟩) (by assumption) ?_
        rotate_left
        focus (intro w hSw; (try dsimp only at hSw); go_simp; first | done | with_reducible rfl)
        go_simp
        refine wpAnyH_take (i := 11) (v := ?_) rfl (by kernel_rfl) (by kernel_rfl) (by kernel_rfl) (fun _ _ _ h => h) (Or.inl ⟨by rfl, ?_⟩) (by assumption) ?_
        rotate_left
        focus (intro w hSw; (try dsimp only at hSw); go_simp; first | done | with_reducible rfl)
        go_simp
        refine wpAnyH_ready (rs := [12]) (by kernel_rfl) (by simp) (AllReadyH.cons rfl (fun K hK => ?_) AllReadyH.nil)
        go_simp
        go_at_call 35
        refine (hol _ hBdA).mono ?_
        rintro e wl ⟨rfl, hBl⟩
        have q0 := (hBl.cell (p := ⟨wo.heap.size, 0, none⟩) hltA).trans f0
        have q1 := (hBl.cell (p := ⟨wo.heap.size, 1, none⟩) hltA).trans f1
        have hBl' := hBdA.trans (hBl.mono hBdA.size)
        have hstl := HK.out.1.later (((Below.refl WA.heap.size WA).drew).trans hBl)
        have hltl : wo.heap.size < wl.heap.size := Nat.lt_of_lt_of_le hltA hBl.size
        clear hBl
        refine hK.out _ _ ?_ (fun hHeld => ?_)
        focus (first | exact ⟨f0, f1⟩ | exact ⟨q0, q1⟩)
        clear hK K
        go_simp
        refine wpAnyH_take (i := 13) (v := ?_) rfl (by kernel_rfl) (by kernel_rfl) (by kernel_rfl) (fun _ _ _ h => h) (Or.inl ⟨by rfl, ?_⟩) (by assumption) ?_
        rotate_left
        focus (intro w hSw; (try dsimp only at hSw); go_simp; first | done | with_reducible rfl)
        go_simp
        refine wpAnyH_done (by kernel_rfl) ?_ _
        obtain ⟨-, hnx, hplen, hok1, hkS, hszA⟩ := HK.out
        obtain ⟨st1, hst1⟩ : ∃ st1, st1 = planErase S N T st k P Q := ⟨_, rfl⟩
        rw [← hst1] at hnx
        have hlen1 := planErase_len S N T st k P Q
        have hok2 := planErase_ok S N T st k P Q hok1
        rw [← hst1] at hlen1 hok2
        have hLs : (st.1.length : Int) = sumS S := by rw [hplen.1]; exact HS.out.2.1
        have hsz : st.2.length ≤ 10000 := by have h1 := HS.out.2.1; omega
        have hkn := HS.out.2.2.2.2.2.2.2
        clear f0 f1 hBdA hol i2 i3 i4 i5 i6 i7
        cases qb with
        | true =>
          have hlow : lowL (subL N P Q) (subL T P Q) = true := HQB.out.symm
          have e1 : planErase S N T st k P Q = st := by unfold planErase; rw [if_pos hlow]
          rw [e1] at hst1
          rw [← hst1] at hstl
          have HZ := Lib.hid (⟨hstl, hnx, hlen1, hok2, hBl', hltl, hLs, hsz, hplen⟩ : _ ∧ _ ∧ _ ∧ _ ∧ _ ∧ _ ∧ _ ∧ _ ∧ _)
          obtain ⟨wz, rfl⟩ : ∃ wz : World, wz = wl := ⟨_, rfl⟩
          clear hstl hnx hlen1 hok2 hBl' hltl hLs hsz hplen hok1 hkS hszA hst1 e1 hkn hlow
          simp only [Bool.not_true]
          go_wp2_with fail
          go_loopw [14] (fun i wr => ∃ A : Nat, P ≤ A ∧ A ≤ Q ∧ i = .int .i64 (A : Int) ∧ PlanSt S (planRun S T st1 P (A - P)).1 (planRun S T st1 P (A - P)).2 M g N.length cy b wo.heap.size (.slice (some ⟨gs, ox, none⟩) n cx) wr ∧ wr.cell? ⟨wo.heap.size, 0, none⟩ = some (.int .i64 (P : Int)) ∧ wr.cell? ⟨wo.heap.size, 1, none⟩ = some (.int .i64 (Q : Int)) ∧ Below w.heap.size w wr ∧ wo.heap.size < wr.heap.size) (fun i _ => Q - (intOf i).toNat)
          case atStart => exact ⟨P, Nat.le_refl _, by omega, rfl, by rw [Nat.sub_self]; exact HZ.out.1, q0, q1, HZ.out.2.2.2.2.1, HZ.out.2.2.2.2.2.1⟩
          case round =>
            clear q0 q1
            obtain ⟨A, hPA, hAQ, rfl, hsty, q0, q1, hBy, hly⟩ := hrel
            obtain ⟨su, hsu⟩ : ∃ su, su = planRun S T st1 P (A - P) := ⟨_, rfl⟩
            rw [← hsu] at hsty
            by_cases hAlt : A < Q
            · have hlenr := planRun_len S T st1 P (A - P)
              have hokr := planRun_ok S T st1 P HZ.out.2.2.2.1 (A - P)
              have hnxt := planRun_next (S := S) (T := T) (st := st1) hPA
              rw [← hsu] at hlenr hokr hnxt
              have hl1a := HZ.out.2.2.1
              have hNl : su.1.length = N.length := by rw [hlenr.1, hl1a.1, HZ.out.2.2.2.2.2.2.2.2.1]
              have hTl := HS.out.2.2.2.2.1
              obtain ⟨-, -, -, -, hcw⟩ := hsty.words.cells
              obtain ⟨hfA, hvA⟩ := hcw A (by omega)
              have hcT := (hBy.cell (p := ⟨g3, o3 + A, none⟩) HG.out.2.2.1).trans (HG.out.2.2.2 A (by omega))
              have hm1 := hsty.m1
              have hTA := HS.out.2.2.2.1 A (by omega)
              have a0 : (0 : Int) ≤ (A : Int) := by omega
              have a1 : (A : Int) < (N.length : Int) := by omega
              have a2 : (A : Int) < (T.length : Int) := by omega
              have a3 : (A : Int) < (Q : Int) := by omega
              obtain ⟨xv, hxv⟩ : ∃ xv, xv = su.1.getD A 0 := ⟨_, rfl⟩
              obtain ⟨yv, hyv⟩ : ∃ yv, yv = T.getD A 0 := ⟨_, rfl⟩
              rw [← hxv] at hvA
              rw [← hyv] at hcT hTA
              have hbu : b + 1 < wr.heap.size := by
                obtain ⟨-, -, -, -, a', n', c', h5, -⟩ := hsty
                exact World.block_lt_of_cell? wr ⟨b + 1, 0, none⟩ h5
              by_cases hxy : xv = yv
              · have hsame := planIn_same (S := S) (T := T) (st := su) (a := A) (by rw [← hxv, ← hyv]; exact hxy)
                rw [hsame] at hnxt
                have HY := Lib.hid (⟨hnxt, hsty, hBy, hly⟩ : _ ∧ _ ∧ _ ∧ _)
                subst hxy
                clear hnxt hsty hBy hly hsame hlenr hokr hl1a hNl hTl hcw hxv hyv hsu hfA hTA
                go_wp2_with fail
                go_quiet (fail)
                go_wp2_with fail
                go_roundw
                case rel => exact ⟨A + 1, by omega, by omega, by go_num, by rw [HY.out.1]; exact HY.out.2.1.later (drewN_below _ _), q0, q1, HY.out.2.2.1.trans ((drewN_below _ _).mono HY.out.2.2.1.size), HY.out.2.2.2⟩
                case measure => simp [intOf]; omega
              · have hturn := planIn_turn (S := S) (T := T) (st := su) (a := A) (by rw [← hxv, ← hyv]; exact hxy)
                rw [hturn] at hnxt
                have s1 : (planRun S T st1 P (A + 1 - P)).1 = doOp S su.1 (2, (A : Int), yv) := by rw [hnxt, hyv]
                have s2 : (planRun S T st1 P (A + 1 - P)).2 = su.2 ++ [(2, (A : Int), yv)] := by rw [hnxt, hyv]
                have hsz := HZ.out.2.2.2.2.2.2.2.1
                have hLs : (su.1.length : Int) = sumS S := by rw [hNl]; exact HS.out.2.1
                have hp1 := fun X hX hsX => plan1_any S su.1 su.2 M g N.length cy b wo.heap.size _ HX.out.2.1 HX.out.2.2.2 hgb HS.out.1 hLs hokr (by omega) 2 (A : Int) yv (opErr_programs ⟨a0, by rw [← HS.out.2.1]; exact a1⟩ hTA) X hX hsX
                rw [← s1, ← s2] at hp1
                have n1 : wo.heap.size ≠ g := by omega
                have n2 : wo.heap.size ≠ b + 1 := by omega
                have hxy2 : (xv != yv) = true := by simpa using hxy
                have HY := Lib.hid (⟨hp1, hsty, hBy, hly⟩ : _ ∧ _ ∧ _ ∧ _)
                clear hnxt hsty hBy hly hturn hlenr hokr hl1a hNl hTl hcw hxv hyv hsu hfA hTA hsz hLs s1 s2 hxy hp1
                go_wp2_with fail
                go_quiet (fail)
                go_wp2_with fail
                refine (HY.out.1 _ (HY.out.2.1.later (drewN_below _ _)) HY.out.2.2.2).mono ?_
                rintro e wz2 ⟨rfl, hstz, hBz, hhz⟩
                have hhz := hhz n1 n2
                have q0 := (World.cell?_of_block (a := ⟨wo.heap.size, 0, none⟩) hhz).trans q0
                have q1 := (World.cell?_of_block (a := ⟨wo.heap.size, 1, none⟩) hhz).trans q1
                have HW2 := Lib.hid (⟨hstz, (HY.out.2.2.1.trans ((drewN_below _ _).mono HY.out.2.2.1.size)).trans (hBz.mono HM.out), Nat.lt_of_lt_of_le HY.out.2.2.2 hBz.size⟩ : _ ∧ _ ∧ _)
                clear hstz hBz hhz n1 n2
                go_wp2_with fail
                go_roundw
                case rel => exact ⟨A + 1, by omega, by omega, by go_num, HW2.out.1, q0, q1, HW2.out.2.1, HW2.out.2.2⟩
                case measure => simp [intOf]; omega
            · obtain rfl : A = Q := by omega
              have HY := Lib.hid (⟨hsty, hsu, hBy⟩ : _ ∧ _ ∧ _)
              clear hsty hsu hBy
              go_wp2_with fail
              go_roundw
              case rel => exact ⟨k + 1, by omega, by go_num, by rw [HZ.out.2.1, ← HY.out.2.1]; exact HY.out.1.any, HY.out.2.2⟩
              case measure => simp [intOf]; omega
        | false =>
          have hlow : ¬ lowL (subL N P Q) (subL T P Q) = true := by rw [← HQB.out]; decide
          have e1 : planErase S N T st k P Q = (doOp S st.1 (1, (k : Int), 0), st.2 ++ [(1, (k : Int), 0)]) := by unfold planErase; rw [if_neg hlow]
          rw [e1] at hst1
          have hp1 := plan1_any S st.1 st.2 M g N.length cy b wo.heap.size _ HX.out.2.1 HX.out.2.2.2 hgb HS.out.1 hLs hok1 (by omega) 1 (k : Int) 0 (opErr_erases hkS _) wl hstl hltl
          have s1 : st1.1 = doOp S st.1 (1, (k : Int), 0) := by rw [hst1]
          have s2 : st1.2 = st.2 ++ [(1, (k : Int), 0)] := by rw [hst1]
          rw [← s1, ← s2] at hp1
          have HL := Lib.hid (⟨hnx, hlen1, hok2, hLs, hsz, hplen, hBl'⟩ : _ ∧ _ ∧ _ ∧ _ ∧ _ ∧ _ ∧ _)
          have n1 : wo.heap.size ≠ g := by omega
          have n2 : wo.heap.size ≠ b + 1 := by omega
          have HN1 := Lib.hid hltl
          clear hstl hnx hlen1 hok2 hBl' hltl hLs hsz hplen hok1 hkS hszA hst1 e1 s1 s2 hlow hkn
          go_wp2_with fail
          refine hp1.mono ?_
          rintro e wz ⟨rfl, hstz, hBz, hhz⟩
          have hhz := hhz n1 n2
          have q0 := (World.cell?_of_block (a := ⟨wo.heap.size, 0, none⟩) hhz).trans q0
          have q1 := (World.cell?_of_block (a := ⟨wo.heap.size, 1, none⟩) hhz).trans q1
          have hltz : wo.heap.size < wz.heap.size := Nat.lt_of_lt_of_le HN1.out hBz.size
          obtain ⟨hnx, hlen1, hok2, hLs, hsz, hplen, hBl'⟩ := HL.out
          have HZ := Lib.hid (⟨hstz, hnx, hlen1, hok2, hBl'.trans (hBz.mono HM.out), hltz, hLs, hsz, hplen⟩ : _ ∧ _ ∧ _ ∧ _ ∧ _ ∧ _ ∧ _ ∧ _ ∧ _)
          clear hp1 hstz hBz hhz hltz hnx hlen1 hok2 hLs hsz hplen hBl' n1 n2
          go_wp2_with fail
          go_loopw [14] (fun i wr => ∃ A : Nat, P ≤ A ∧ A ≤ Q ∧ i = .int .i64 (A : Int) ∧ PlanSt S (planRun S T st1 P (A - P)).1 (planRun S T st1 P (A - P)).2 M g N.length cy b wo.heap.size (.slice (some ⟨gs, ox, none⟩) n cx) wr ∧ wr.cell? ⟨wo.heap.size, 0, none⟩ = some (.int .i64 (P : Int)) ∧ wr.cell? ⟨wo.heap.size, 1, none⟩ = some (.int .i64 (Q : Int)) ∧ Below w.heap.size w wr ∧ wo.heap.size < wr.heap.size) (fun i _ => Q - (intOf i).toNat)
          case atStart => exact ⟨P, Nat.le_refl _, by omega, rfl, by rw [Nat.sub_self]; exact HZ.out.1, q0, q1, HZ.out.2.2.2.2.1, HZ.out.2.2.2.2.2.1⟩
          case round =>
            clear q0 q1
            obtain ⟨A, hPA, hAQ, rfl, hsty, q0, q1, hBy, hly⟩ := hrel
            obtain ⟨su, hsu⟩ : ∃ su, su = planRun S T st1 P (A - P) := ⟨_, rfl⟩
            rw [← hsu] at hsty
            by_cases hAlt : A < Q
            · have hlenr := planRun_len S T st1 P (A - P)
              have hokr := planRun_ok S T st1 P HZ.out.2.2.2.1 (A - P)
              have hnxt := planRun_next (S := S) (T := T) (st := st1) hPA
              rw [← hsu] at hlenr hokr hnxt
              have hl1a := HZ.out.2.2.1
              have hNl : su.1.length = N.length := by rw [hlenr.1, hl1a.1, HZ.out.2.2.2.2.2.2.2.2.1]
              have hTl := HS.out.2.2.2.2.1
              obtain ⟨-, -, -, -, hcw⟩ := hsty.words.cells
              obtain ⟨hfA, hvA⟩ := hcw A (by omega)
              have hcT := (hBy.cell (p := ⟨g3, o3 + A, none⟩) HG.out.2.2.1).trans (HG.out.2.2.2 A (by omega))
              have hm1 := hsty.m1
              have hTA := HS.out.2.2.2.1 A (by omega)
              have a0 : (0 : Int) ≤ (A : Int) := by omega
              have a1 : (A : Int) < (N.length : Int) := by omega
              have a2 : (A : Int) < (T.length : Int) := by omega
              have a3 : (A : Int) < (Q : Int) := by omega
              obtain ⟨xv, hxv⟩ : ∃ xv, xv = su.1.getD A 0 := ⟨_, rfl⟩
              obtain ⟨yv, hyv⟩ : ∃ yv, yv = T.getD A 0 := ⟨_, rfl⟩
              rw [← hxv] at hvA
              rw [← hyv] at hcT hTA
              have hbu : b + 1 < wr.heap.size := by
                obtain ⟨-, -, -, -, a', n', c', h5, -⟩ := hsty
                exact World.block_lt_of_cell? wr ⟨b + 1, 0, none⟩ h5
              by_cases hxy : xv = yv
              · have hsame := planIn_same (S := S) (T := T) (st := su) (a := A) (by rw [← hxv, ← hyv]; exact hxy)
                rw [hsame] at hnxt
                have HY := Lib.hid (⟨hnxt, hsty, hBy, hly⟩ : _ ∧ _ ∧ _ ∧ _)
                subst hxy
                clear hnxt hsty hBy hly hsame hlenr hokr hl1a hNl hTl hcw hxv hyv hsu hfA hTA
                go_wp2_with fail
                go_quiet (fail)
                go_wp2_with fail
                go_roundw
                case rel => exact ⟨A + 1, by omega, by omega, by go_num, by rw [HY.out.1]; exact HY.out.2.1.later (drewN_below _ _), q0, q1, HY.out.2.2.1.trans ((drewN_below _ _).mono HY.out.2.2.1.size), HY.out.2.2.2⟩
                case measure => simp [intOf]; omega
              · have hturn := planIn_turn (S := S) (T := T) (st := su) (a := A) (by rw [← hxv, ← hyv]; exact hxy)
                rw [hturn] at hnxt
                have s1 : (planRun S T st1 P (A + 1 - P)).1 = doOp S su.1 (2, (A : Int), yv) := by rw [hnxt, hyv]
                have s2 : (planRun S T st1 P (A + 1 - P)).2 = su.2 ++ [(2, (A : Int), yv)] := by rw [hnxt, hyv]
                have hsz := HZ.out.2.2.2.2.2.2.2.1
                have hLs : (su.1.length : Int) = sumS S := by rw [hNl]; exact HS.out.2.1
                have hp1 := fun X hX hsX => plan1_any S su.1 su.2 M g N.length cy b wo.heap.size _ HX.out.2.1 HX.out.2.2.2 hgb HS.out.1 hLs hokr (by omega) 2 (A : Int) yv (opErr_programs ⟨a0, by rw [← HS.out.2.1]; exact a1⟩ hTA) X hX hsX
                rw [← s1, ← s2] at hp1
                have n1 : wo.heap.size ≠ g := by omega
                have n2 : wo.heap.size ≠ b + 1 := by omega
                have hxy2 : (xv != yv) = true := by simpa using hxy
                have HY := Lib.hid (⟨hp1, hsty, hBy, hly⟩ : _ ∧ _ ∧ _ ∧ _)
                clear hnxt hsty hBy hly hturn hlenr hokr hl1a hNl hTl hcw hxv hyv hsu hfA hTA hsz hLs s1 s2 hxy hp1
                go_wp2_with fail
                go_quiet (fail)
                go_wp2_with fail
                refine (HY.out.1 _ (HY.out.2.1.later (drewN_below _ _)) HY.out.2.2.2).mono ?_
                rintro e wz2 ⟨rfl, hstz, hBz, hhz⟩
                have hhz := hhz n1 n2
                have q0 := (World.cell?_of_block (a := ⟨wo.heap.size, 0, none⟩) hhz).trans q0
                have q1 := (World.cell?_of_block (a := ⟨wo.heap.size, 1, none⟩) hhz).trans q1
                have HW2 := Lib.hid (⟨hstz, (HY.out.2.2.1.trans ((drewN_below _ _).mono HY.out.2.2.1.size)).trans (hBz.mono HM.out), Nat.lt_of_lt_of_le HY.out.2.2.2 hBz.size⟩ : _ ∧ _ ∧ _)
                clear hstz hBz hhz n1 n2
                go_wp2_with fail
                go_roundw
                case rel => exact ⟨A + 1, by omega, by omega, by go_num, HW2.out.1, q0, q1, HW2.out.2.1, HW2.out.2.2⟩
                case measure => simp [intOf]; omega
            · obtain rfl : A = Q := by omega
              have HY := Lib.hid (⟨hsty, hsu, hBy⟩ : _ ∧ _ ∧ _)
              clear hsty hsu hBy
              go_wp2_with fail
              go_roundw
              case rel => exact ⟨k + 1, by omega, by go_num, by rw [HZ.out.2.1, ← HY.out.2.1]; exact HY.out.1.any, HY.out.2.2⟩
              case measure => simp [intOf]; omega
      · obtain rfl : k = n := by omega
        obtain ⟨-, -, -, -, av, nv, cv, h5, -, h7, -⟩ := id hst
        have hops := ops_of_owns h7
        have hfin : OpsAt wo (.slice av nv cv) (planL S N T) := by
          unfold planL
          rw [← HS.out.2.2.2.2.2.2.2]
          exact hops
        have HR := Lib.hid (⟨hfin, hB⟩ : _ ∧ _)
        clear hst hB h7 hops hfin
        go_wp2_with fail
        go_ret2
        exact ⟨⟨_, rfl, HR.out.1⟩, HR.out.2⟩
  · have n0 : (R != 0) = true := by simpa using h0
    have H0 := Lib.hid h0
    clear h0 HP
    go_wp2_with fail
    go_ret2
    exact ⟨Or.inl ⟨H0.out, rfl⟩, HE3.out⟩
end Go.Proofs.YtfoocnhfppjbbaaGreatDoor
