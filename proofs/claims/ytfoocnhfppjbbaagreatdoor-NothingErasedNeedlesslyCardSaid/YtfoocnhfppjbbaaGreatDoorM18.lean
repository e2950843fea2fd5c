/- Package flash: the driver is made. -/
import Derived.Test.YtfoocnhfppjbbaaGreatDoorMdK
namespace Go.Proofs.YtfoocnhfppjbbaaGreatDoor
open Go.RowKit

set_option maxHeartbeats 800000 in
set_option maxRecDepth 100000 in
theorem driver_any (M gW nW cW : Nat) (vS : Value) (S W : List Int) (w : World) (hsp : SpansAt w vS S) (hbe : Behind M vS) (hwo : WordsAt M w (.slice (some ⟨gW, 0, none⟩) nW cW) W) :
    Calls Tryz.prog 41 #[.agg #[vS, .slice (some ⟨gW, 0, none⟩) nW cW]] w fun E w' => E = .returned (.func (.func 58) #[] #[.pointer (some ⟨w.heap.size + 5, 0, none⟩), .pointer (some ⟨w.heap.size + 3, 0, none⟩), .pointer (some ⟨w.heap.size, 0, none⟩), .pointer (some ⟨w.heap.size + 4, 0, none⟩)]) ∧
      DLay M (w.heap.size + 6) gW (w.heap.size + 5) (w.heap.size + 3) w.heap.size (w.heap.size + 4) (w.heap.size + 1) (w.heap.size + 2) vS ∧
      Drv M (w.heap.size + 6) gW (w.heap.size + 5) (w.heap.size + 3) w.heap.size (w.heap.size + 4) (w.heap.size + 1) (w.heap.size + 2) nW cW vS S [] (.slice none 0 0) W w' ∧ Below w.heap.size w w' := by
  obtain ⟨A0, hA0⟩ : ∃ X : World, X = w.alloc (.cells #[vS, .slice (some ⟨gW, 0, none⟩) nW cW] 74) := ⟨_, rfl⟩
  have s0 : A0.heap.size = w.heap.size + 1 := by rw [hA0]; simp
  have l0 : Below w.heap.size w A0 := by rw [hA0]; exact below_alloc _ _
  obtain ⟨A1, hA1⟩ : ∃ X : World, X = A0.alloc (.cells (cellsC progKey).toArray 83) := ⟨_, rfl⟩
  have s1 : A1.heap.size = w.heap.size + 2 := by rw [hA1]; simp [s0]
  have l1 : Below A0.heap.size A0 A1 := by rw [hA1]; exact below_alloc _ _
  obtain ⟨A2, hA2⟩ : ∃ X : World, X = A1.alloc (.cells (cellsC eraseKey).toArray 83) := ⟨_, rfl⟩
  have s2 : A2.heap.size = w.heap.size + 3 := by rw [hA2]; simp [s1]
  have l2 : Below A1.heap.size A1 A2 := by rw [hA2]; exact below_alloc _ _
  obtain ⟨A3, hA3⟩ : ∃ X : World, X = A2.alloc (.cells #[.slice (some ⟨w.heap.size + 1, 0, none⟩) 3 3] 39) := ⟨_, rfl⟩
  have s3 : A3.heap.size = w.heap.size + 4 := by rw [hA3]; simp [s2]
  have l3 : Below A2.heap.size A2 A3 := by rw [hA3]; exact below_alloc _ _
  obtain ⟨A4, hA4⟩ : ∃ X : World, X = A3.alloc (.cells #[.slice (some ⟨w.heap.size + 1 + 1, 0, none⟩) 5 5] 39) := ⟨_, rfl⟩
  have s4 : A4.heap.size = w.heap.size + 5 := by rw [hA4]; simp [s3]
  have l4 : Below A3.heap.size A3 A4 := by rw [hA4]; exact below_alloc _ _
  obtain ⟨A5, hA5⟩ : ∃ X : World, X = A4.alloc (.cells #[.slice none 0 0] 39) := ⟨_, rfl⟩
  have s5 : A5.heap.size = w.heap.size + 6 := by rw [hA5]; simp [s4]
  have l5 : Below A4.heap.size A4 A5 := by rw [hA5]; exact below_alloc _ _
  have t4 : Below A4.heap.size A4 A5 := l5
  have t3 : Below A3.heap.size A3 A5 := l4.trans (t4.mono (by omega))
  have t2 : Below A2.heap.size A2 A5 := l3.trans (t3.mono (by omega))
  have t1 : Below A1.heap.size A1 A5 := l2.trans (t2.mono (by omega))
  have t0 : Below A0.heap.size A0 A5 := l1.trans (t1.mono (by omega))
  have tw : Below w.heap.size w A5 := l0.trans (t0.mono (by omega))
  have m0 : A5.cell? ⟨w.heap.size, 0, none⟩ = some vS := (t0.cell (p := ⟨w.heap.size, 0, none⟩) (show w.heap.size < _ by omega)).trans (by rw [hA0]; exact cell_new1 w _ _ rfl)
  have m1 : A5.cell? ⟨w.heap.size, 1, none⟩ = some (.slice (some ⟨gW, 0, none⟩) nW cW) := (t0.cell (p := ⟨w.heap.size, 1, none⟩) (show w.heap.size < _ by omega)).trans (by rw [hA0]; exact cell_new1 w _ _ rfl)
  have hp : A5.cell? ⟨w.heap.size + 3, 0, none⟩ = some (.slice (some ⟨w.heap.size + 1, 0, none⟩) 3 3) := (t3.cell (p := ⟨w.heap.size + 3, 0, none⟩) (show w.heap.size + 3 < _ by omega)).trans (by rw [hA3, ← s2]; exact cell_new1 A2 _ _ rfl)
  have he : A5.cell? ⟨w.heap.size + 4, 0, none⟩ = some (.slice (some ⟨w.heap.size + 2, 0, none⟩) 5 5) := (t4.cell (p := ⟨w.heap.size + 4, 0, none⟩) (show w.heap.size + 4 < _ by omega)).trans (by rw [hA4, ← s3]; exact cell_new1 A3 _ _ rfl)
  have hb : A5.cell? ⟨w.heap.size + 5, 0, none⟩ = some (.slice none 0 0) := by rw [hA5, ← s4]; exact cell_new1 A4 _ _ rfl
  have fz : A5.frozen? ⟨w.heap.size + 5, 0, none⟩ = false := by rw [hA5, ← s4]; simp
  have kp : CycsAt A5 (.slice (some ⟨w.heap.size + 1, 0, none⟩) 3 3) progKey := by
    refine CycsAt.later (w := A1) ?_ t1
    refine ⟨_, 3, rfl, by decide, fun _ => ⟨w.heap.size + 1, 0, rfl, by omega, fun j hj => ?_⟩⟩
    have h1 := cellsC_at progKey j hj
    rw [hA1, show w.heap.size + 1 = A0.heap.size by omega, Nat.zero_add]
    exact ⟨cell_new1 A0 _ _ (by simpa using h1.1), cell_new1 A0 _ _ (by simpa using h1.2)⟩
  have ke : CycsAt A5 (.slice (some ⟨w.heap.size + 2, 0, none⟩) 5 5) eraseKey := by
    refine CycsAt.later (w := A2) ?_ t2
    refine ⟨_, 5, rfl, by decide, fun _ => ⟨w.heap.size + 2, 0, rfl, by omega, fun j hj => ?_⟩⟩
    have h1 := cellsC_at eraseKey j hj
    rw [hA2, show w.heap.size + 2 = A1.heap.size by omega, Nat.zero_add]
    exact ⟨cell_new1 A1 _ _ (by simpa using h1.1), cell_new1 A1 _ _ (by simpa using h1.2)⟩
  have hsp5 := hsp.later tw
  have hwo5 := hwo.later tw
  have hgw : gW < w.heap.size ∧ M ≤ gW := by
    obtain ⟨-, -, h3, h4, -⟩ := hwo.cells
    exact ⟨h4, h3⟩
  have hA : A5 = (((((w.alloc (.cells #[vS, .slice (some ⟨gW, 0, none⟩) nW cW] 74)).alloc (.cells (cellsC progKey).toArray 83)).alloc (.cells (cellsC eraseKey).toArray 83)).alloc (.cells #[.slice (some ⟨w.heap.size + 1, 0, none⟩) 3 3] 39)).alloc (.cells #[.slice (some ⟨w.heap.size + 1 + 1, 0, none⟩) 5 5] 39)).alloc (.cells #[.slice none 0 0] 39) := by rw [hA5, hA4, hA3, hA2, hA1, hA0]
  have hlay : DLay M (w.heap.size + 6) gW (w.heap.size + 5) (w.heap.size + 3) w.heap.size (w.heap.size + 4) (w.heap.size + 1) (w.heap.size + 2) vS := ⟨by omega, by omega, by omega, by omega, by omega, by omega, by omega, hbe⟩
  have hdrv : Drv M (w.heap.size + 6) gW (w.heap.size + 5) (w.heap.size + 3) w.heap.size (w.heap.size + 4) (w.heap.size + 1) (w.heap.size + 2) nW cW vS S [] (.slice none 0 0) W A5 := Drv.nilOf ⟨hp, m0, m1, he, kp, ke, hsp5, hwo5, by omega⟩ hb fz
  have HF := Lib.hid (⟨hlay, hdrv, tw⟩ : _ ∧ _ ∧ _)
  have HA := Lib.hid hA
  clear hA0 s0 l0 hA1 s1 l1 hA2 s2 l2 hA3 s3 l3 hA4 s4 l4 hA5 s5 l5 t0 t1 t2 t3 t4 m0 m1 hp he hb fz kp ke hsp5 hwo5 hgw hA hlay hdrv tw
  go_enter Tryz.func41, Tryz.ntmps41
  go_wp2_with fail
  refine (programStart_any _).mono ?_
  rintro e w2 ⟨rfl, hw2⟩
  go_wp2_with fail
  refine (eraseStart_any _).mono ?_
  rintro e w3 ⟨rfl, hw3⟩
  go_wp2_with fail
  rw [← HA.out]
  go_ret
  exact ⟨rfl, HF.out⟩
end Go.Proofs.YtfoocnhfppjbbaaGreatDoor
/- Package flash: all cycles, plain; what is kept between them. -/
namespace Go.Proofs.YtfoocnhfppjbbaaGreatDoor
open Go.RowKit

theorem wordTo_len (W : List Int) (x d : Int) : (wordTo W x d).length = W.length := by
  unfold wordTo
  split <;> simp
theorem wordTo_ok (S W : List Int) (x d : Int) (h : WordsOk W) : WordsOk (wordTo W x d) := by
  unfold wordTo
  split
  · have h2 := doOp_ok S W (2, x, d) h
    rw [doOp_program S W 2 x d (by decide)] at h2
    exact h2
  · exact h
theorem eraseTo_len (S W : List Int) (x d : Int) : (eraseTo S W x d).length = W.length := by
  unfold eraseTo
  split
  · exact onesTo_len _ _ _
  · rfl
theorem eraseTo_ok (S W : List Int) (x d : Int) (h : WordsOk W) : WordsOk (eraseTo S W x d) := by
  unfold eraseTo
  split
  · have h2 := doOp_ok S W (1, secI S x, 0) h
    rw [doOp_erase] at h2
    exact h2
  · exact h
theorem stepC_words (S : List Int) (row : List Cyc) (W : List Int) (c : Cyc) (h : WordsOk W) : (stepC S row W c).2.1.length = W.length ∧ WordsOk (stepC S row W c).2.1 := by
  unfold stepC
  split
  · exact ⟨wordTo_len _ _ _, wordTo_ok S _ _ _ h⟩
  split
  · exact ⟨rfl, h⟩
  split
  · exact ⟨eraseTo_len _ _ _ _, eraseTo_ok _ _ _ _ h⟩
  split <;> exact ⟨rfl, h⟩
/-- The first k cycles: the sequence that has begun, the words, the cycles that were ignored. -/
def drvTo (S W : List Int) (C : List Cyc) : Nat → List Cyc × List Int × List Int
  | 0 => ([], W, [])
  | k + 1 => ((stepC S (drvTo S W C k).1 (drvTo S W C k).2.1 (C.getD k (0, 0))).1, (stepC S (drvTo S W C k).1 (drvTo S W C k).2.1 (C.getD k (0, 0))).2.1,
      if (stepC S (drvTo S W C k).1 (drvTo S W C k).2.1 (C.getD k (0, 0))).2.2 = true then (drvTo S W C k).2.2 else (drvTo S W C k).2.2 ++ [(k : Int)])
theorem drvTo_is (S W : List Int) (C : List Cyc) (h : WordsOk W) : ∀ k, (drvTo S W C k).1.length ≤ 5 ∧ (drvTo S W C k).2.1.length = W.length ∧ WordsOk (drvTo S W C k).2.1 ∧ (drvTo S W C k).2.2.length ≤ k
  | 0 => ⟨Nat.zero_le _, rfl, h, Nat.le_refl _⟩
  | k + 1 => by
    obtain ⟨-, h2, h3, h4⟩ := drvTo_is S W C h k
    have h5 := stepC_words S (drvTo S W C k).1 (drvTo S W C k).2.1 (C.getD k (0, 0)) h3
    refine ⟨stepC_len _ _ _ _, h5.1.trans h2, h5.2, ?_⟩
    show (if _ then _ else _ : List Int).length ≤ _
    split
    · omega
    · rw [List.length_append]
      simp
      omega
theorem own_of {w w' : World} {B : Nat} {e : TypeId} {size : Nat} {v : Value} {n : Nat} {xs : List Value} (h : w.ownsRow B e size v n xs) (hk : ∀ g, v.ownBlock = some g → g < w.heap.size → w'.heap[g]? = w.heap[g]?) : w'.ownsRow B e size v n xs := by
  refine ⟨h.1, ?_⟩
  rcases h.2 with h2 | ⟨g, cap, cur, hv, hg, hh, r⟩
  · exact Or.inl h2
  · exact Or.inr ⟨g, cap, cur, hv, hg, (hk g (by rw [hv]; rfl) (Array.getElem?_eq_some_iff.1 hh).1).trans hh, r⟩
theorem Drv.below {M R gW b p m e gp ge nW cW : Nat} {vS : Value} {S W : List Int} {row : List Cyc} {vb : Value} {w w' : World} (h : Drv M R gW b p m e gp ge nW cW vS S row vb W w) (hL : DLay M R gW b p m e gp ge vS) (hB : Below w.heap.size w w') : Drv M R gW b p m e gp ge nW cW vS S row vb W w' := by
  have hb : b < w.heap.size := Nat.lt_of_lt_of_le hL.lb.2.1 h.mem.sz
  exact ⟨h.mem.below hL (hB.mono h.mem.sz), (hB.cell (p := ⟨b, 0, none⟩) hb).trans h.hb, (hB.frozen (p := ⟨b, 0, none⟩) hb).trans h.fz, h.own.below hB⟩
/-- The state where a row of another grows. -/
theorem Drv.grown {M R gW b p m e gp ge nW cW : Nat} {vS : Value} {S W : List Int} {row : List Cyc} {vb : Value} {w w' : World} {o : Option Nat} (h : Drv M R gW b p m e gp ge nW cW vS S row vb W w) (hL : DLay M R gW b p m e gp ge vS) (hg : w.grownBy w' o) (h1 : ∀ k, o = some k → R ≤ k) (h2 : ∀ k, o = some k → vb.ownBlock ≠ some k) : Drv M R gW b p m e gp ge nW cW vS S row vb W w' := by
  have hB : Below R w w' := (Below.refl R w).grown hg h.mem.sz h1
  exact ⟨h.mem.below hL hB, (hB.cell (p := ⟨b, 0, none⟩) hL.lb.2.1).trans h.hb, (hB.frozen (p := ⟨b, 0, none⟩) hL.lb.2.1).trans h.fz, own_of h.own fun g hv hl => hg.block g hl (fun hh => h2 g hh.symm hv)⟩
theorem nums_of_own {w : World} {B : Nat} {v : Value} {l : List Int} (h : w.ownsRow B 3 1 v l.length (l.map (Value.int .i64))) : NumsAt w v l := by
  obtain ⟨-, ⟨hv, h0⟩ | ⟨g, cap, cur, hv, hg, hh, hnc, hcm, hcs, ht⟩⟩ := h
  · exact ⟨none, 0, by rw [hv, h0], by omega, fun h => by omega⟩
  · refine ⟨_, cap, hv, hnc, fun _ => ⟨g, 0, rfl, (Array.getElem?_eq_some_iff.1 hh).1, fun j hj => ?_⟩⟩
    have h1 : (l.map (Value.int .i64))[j]? = some (.int .i64 (l.getD j 0)) := by simp [hj]
    rw [← ht, List.getElem?_take_of_lt (by omega)] at h1
    have h2 : cur[j]? = some (.int .i64 (l.getD j 0)) := by simpa using h1
    rw [Nat.zero_add]
    unfold World.cell?
    simp only [hh]
    simp [h2]
end Go.Proofs.YtfoocnhfppjbbaaGreatDoor
