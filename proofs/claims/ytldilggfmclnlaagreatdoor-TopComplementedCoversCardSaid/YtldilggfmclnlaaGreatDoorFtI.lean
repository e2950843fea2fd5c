/- Package fault: detections, Undetected, Coverage; package ratio. -/
import Derived.Test.YtldilggfmclnlaaGreatDoorFtH
namespace Go.Proofs.YtldilggfmclnlaaGreatDoor
open Go.RowKit

theorem on64_setL (T : List (List UInt8)) : On64 (T.map setL) := by
  intro k
  by_cases h : k < T.length
  · have e : (T.map setL).getD k 0 = setL T[k] := by simp [h]
    rw [e]
    exact setL_lt _
  · have e : (T.map setL).getD k 0 = 0 := by simp [h]
    rw [e]
    decide
/-- The vectors that detect each fault. -/
def detsL (m : Nat) (T : List (List UInt8)) (L : List Flt) : List Nat := L.map (detN m (T.map setL))
theorem detsL_take (m : Nat) (T : List (List UInt8)) (L : List Flt) (k : Nat) (hk : k < L.length) : detsL m T (L.take (k + 1)) = detsL m T (L.take k) ++ [detN m (T.map setL) (L.getD k (0, []))] := by
  have e : L.getD k (0, []) = L[k] := by simp [hk]
  unfold detsL
  rw [List.take_succ_eq_append_getElem hk, List.map_append, e]
  rfl

set_option maxHeartbeats 4000000 in
set_option maxRecDepth 100000 in
theorem detections_any (T : List (List UInt8)) (n m : Nat) (hT : TestRight T n m) (L : List Flt) (hz : L.length ≤ 20000) (hL : ∀ i, i < L.length → FltRight n (L.getD i (0, []))) (B : Nat) (w : World) (v v2 : Value) (h : StrsAt B w v T) (h2 : FltsAt w v2 L) :
    Calls Tryz.prog 24 #[v, v2] w fun e w' => ∃ v', e = .returned (.tuple #[v', .int .i64 0]) ∧ SetsOwn w.heap.size w' v' (detsL m T L) ∧ Below w.heap.size w w' := by
  obtain ⟨i0, hi, hz0, hz1, hz2⟩ := info_parts Tryz.infoSet
  have hck := fcheck_ok T n m hT L hz hL B w v v2 h h2
  have hwi := fun W (hB : Below w.heap.size w W) => wire_any T n m hT B W v (row_later h hB)
  have hn1 := hT.n1
  have hm2 := hT.m2
  obtain ⟨a1, c1, rfl, -⟩ := strs_open h
  obtain ⟨a2, c2, rfl, hop⟩ := h2
  have hol : (T.map setL).length = n := by rw [List.length_map, hT.len]
  have hdet := fun W g o fc gs sc k (hk : k < L.length) => detects_any n m hm2 (T.map setL) hol (on64_setL T) (L.getD k (0, [])) (hL k hk) W g o fc gs sc
  have hl1 := fun k (hk : k < L.length) => (hL k hk).l1
  rw [hT.len] at hck hwi ⊢
  obtain ⟨M, hM⟩ : ∃ M, M = L.length := ⟨_, rfl⟩
  rw [← hM] at hck hz hop hdet hl1 ⊢
  have HH := Lib.hid (⟨hwi, hop, hdet, hM, hol, hl1⟩ : _ ∧ _ ∧ _ ∧ _ ∧ _ ∧ _)
  clear hwi hop hdet hM hol h hT hL hl1
  go_enter Tryz.func24, Tryz.ntmps24
  go_wp2_with fail
  refine hck.mono ?_
  rintro e w1 ⟨rfl, hB1⟩
  have HB1 := Lib.hid hB1
  clear hck hB1
  go_wp2_with fail
  refine (HH.out.1 _ HB1.out).mono ?_
  rintro e w2 ⟨sv, rfl, hsv, hB2⟩
  have hsa := hsv.at
  obtain ⟨sa, sc, rfl, hsop⟩ := hsa
  rw [HH.out.2.2.2.2.1] at hsop ⊢
  obtain ⟨gs, rfl, hgs, hsc⟩ := hsop (by omega)
  have hBw : Below w.heap.size w w2 := HB1.out.trans (hB2.mono HB1.out.size)
  obtain ⟨W3, hW3⟩ : ∃ W3 : World, W3 = w2.alloc (.cells #[.int .i64 (m : Int), .slice (some ⟨gs, 0, none⟩) n sc] 96) := ⟨_, rfl⟩
  have hs3 : W3.heap.size = w2.heap.size + 1 := by rw [hW3]; simp
  have hbx : WBox W3 w2.heap.size m (.slice (some ⟨gs, 0, none⟩) n sc) := by rw [hW3]; exact World.alloc_heap_new w2 _
  have hB3 : Below w2.heap.size w2 W3 := by rw [hW3]; exact (Below.refl _ _).alloc (Nat.le_refl _) _
  have H3 := Lib.hid (⟨hbx, hB3, hBw, fun j hj => (hB3.cell (p := ⟨gs, j, none⟩) hgs).trans (hsc j (by have := HH.out.2.2.2.2.1; omega))⟩ : _ ∧ _ ∧ _ ∧ ∀ j, j < n → W3.cell? ⟨gs, j, none⟩ = some (.int .u64 ((T.map setL).getD j 0 : Int)))
  have HW := Lib.hid hW3
  have hbws := hBw.size
  clear hsv hB2 hsop hsc hBw hbx hB3 hW3
  go_wp2_with fail
  rw [← HW.out]
  go_loopw [8, 21] (fun v i wr => ∃ (k : Nat), k ≤ M ∧ i = .int .i64 (k : Int) ∧ SetsOwn (w2.heap.size + 1) wr v (detsL m T (L.take k)) ∧ Below (w2.heap.size + 1) W3 wr) (fun _ i _ => M - (intOf i).toNat)
  case atStart => exact ⟨0, by omega, rfl, World.ownsRow_nil _ _ _ _, Below.refl _ _⟩
  case round =>
    obtain ⟨k, hk, rfl, hrow, hB⟩ := hrel
    obtain ⟨va, vc, rfl⟩ := hrow.open
    have hkl : (detsL m T (L.take k)).length = k := by unfold detsL; rw [List.length_map, List.length_take, ← HH.out.2.2.2.1]; omega
    rw [hkl]
    by_cases hlt : k < M
    · obtain ⟨g0, rfl, hg0, hcell⟩ := HH.out.2.1 (by omega)
      obtain ⟨p0, nv, p1, hN⟩ := hcell k hlt
      obtain ⟨na, nc, rfl, hnc, hnop⟩ := hN
      obtain ⟨g, o, rfl, hg, hfc⟩ := hnop (HH.out.2.2.2.2.2 k hlt)
      have hBW : Below w.heap.size w wr := (H3.out.2.2.1.trans (H3.out.2.1.mono hbws)).trans (hB.mono (by omega))
      have hbs := hBW.size
      have q0 := (hBW.cell (p := ⟨g0, k * 2, none⟩) hg0).trans p0
      have q1 := (hBW.cell (p := ⟨g0, k * 2 + 1, none⟩) hg0).trans p1
      have hbx := (hB.block w2.heap.size (Nat.lt_succ_self _)).trans H3.out.1
      have hbx' : WBox wr w2.heap.size m (.slice (some ⟨gs, 0, none⟩) n sc) := hbx
      have b0 := hbx'.c0
      have b1 := hbx'.c1
      have hbl := hbx'.lt
      have htk := detsL_take m T L k (by have := HH.out.2.2.2.1; omega)
      have hsz := hB.size
      rw [hs3] at hsz
      obtain ⟨f, hf⟩ : ∃ f, f = L.getD k (0, []) := ⟨_, rfl⟩
      have hdt := HH.out.2.2.1 (wr.alloc (.cells #[.int .i64 (L.getD k (0, [])).1, .slice (some ⟨g, o, none⟩) (L.getD k (0, [])).2.length nc] 92)) g o nc gs sc k hlt (by simp; omega) (by simp; omega) hnc
        (fun j hj => (((Below.refl wr.heap.size wr).alloc (Nat.le_refl _) _).cell (p := ⟨g, o + j, none⟩) (by show g < _; omega)).trans ((hBW.cell (p := ⟨g, o + j, none⟩) hg).trans (hfc j hj)))
        (fun j hj => (((Below.refl wr.heap.size wr).alloc (Nat.le_refl _) _).cell (p := ⟨gs, j, none⟩) (by show gs < _; omega)).trans ((hB.cell (p := ⟨gs, j, none⟩) (by show gs < _; omega)).trans (H3.out.2.2.2 j hj)))
      rw [← hf] at hdt q0 q1 htk
      obtain ⟨dv, hdv⟩ : ∃ d, d = detN m (T.map setL) f := ⟨_, rfl⟩
      rw [← hdv] at hdt htk
      obtain ⟨kd, fn⟩ := f
      dsimp only at hdt q0 q1
      generalize fn.length = fl at hdt q0 q1
      have k0 : (0 : Int) ≤ (k : Int) := by omega
      have k1 : (k : Int) < (M : Int) := by omega
      have hB4 : Below (w2.heap.size + 1) W3 (wr.alloc (.cells #[.int .i64 kd, .slice (some ⟨g, o, none⟩) fl nc] 92)) := hB.alloc (by omega) _
      obtain ⟨D, hD⟩ : ∃ D, D = detsL m T (L.take k) := ⟨_, rfl⟩
      rw [← hD] at hrow htk hkl
      have hrow4 := row_later (w' := wr.alloc (.cells #[.int .i64 kd, .slice (some ⟨g, o, none⟩) fl nc] 92)) hrow ((Below.refl _ _).alloc (Nat.le_refl _) _)
      have HR := Lib.hid (⟨hB4, hrow4, htk, hkl⟩ : _ ∧ _ ∧ _ ∧ _)
      clear hcell p0 p1 hnop hfc hBW hB hrow hf hdv hD hB4 hrow4 htk hkl hbx hbx' hnc
      go_wp2_with fail
      refine hdt.mono ?_
      rintro e w5 ⟨rfl, hB5⟩
      have hrow5 := row_later HR.out.2.1 hB5
      have hrow6 : w5.ownsRow (w2.heap.size + 1) 60 1 (.slice va k vc) k (D.map setV) := by
        have := hrow5
        rw [HR.out.2.2.2] at this
        exact this
      have hB6 : Below (w2.heap.size + 1) W3 w5 := HR.out.1.trans (hB5.mono (by simp; omega))
      have hs5 := hB6.size
      rw [hs3] at hs5
      have H6 := Lib.hid (⟨hrow6, hB6⟩ : _ ∧ _)
      clear hdt hB5 hrow5 hrow6 hB6
      go_wp2_with (at_builtin; refine wpList_append_own _ rfl _ _ 56 rfl (w2.heap.size + 1) 60 i0 (.int .u64 0) 1 8 Tryz.underlying56 hi hz0 hz1 hz2 rfl (by decide) _ _ _ rfl (H6.out.1.alloc _) ⟨w5.heap.size, 0, none⟩ 1 1 [.int .u64 (dv : Int)] rfl rfl ?c1 ?c2 ?c3 ?c4 ?c5 ?_)
      case c1 => exact cell_one_new _ _ _
      case c2 =>
        intro u hu
        simp at hu
        subst hu
        rfl
      case c3 => unfold maxLen; omega
      case c4 => omega
      case c5 => simp; omega
      intro v' w7 hown' hg7 _
      have hB7 : Below (w2.heap.size + 1) W3 w7 := (H6.out.2.alloc (by omega) _).grown hg7 (by simp; omega) (fun j hj => (H6.out.1.lt j hj).1)
      have hN7 : SetsOwn (w2.heap.size + 1) w7 v' (detsL m T (L.take (k + 1))) := by
        rw [HR.out.2.2.1]
        refine sets_snoc dv ?_
        rw [HR.out.2.2.2]
        exact hown'
      obtain ⟨g9, cap9, rfl⟩ := ownsRow_succ hown'
      have H9 := Lib.hid (⟨hN7, hB7⟩ : _ ∧ _)
      clear hB7 hN7 hown' hg7
      go_wp2_with fail
      go_roundw
      case rel => exact ⟨k + 1, by omega, by go_num, H9.out⟩
      case measure => simp [intOf]; omega
    · obtain rfl : k = M := by omega
      have hfin : SetsOwn w.heap.size wr (.slice va k vc) (detsL m T L) := by
        have h1 := row_base hrow (show w.heap.size ≤ w2.heap.size + 1 by omega)
        have e : L.take k = L := by rw [HH.out.2.2.2.1, List.take_length]
        rw [hkl, e] at h1
        have h2 : (detsL m T L).length = k := by rw [← e]; exact hkl
        unfold SetsOwn
        rw [h2]
        rw [e] at hkl
        exact h1
      have H9 := Lib.hid (⟨hfin, (H3.out.2.2.1.trans (H3.out.2.1.mono hbws)).trans (hB.mono (by omega))⟩ : _ ∧ Below w.heap.size w wr)
      clear hrow hB hfin hkl
      go_wp2_with fail
      go_ret2
      exact ⟨_, rfl, H9.out⟩
end Go.Proofs.YtldilggfmclnlaaGreatDoor
