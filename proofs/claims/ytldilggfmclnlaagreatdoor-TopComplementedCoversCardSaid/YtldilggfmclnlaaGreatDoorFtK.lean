/- Package fault: Coverage; what complemented counting vectors detect; the readiness test. -/
import Derived.Test.YtldilggfmclnlaaGreatDoorFtJ
import Derived.Test.YtldilggfmclnlaaGreatDoorVgCom
import Derived.Test.YtldilggfmclnlaaGreatDoorTapped
namespace Go.Proofs.YtldilggfmclnlaaGreatDoor
open Go.RowKit

theorem undTo_none (S : List Nat) : ∀ k, (∀ i, i < k → S.getD i 0 ≠ 0) → undTo S k = []
  | 0, _ => rfl
  | k + 1, h => by
    rw [undTo_succ, if_neg (h k (Nat.lt_succ_self _))]
    exact undTo_none S k fun i hi => h i (by omega)
theorem cntTo_all (S : List Nat) (some : Nat) : ∀ k, (∀ i, i < k → S.getD i 0 &&& some ≠ 0) → cntTo S some k = k
  | 0, _ => rfl
  | k + 1, h => by
    rw [cntTo_succ, if_neg (h k (Nat.lt_succ_self _)), cntTo_all S some k fun i hi => h i (by omega)]

set_option maxHeartbeats 4000000 in
set_option maxRecDepth 100000 in
theorem coverage_all (T : List (List UInt8)) (n m : Nat) (hT : TestRight T n m) (L : List Flt) (h0 : 0 < L.length) (hz : L.length ≤ 20000) (hL : ∀ i, i < L.length → FltRight n (L.getD i (0, []))) (hall : ∀ i, i < L.length → (detsL m T L).getD i 0 &&& beforeN m ≠ 0) (B : Nat) (w : World) (v v2 : Value) (h : StrsAt B w v T) (h2 : FltsAt w v2 L) :
    Calls Tryz.prog 9 #[v, v2] w fun e w' => e = .returned (.tuple #[.agg #[.int .i64 1, .int .i64 1], .int .i64 0]) ∧ Below w.heap.size w w' := by
  obtain ⟨W1, hW1⟩ : ∃ W1 : World, W1 = w.alloc (.cells #[.int .i64 0, .int .i64 0] 38) := ⟨_, rfl⟩
  have hB1 : Below w.heap.size w W1 := by rw [hW1]; exact (Below.refl _ _).alloc (Nat.le_refl _) _
  have hs1 : W1.heap.size = w.heap.size + 1 := by rw [hW1]; simp
  have p0 : W1.cell? ⟨w.heap.size, 0, none⟩ = some (.int .i64 0) := by rw [hW1]; simp
  have p1 : W1.cell? ⟨w.heap.size, 1, none⟩ = some (.int .i64 0) := by rw [hW1]; simp
  have q0 : W1.frozen? ⟨w.heap.size, 0, none⟩ = false := by rw [hW1]; simp
  have q1 : W1.frozen? ⟨w.heap.size, 1, none⟩ = false := by rw [hW1]; simp
  have hd := detections_any T n m hT L hz hL B W1 v v2 (row_later (w' := W1) h (by rw [hW1]; exact (Below.refl _ _).alloc (Nat.le_refl _) _)) (h2.later (by rw [hW1]; exact (Below.refl _ _).alloc (Nat.le_refl _) _))
  have hdl : (detsL m T L).length = L.length := by unfold detsL; rw [List.length_map]
  have hS64 : On64 (detsL m T L) := by
    intro k
    by_cases hk : k < L.length
    · have e : (detsL m T L).getD k 0 = detN m (T.map setL) L[k] := by unfold detsL; simp [hk]
      rw [e]
      exact detN_lt (on64_setL T)
    · have e : (detsL m T L).getD k 0 = 0 := by unfold detsL; simp [hk]
      rw [e]
      decide
  have hcd := fun W v h => countDetected_any (detsL m T L) (by omega) hS64 (beforeN m) (beforeN_lt m) W v h
  rw [hdl, cntTo_all _ _ _ hall] at hcd
  have hra := fun W => ratioOf_any L.length L.length h0 (by omega) (by omega) W
  rw [Nat.gcd_self, Nat.div_self h0] at hra
  have hbe := fun W => setsBefore_any m hT.m2 W
  have hn1 := hT.n1
  obtain ⟨a1, c1, rfl, hop1⟩ := strs_open h
  rw [hT.len] at hop1 hd ⊢
  obtain ⟨g, rfl, hg, hcell⟩ := hop1 (by omega)
  have hc0 := hcell 0 (by omega)
  have hw0 := word_dec _ _ (rfl : (⟨(T.getD 0 []).toArray⟩ : ByteArray) = ⟨(T.getD 0 []).toArray⟩)
  have hz00 : (⟨(T.getD 0 []).toArray⟩ : ByteArray).size = m := by have := hw0.1; have := hT.long 0 (by omega); omega
  change _ = some (Value.string ⟨(T.getD 0 []).toArray⟩) at hc0
  generalize (⟨(T.getD 0 []).toArray⟩ : ByteArray) = s0 at hc0 hz00
  obtain ⟨a2, c2, rfl⟩ := h2.open
  generalize hM : L.length = M at hd hdl hcd hra h0 hz ⊢
  have e0 : ((M : Int) == 0) = false := by rw [beq_eq_false_iff_ne]; omega
  have z2 : (0 : Int) < (n : Int) := by omega
  have HH := Lib.hid (⟨hB1, p0, p1, q0, q1, hcd, hra, hbe⟩ : _ ∧ _ ∧ _ ∧ _ ∧ _ ∧ _ ∧ _ ∧ _)
  have HW := Lib.hid hW1
  clear hB1 p0 p1 q0 q1 hcd hra hbe hW1 hw0 hcell hop1 h h2 hL hall hT hM hS64 hdl h0
  go_enter Tryz.func9, Tryz.ntmps9
  go_wp2_with fail
  rw [← HW.out]
  refine hd.mono ?_
  rintro e w1 ⟨sv, rfl, hS, hB⟩
  have hbb := HH.out.1.trans (hB.mono HH.out.1.size)
  have hc0' := (hbb.cell (p := ⟨g, 0, none⟩) hg).trans hc0
  have hsa := hS.at
  have HS := Lib.hid hsa
  have HB := Lib.hid (⟨hbb, hB⟩ : _ ∧ _)
  obtain ⟨sa, sc, rfl⟩ := hS.open
  clear hd hS hsa hbb hB hc0
  go_wp2_with fail
  refine (HH.out.2.2.2.2.2.2.2 _).mono ?_
  rintro e w2 ⟨rfl, rfl⟩
  go_wp2_with fail
  refine (HH.out.2.2.2.2.2.1 _ _ HS.out).mono ?_
  rintro e w3 ⟨rfl, hB3⟩
  have HB3 := Lib.hid (HB.out.1.trans (hB3.mono HB.out.1.size))
  have HB4 := Lib.hid (HB.out.2.trans (hB3.mono HB.out.2.size))
  clear hB3
  go_wp2_with fail
  refine (HH.out.2.2.2.2.2.2.1 _).mono ?_
  rintro e w4 ⟨rfl, hB4⟩
  have hBw : Below w.heap.size w w4 := HB3.out.trans (hB4.mono HB3.out.size)
  have hBW : Below W1.heap.size W1 w4 := HB4.out.trans (hB4.mono HB4.out.size)
  have r0 := (hBW.cell (p := ⟨w.heap.size, 0, none⟩) (by show w.heap.size < _; omega)).trans HH.out.2.1
  have r1 := (hBW.cell (p := ⟨w.heap.size, 1, none⟩) (by show w.heap.size < _; omega)).trans HH.out.2.2.1
  have s0' := (World.frozen?_of_block (a := ⟨w.heap.size, 0, none⟩) (hBW.block _ (by show w.heap.size < _; omega))).trans HH.out.2.2.2.1
  have s1' := (World.frozen?_of_block (a := ⟨w.heap.size, 1, none⟩) (hBW.block _ (by show w.heap.size < _; omega))).trans HH.out.2.2.2.2.1
  have HF := Lib.hid hBw
  clear hB4 hBw hBW
  go_wp2_with fail
  refine bodyPost_ret (v := .tuple #[.agg #[.int .i64 1, .int .i64 1], .int .i64 0]) ?_ rfl ⟨rfl, ?_⟩
  · simp [results, Tryz.f9, go_sem, r0, r1]
  · exact (HF.out.setCell (p := ⟨w.heap.size, 0, none⟩) (by simp) _).setCell (p := ⟨w.heap.size, 1, none⟩) (by simp) _

set_option maxHeartbeats 4000000 in
set_option maxRecDepth 100000 in
theorem h06facts_any (w : World) (hT : Tab w) : Calls Tryz.prog 10 #[] w fun e w' => e = .returned (.bool true) ∧ Below w.heap.size w w' := by
  have hp := path_ok 4 1 w (by decide) (by decide) hT
  rw [path_110] at hp
  have hs : ∀ w1, Calls Tryz.prog 29 #[.int .i64 3] w1 _ := fun w1 => counting_ok 3 (by decide) (by decide) w1
  go_enter Tryz.func10, Tryz.ntmps10
  go_wp2_with fail
  refine hp.mono ?_
  rintro e w1 ⟨rfl, hB1⟩
  have HB1 := Lib.hid hB1
  clear hp hB1
  go_wp2_with fail
  refine (hs w1).mono ?_
  rintro e w2 ⟨k, v, hk, hle, rfl, hv, hB⟩
  obtain rfl : k = 3 := hle.unique least_three
  rw [turn_three] at hv
  clear hs hle
  have hv3 := hv
  have hBa : Below w2.heap.size w2 (w2.alloc (.cells #[.string ⟨#[48, 48, 48]⟩, .string ⟨#[48, 49, 49]⟩, .string ⟨#[49, 48, 49]⟩] 9)) := (Below.refl _ _).alloc (Nat.le_refl _) _
  have hlit : StrsAt w2.heap.size (w2.alloc (.cells #[.string ⟨#[48, 48, 48]⟩, .string ⟨#[48, 49, 49]⟩, .string ⟨#[49, 48, 49]⟩] 9)) (.slice (some ⟨w2.heap.size, 0, none⟩) 3 3) [[48, 48, 48], [48, 49, 49], [49, 48, 49]] := World.ownsRow_lit w2 #[.string ⟨#[48, 48, 48]⟩, .string ⟨#[48, 49, 49]⟩, .string ⟨#[49, 48, 49]⟩] 3 (Nat.le_refl _) (by decide) rfl
  have heq := seqEqual_any _ _ (by decide) _ _ _ _ _ (row_later hv hBa) hlit
  have HB := Lib.hid ((HB1.out.trans (hB.mono HB1.out.size)).trans (hBa.mono (HB1.out.trans (hB.mono HB1.out.size)).size))
  have hbs := (HB1.out.trans (hB.mono HB1.out.size)).size
  clear hlit hBa hB hv
  obtain ⟨-, ⟨rfl, h0⟩ | ⟨g, cap, cur, rfl, -⟩⟩ := hv3
  · cases h0
  · go_wp2_with fail
    refine heq.mono ?_
    rintro e w3 ⟨rfl, hB3⟩
    go_wp2_with fail
    go_ret
    exact ⟨rfl, HB.out.trans (hB3.mono (by simp; omega))⟩
end Go.Proofs.YtldilggfmclnlaaGreatDoor
