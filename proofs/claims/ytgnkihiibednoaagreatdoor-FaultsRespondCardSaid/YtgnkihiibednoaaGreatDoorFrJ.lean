/- The reference: what a fault makes of a bit (seenBit). -/
import Derived.Test.YtgnkihiibednoaaGreatDoorFrI
import Derived.Test.YtgnkihiibednoaaGreatDoorFrF
namespace Go.Proofs.YtgnkihiibednoaaGreatDoor
open Go.RowKit

set_option maxHeartbeats 4000000 in
set_option maxRecDepth 100000 in
theorem seenBit_any (T : List (List UInt8)) (n m : Nat) (hT : TestRight T n m) (f : Flt) (hf : FltRight n f) (i v : Nat) (hi : i < n) (hv : v < m) (B : Nat) (w : World) (tv nv : Value) (h : StrsAt B w tv T) (hN : NetsAt w nv f.2) :
    Calls Tryz.prog 44 #[tv, .agg #[.int .i64 f.1, nv], .int .i64 (i : Int), .int .i64 (v : Int)] w fun e w' => e = .returned (.int .u8 ((seenB T f i v).toNat : Int)) ∧ Below w.heap.size w w' := by
  obtain ⟨a, c, rfl, hop⟩ := strs_open h
  have hn2 := hT.n2
  rw [hT.len] at hop ⊢
  obtain ⟨g, rfl, hg, hcell⟩ := hop (by omega)
  have hstr : ∀ j, j < n → ∃ s : ByteArray, (∀ W, Below w.heap.size w W → W.cell? ⟨g, j, none⟩ = some (.string s)) ∧ s.size = m ∧ ∀ (hh : v < s.size), s[v]'hh = byteT T (j : Int) v := fun j hj => by
    refine ⟨⟨(T.getD j []).toArray⟩, fun W hB => (hB.cell (p := ⟨g, j, none⟩) hg).trans (hcell j hj), ?_, fun hh => ?_⟩
    · show (T.getD j []).toArray.size = m
      simpa using hT.long j hj
    · have h2 : v < (T.getD j []).length := by rw [hT.long j hj]; exact hv
      show _ = (T.getD ((j : Int)).toNat []).getD v 0
      rw [Int.toNat_natCast, List.getD_eq_getElem?_getD (l := T.getD j []), List.getElem?_eq_getElem h2]
      rfl
  have hcont := fun W (hB : Below w.heap.size w W) => contInt_any f.2 (by have := hf.l2; omega) (i : Int) W nv (hN.later hB)
  obtain ⟨k, l⟩ := f
  dsimp only at hcont hN ⊢
  obtain ⟨na, nc, rfl, hnc, hno⟩ := hN
  obtain ⟨M, hM⟩ : ∃ M, M = l.length := ⟨_, rfl⟩
  rw [← hM] at hcont hno hnc ⊢
  have hB1 : Below w.heap.size w (w.alloc (.cells #[.int .i64 k, .slice na M nc] 30)) := (Below.refl _ _).alloc (Nat.le_refl _) _
  have hq := hcont _ hB1
  by_cases hmem : (i : Int) ∈ l
  · rw [decide_eq_true hmem] at hq
    have hse : seenB T (k, l) i v = faultB T (k, l) v := by unfold seenB; rw [if_pos hmem]
    rw [hse]
    have hl1 := hf.l1
    have hl2 := hf.l2
    dsimp only at hl1 hl2
    rw [← hM] at hl1 hl2
    obtain ⟨g2, o, rfl, hg2, hnet⟩ := hno (by omega)
    have hbyte : ∀ j, j < M → ∃ q : Nat, q < n ∧ l.getD j 0 = (q : Int) ∧ (byteT T (q : Int) v = 48 ∨ byteT T (q : Int) v = 49) := fun j hj => by
      have e1 := hf.low j (by rw [← hM]; exact hj)
      have e2 := hf.high j (by rw [← hM]; exact hj)
      dsimp only at e1 e2
      refine ⟨(l.getD j 0).toNat, by omega, by omega, ?_⟩
      exact byte_bit hT _ (by omega) (by omega) v hv
    have hol := onesTo_le T l v M
    have hfb : faultB T (k, l) v = if k = 5 then byteT T (l.getD 0 0) v else if k = 2 ∨ k = 6 ∨ (k = 3 ∧ onesTo T l v M = M) ∨ (k = 4 ∧ 0 < onesTo T l v M) then 49 else 48 := by rw [hM]; rfl
    have hk1 := hf.k1
    have hk2 := hf.k2
    dsimp only at hk1 hk2
    have HH := Lib.hid (⟨hstr, hB1, hnet, hbyte, hfb, hol⟩ : _ ∧ _ ∧ _ ∧ _ ∧ _ ∧ _)
    have hv0 : (0 : Int) ≤ (v : Int) := by omega
    clear hstr hcont hno hcell h hop hM hT hf hse hmem hB1 hnet hbyte hfb hol
    go_enter Tryz.func44, Tryz.ntmps44
    go_wp2_with fail
    refine hq.mono ?_
    rintro e w' ⟨rfl, hB⟩
    clear hq
    have b0 := (hB.cell (p := ⟨w.heap.size, 0, none⟩) (by simp)).trans (show _ = some (Value.int .i64 k) by simp)
    have b1 := (hB.cell (p := ⟨w.heap.size, 1, none⟩) (by simp)).trans (show _ = some (Value.slice (some ⟨g2, o, none⟩) M nc) by simp)
    have HB := Lib.hid (HH.out.2.1.trans (hB.mono (by simp)))
    clear hB
    go_wp2_with fail
    go_loopw [9, 27] (fun on ix wr => ∃ j : Nat, j ≤ M ∧ ix = .int .i64 (j : Int) ∧ on = .int .i64 (onesTo T l v j : Int) ∧ w' = wr) (fun _ ix _ => M - (intOf ix).toNat)
    case atStart => exact ⟨0, by omega, rfl, rfl, rfl⟩
    case round =>
      obtain ⟨j, hj, rfl, rfl, rfl⟩ := hrel
      by_cases hlt : j < M
      · obtain ⟨q, hqn, hqe, hqb⟩ := HH.out.2.2.2.1 j hlt
        have c1 := (HB.out.cell (p := ⟨g2, o + j, none⟩) hg2).trans (HH.out.2.2.1 j hlt)
        rw [hqe] at c1
        obtain ⟨s, hs1, hs2, hs3⟩ := HH.out.1 q hqn
        have c2 := hs1 _ HB.out
        have hol := onesTo_le T l v j
        have hst : onesTo T l v (j + 1) = if byteT T (q : Int) v = 49 then onesTo T l v j + 1 else onesTo T l v j := by rw [← hqe]; rfl
        obtain ⟨bt, hbt⟩ : ∃ b, b = byteT T (q : Int) v := ⟨_, rfl⟩
        rw [← hbt] at hs3 hqb hst
        generalize onesTo T l v j = oj at hol hst ⊢
        have hvs : (v : Int) < (s.size : Int) := by omega
        have hvs2 : v < s.size := by omega
        have hsv := hs3 hvs2
        have q0 : (0 : Int) ≤ (q : Int) := by omega
        have q1 : (q : Int) < (n : Int) := by omega
        have k0 : (0 : Int) ≤ (j : Int) := by omega
        have k1' : (j : Int) < (M : Int) := by omega
        have HS := Lib.hid (⟨hst, hsv, hqb⟩ : _ ∧ _ ∧ _)
        clear hs1 hs3 hst hsv hqb hqe hbt
        go_wp2_with fail
        go_roundw
        case rel =>
          refine ⟨j + 1, by omega, by go_num, ?_, trivial⟩
          obtain ⟨h1, h2, h3⟩ := HS.out
          rw [h1, h2]
          rcases h3 with rfl | rfl
          · rw [if_neg (by decide)]
            go_num
          · rw [if_pos rfl]
            go_num
        case measure => simp [intOf]; omega
      · obtain rfl : j = M := by omega
        obtain ⟨-, -, hnet, hbyte, hfb, hol⟩ := HH.out
        obtain ⟨q, hqn, hqe, -⟩ := hbyte 0 (by omega)
        obtain ⟨s, hs1, hs2, hs3⟩ := HH.out.1 q hqn
        have c1 := (HB.out.cell (p := ⟨g2, o + 0, none⟩) hg2).trans (hnet 0 (by omega))
        have c2 := hs1 _ HB.out
        rw [hqe, Nat.add_zero] at c1
        have hvs : (v : Int) < (s.size : Int) := by omega
        have hvs2 : v < s.size := by omega
        have hsv := hs3 hvs2
        rw [← hqe] at hsv
        have q0 : (0 : Int) ≤ (q : Int) := by omega
        have q1 : (q : Int) < (n : Int) := by omega
        have j0 : (0 : Int) < (j : Int) := by omega
        generalize onesTo T l v j = oj at hfb hol ⊢
        have HSV := Lib.hid hsv
        clear hnet hbyte hs1 hs3 hqe HH hsv
        have hk : k = 1 ∨ k = 2 ∨ k = 3 ∨ k = 4 ∨ k = 5 ∨ k = 6 := by omega
        clear hk1 hk2
        rcases hk with rfl | rfl | rfl | rfl | rfl | rfl
        · have e : faultB T (1, l) v = 48 := by rw [hfb, if_neg (by omega), if_neg (by omega)]
          have HE := Lib.hid e
          have HB := Lib.hid HB.out
          clear hfb e hol
          go_wp2_with fail
          go_ret
          exact ⟨by rw [HE.out]; rfl, HB.out⟩
        · have e : faultB T (2, l) v = 49 := by rw [hfb, if_neg (by omega), if_pos (by omega)]
          have HE := Lib.hid e
          have HB := Lib.hid HB.out
          clear hfb e hol
          go_wp2_with fail
          go_ret
          exact ⟨by rw [HE.out]; rfl, HB.out⟩
        · by_cases ho : oj = j
          · have d : ((oj : Int) == (j : Int)) = true := by rw [beq_iff_eq]; omega
            have e : faultB T (3, l) v = 49 := by rw [hfb, if_neg (by omega), if_pos (by omega)]
            have HE := Lib.hid e
            have HB := Lib.hid HB.out
            clear hfb e hol
            go_wp2_with fail
            go_ret
            exact ⟨by rw [HE.out]; rfl, HB.out⟩
          · have d : ((oj : Int) == (j : Int)) = false := by rw [beq_eq_false_iff_ne]; omega
            have e : faultB T (3, l) v = 48 := by rw [hfb, if_neg (by omega), if_neg (by omega)]
            have HE := Lib.hid e
            have HB := Lib.hid HB.out
            clear hfb e hol
            go_wp2_with fail
            go_ret
            exact ⟨by rw [HE.out]; rfl, HB.out⟩
        · by_cases ho : 0 < oj
          · have d : decide ((oj : Int) > 0) = true := decide_eq_true (by omega)
            have e : faultB T (4, l) v = 49 := by rw [hfb, if_neg (by omega), if_pos (by omega)]
            have HE := Lib.hid e
            have HB := Lib.hid HB.out
            clear hfb e hol
            go_wp2_with fail
            go_ret
            exact ⟨by rw [HE.out]; rfl, HB.out⟩
          · have d : decide ((oj : Int) > 0) = false := decide_eq_false (by omega)
            have e : faultB T (4, l) v = 48 := by rw [hfb, if_neg (by omega), if_neg (by omega)]
            have HE := Lib.hid e
            have HB := Lib.hid HB.out
            clear hfb e hol
            go_wp2_with fail
            go_ret
            exact ⟨by rw [HE.out]; rfl, HB.out⟩
        · have e : faultB T (5, l) v = byteT T (l.getD 0 0) v := by rw [hfb, if_pos rfl]
          have HE := Lib.hid e
          have HB := Lib.hid HB.out
          clear hfb e hol
          go_wp2_with fail
          go_ret
          exact ⟨by rw [HE.out, ← HSV.out]; rfl, HB.out⟩
        · have e : faultB T (6, l) v = 49 := by rw [hfb, if_neg (by omega), if_pos (by omega)]
          have HE := Lib.hid e
          have HB := Lib.hid HB.out
          clear hfb e hol
          go_wp2_with fail
          go_ret
          exact ⟨by rw [HE.out]; rfl, HB.out⟩
  · rw [decide_eq_false hmem] at hq
    have hse : seenB T (k, l) i v = byteT T (i : Int) v := by unfold seenB; rw [if_neg hmem]
    rw [hse]
    obtain ⟨s, hs1, hs2, hs3⟩ := hstr i hi
    have HH := Lib.hid (⟨hs1, hs3, hB1⟩ : _ ∧ _ ∧ _)
    have hvs : (v : Int) < (s.size : Int) := by omega
    have hvs2 : v < s.size := by omega
    have hv0 : (0 : Int) ≤ (v : Int) := by omega
    have hi0 : (0 : Int) ≤ (i : Int) := by omega
    have hi1 : (i : Int) < (n : Int) := by omega
    clear hs1 hs3 hstr hcont hno hcell h hop hM hT hf hse hmem hs2 hB1
    go_enter Tryz.func44, Tryz.ntmps44
    go_wp2_with fail
    refine hq.mono ?_
    rintro e w' ⟨rfl, hB⟩
    clear hq
    have hB2 := HH.out.2.2.trans (hB.mono (by simp))
    have hc := HH.out.1 _ hB2
    have HB := Lib.hid hB2
    clear hB hB2
    go_wp2_with fail
    go_ret
    exact ⟨by rw [← HH.out.2.1 hvs2]; rfl, HB.out⟩
end Go.Proofs.YtgnkihiibednoaaGreatDoor
