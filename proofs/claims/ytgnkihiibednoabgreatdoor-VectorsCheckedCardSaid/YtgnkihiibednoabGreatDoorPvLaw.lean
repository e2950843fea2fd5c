/- The walk of VectorsChecked: it returns true, and turns nothing that was there. -/
import Derived.Test.YtgnkihiibednoabGreatDoorPvMs
namespace Go.Proofs.YtgnkihiibednoabGreatDoor
open Go.RowKit

theorem seqEqual_same (S : List (List UInt8)) (hz : S.length ≤ 1000) (B1 B2 : Nat) (v1 v2 : Value) (w : World) (h1 : StrsAt B1 w v1 S) (h2 : StrsAt B2 w v2 S) :
    Calls Tryz.prog 10 #[v1, v2] w fun e w' => e = .returned (.bool true) ∧ Below w.heap.size w w' := by
  have h := seqEqual_any S S ⟨hz, hz⟩ B1 B2 v1 v2 w h1 h2
  rw [decide_eq_true rfl] at h
  exact h
theorem turnL_length (S : List (List UInt8)) (long : Nat) : (turnL S long).length = long := by simp [turnL]
theorem strs_two {B : Nat} {w : World} {v : Value} {S : List (List UInt8)} (h : StrsAt B w v S) : ∃ a c, v = .slice a S.length c := by
  obtain ⟨a, c, e, -⟩ := strs_open h
  exact ⟨a, c, e⟩

set_option maxHeartbeats 8000000 in
set_option maxRecDepth 100000 in
theorem pvlaw_any (a0 : Option Addr) (len cap : Nat) (w : World) (h : RowIn w a0 len) :
    Calls Tryz.prog 3 #[.slice a0 len cap] w fun e w' => e = .returned (.bool true) ∧ Below w.heap.size w w' := by
  have hs := Strm.start (cap := cap) h
  obtain ⟨W0, hW0⟩ : ∃ W0 : World, w.alloc (.cells #[.slice a0 len cap, .int .i64 0] 25) = W0 := ⟨_, rfl⟩
  rw [hW0] at hs
  have hB0 : Below w.heap.size w W0 := by rw [← hW0]; exact (Below.refl _ w).alloc (Nat.le_refl _) _
  have hsz0 : w.heap.size < W0.heap.size := hs.lt
  have HB0 := Lib.hid hB0
  clear h hB0
  go_enter Tryz.func3, Tryz.ntmps3
  go_wp2_with fail
  have HW0 := Lib.hid hW0
  clear hW0
  refine (patterns_any w.heap.size 0 6 W0 hs (by omega) (by decide)).mono ?_
  rintro e w1 ⟨z, v1, rfl, S, hS, hl, hz, hr1⟩
  obtain ⟨t1, ht1, ht1', hs1⟩ := hr1.strm
  obtain ⟨a1, c1, rfl⟩ := strs_two hS
  have H1 := Lib.hid (⟨hS, hl, hz, hr1⟩ : _ ∧ _ ∧ _ ∧ _)
  clear hS hl hz hr1 hs
  go_wp2_with fail
  refine (sequenceList_any w.heap.size t1 w1 hs1 (by omega)).mono ?_
  rintro e w2 ⟨v2, rfl, Q, hQ, hql, hqz, hr2⟩
  have hr12 : Ran w.heap.size 0 200 W0 w2 := H1.out.2.2.2.then ht1 ht1' hr2
  obtain ⟨t2, ht2, ht2', hst⟩ := hr12.strm
  obtain ⟨a2, c2, rfl⟩ := strs_two hQ
  have hgl : w.heap.size < w1.heap.size := hs1.lt
  have R1 := Lib.hid (row_ran H1.out.1 hr2 hsz0)
  have R2 := Lib.hid hQ
  have hA : Below w.heap.size w w2 := HB0.out.trans (hr12.below (by omega))
  have hSl : S.length ≤ 1000 := by have := H1.out.2.1; omega
  have hQl : Q.length ≤ 1000 := by omega
  have hSb : ∀ k, k < S.length → (S.getD k []).length ≤ 1000 := fun k hk => by have := H1.out.2.2.1 k hk; omega
  have hQb : ∀ k, k < Q.length → (Q.getD k []).length ≤ 1000 := fun k hk => by have := hqz k hk; omega
  obtain ⟨E1, hE1⟩ : ∃ E, E = vecErr z S := ⟨_, rfl⟩
  obtain ⟨E2, hE2⟩ : ∃ E, E = seqErr Q := ⟨_, rfl⟩
  obtain ⟨E3, hE3⟩ : ∃ E, E = linesErr S := ⟨_, rfl⟩
  have HF1 := fun (W : World) (h : StrsAt W0.heap.size W (.slice a1 S.length c1) S) => patternsFault_any S z (by omega) (fun k hk => by have := hSb k hk; omega) _ W _ h
  have HF2 := fun (W : World) (h : StrsAt W0.heap.size W (.slice a1 S.length c1) S) => checkVectors_any S z (by omega) (fun k hk => by have := hSb k hk; omega) _ W _ h
  have HF3 := fun (W : World) (h : StrsAt w1.heap.size W (.slice a2 Q.length c2) Q) => sequencesFault_any Q (by omega) (fun k hk => by have := hQb k hk; omega) _ W _ h
  have HF4 := fun (W : World) (h : StrsAt W0.heap.size W (.slice a1 S.length c1) S) => patternLinesFault_any S (by omega) (fun k hk => by have := hSb k hk; omega) _ W _ h
  rw [← hE1] at HF1 HF2
  rw [← hE2] at HF3
  rw [← hE3] at HF4
  have HF := Lib.hid (⟨HF1, HF2, HF3, HF4⟩ : _ ∧ _ ∧ _ ∧ _)
  have HE := Lib.hid (⟨hE1, hE2, hE3, hSl, hQl, hSb, hQb⟩ : _ ∧ _ ∧ _ ∧ _ ∧ _ ∧ _ ∧ _)
  have ht2b : t2 ≤ 800000 := by omega
  clear H1 hQ hql hqz hr2 hr12 hs1 HF1 HF2 HF3 HF4 hE1 hE2 hE3 hSl hQl hSb hQb HB0 HW0
  by_cases h1 : E1 = 0
  · skip
    by_cases h2 : E2 = 0
    · skip
      by_cases h3 : E3 = 0
      · skip
        have hv := vecErr_none (HE.out.1.symm.trans h1)
        obtain ⟨n, hzn, hn1, hn2, hn3, hn4⟩ := hv
        subst hzn
        have HV := Lib.hid (⟨hn3, hn4, HE.out.1.symm.trans h1⟩ : _ ∧ _ ∧ _)
        clear hn3 hn4
        subst h1
        have HQ := Lib.hid (HE.out.2.1.symm.trans h2)
        subst h2
        have HL := Lib.hid (HE.out.2.2.1.symm.trans h3)
        subst h3
        have hc := HF.out.1 w2 R1.out
        go_wp2_with fail
        refine hc.mono ?_
        rintro e w3 ⟨rfl, hB⟩
        clear hc
        replace hA := hA.trans (hB.mono hA.size)
        replace hst := hst.below hB hst.lt
        replace R1 := Lib.hid (row_later R1.out hB)
        replace R2 := Lib.hid (row_later R2.out hB)
        clear hB
        have hc := HF.out.2.2.1 w3 R2.out
        go_wp2_with fail
        refine hc.mono ?_
        rintro e w4 ⟨rfl, hB⟩
        clear hc
        replace hA := hA.trans (hB.mono hA.size)
        replace hst := hst.below hB hst.lt
        replace R1 := Lib.hid (row_later R1.out hB)
        replace R2 := Lib.hid (row_later R2.out hB)
        clear hB
        have hc := HF.out.2.1 w4 R1.out
        go_wp2_with fail
        refine hc.mono ?_
        rintro e w5 ⟨rfl, hB⟩
        clear hc
        replace hA := hA.trans (hB.mono hA.size)
        replace hst := hst.below hB hst.lt
        replace R1 := Lib.hid (row_later R1.out hB)
        replace R2 := Lib.hid (row_later R2.out hB)
        clear hB
        have hc := sequences_ok S n hn1 hn2 HV.out.1 (fun s hs => (HV.out.2.1 s hs).1) HV.out.2.2 _ w5 _ R1.out
        go_wp2_with fail
        refine hc.mono ?_
        rintro e w6 ⟨v3, rfl, hS, hB⟩
        clear hc
        replace hA := hA.trans (hB.mono hA.size)
        replace hst := hst.below hB hst.lt
        replace R1 := Lib.hid (row_later R1.out hB)
        replace R2 := Lib.hid (row_later R2.out hB)
        clear hB
        obtain ⟨a3, c3, rfl⟩ := strs_two hS
        have R3 := Lib.hid hS
        clear hS
        have hc := rsequences_any S n (by have := HV.out.1; omega) (by omega) (fun s hs => (HV.out.2.1 s hs).1) _ w6 _ R1.out
        go_wp2_with fail
        refine hc.mono ?_
        rintro e w7 ⟨v4, rfl, hS, hB⟩
        clear hc
        replace hA := hA.trans (hB.mono hA.size)
        replace hst := hst.below hB hst.lt
        replace R1 := Lib.hid (row_later R1.out hB)
        replace R2 := Lib.hid (row_later R2.out hB)
        replace R3 := Lib.hid (row_later R3.out hB)
        clear hB
        obtain ⟨a4, c4, rfl⟩ := strs_two hS
        have R4 := Lib.hid hS
        clear hS
        have hc := seqEqual_same _ (by rw [turnL_length]; omega) _ _ _ _ w7 R3.out R4.out
        go_wp2_with fail
        refine hc.mono ?_
        rintro e w8 ⟨rfl, hB⟩
        clear hc
        replace hA := hA.trans (hB.mono hA.size)
        replace hst := hst.below hB hst.lt
        replace R1 := Lib.hid (row_later R1.out hB)
        replace R2 := Lib.hid (row_later R2.out hB)
        replace R3 := Lib.hid (row_later R3.out hB)
        replace R4 := Lib.hid (row_later R4.out hB)
        clear hB
        clear R3 R4
        have hq := seqErr_none HQ.out
        have HQ2 := Lib.hid hq
        clear hq
        have hc := fromSequences_ok Q HQ.out _ w8 _ R2.out
        go_wp2_with fail
        refine hc.mono ?_
        rintro e w9 ⟨v5, rfl, hS, hB⟩
        clear hc
        replace hA := hA.trans (hB.mono hA.size)
        replace hst := hst.below hB hst.lt
        replace R1 := Lib.hid (row_later R1.out hB)
        replace R2 := Lib.hid (row_later R2.out hB)
        clear hB
        obtain ⟨a5, c5, rfl⟩ := strs_two hS
        have R5 := Lib.hid hS
        clear hS
        have hc := rvectors_all Q (Q.getD 0 []).length HQ2.out.1 (by have := HQ2.out.2.1; omega) (by have := HQ2.out.2.2.1; omega) HQ2.out.2.2.2 _ w9 _ R2.out
        go_wp2_with fail
        refine hc.mono ?_
        rintro e w10 ⟨v6, rfl, hS, hB⟩
        clear hc
        replace hA := hA.trans (hB.mono hA.size)
        replace hst := hst.below hB hst.lt
        replace R1 := Lib.hid (row_later R1.out hB)
        replace R2 := Lib.hid (row_later R2.out hB)
        replace R5 := Lib.hid (row_later R5.out hB)
        clear hB
        obtain ⟨a6, c6, rfl⟩ := strs_two hS
        have R6 := Lib.hid hS
        clear hS
        have hc := seqEqual_same _ (by rw [turnL_length]; have := HQ2.out.2.2.1; omega) _ _ _ _ w10 R5.out R6.out
        go_wp2_with fail
        refine hc.mono ?_
        rintro e w11 ⟨rfl, hB⟩
        clear hc
        replace hA := hA.trans (hB.mono hA.size)
        replace hst := hst.below hB hst.lt
        replace R1 := Lib.hid (row_later R1.out hB)
        replace R2 := Lib.hid (row_later R2.out hB)
        replace R5 := Lib.hid (row_later R5.out hB)
        replace R6 := Lib.hid (row_later R6.out hB)
        clear hB
        clear R5 R6
        clear R2
        obtain ⟨T, hT⟩ : ∃ T : ByteArray, T = ⟨(textL S).toArray⟩ := ⟨_, rfl⟩
        have HT1 := fun W h => pText_ok S HL.out W0.heap.size W (.slice a1 S.length c1) h
        have HT2 := fun W h => patternLines_any S HE.out.2.2.2.1 HE.out.2.2.2.2.2.1 W0.heap.size W (.slice a1 S.length c1) h
        rw [← hT] at HT1 HT2
        have HT := Lib.hid (⟨HT1, HT2⟩ : _ ∧ _)
        clear HT1 HT2 hT
        have hc := HT.out.1 w11 R1.out
        go_wp2_with fail
        refine hc.mono ?_
        rintro e w12 ⟨rfl, hB⟩
        clear hc
        replace hA := hA.trans (hB.mono hA.size)
        replace hst := hst.below hB hst.lt
        replace R1 := Lib.hid (row_later R1.out hB)
        clear hB
        have hc := HF.out.2.2.2 w12 R1.out
        go_wp2_with fail
        refine hc.mono ?_
        rintro e w13 ⟨rfl, hB⟩
        clear hc
        replace hA := hA.trans (hB.mono hA.size)
        replace hst := hst.below hB hst.lt
        replace R1 := Lib.hid (row_later R1.out hB)
        clear hB
        have hc := HT.out.2 w13 R1.out
        go_wp2_with fail
        refine hc.mono ?_
        rintro e w14 ⟨rfl, hB⟩
        clear hc
        replace hA := hA.trans (hB.mono hA.size)
        replace hst := hst.below hB hst.lt
        replace R1 := Lib.hid (row_later R1.out hB)
        clear hB
        clear R1
        have hc := patternString_any w.heap.size t2 w14 hst ht2b
        go_wp2_with fail
        refine hc.mono ?_
        rintro e wp ⟨⟨s, hsz, rfl⟩, hr⟩
        clear hc
        replace hA := hA.trans (hr.below (Nat.le_of_lt hst.lt))
        clear hr hst
        have hsl : s.data.toList.length ≤ 1000 := by simpa using hsz
        have hro := readOut_rows s.data.toList
        have HR1 : ∀ W, Calls Tryz.prog 18 #[.string s] W _ := fun W => pRead_any s.data.toList (by omega) W
        have HR2 : ∀ W, Calls Tryz.prog 19 #[.string s] W _ := fun W => patternsRead_any s.data.toList (by omega) W
        generalize readOut s.data.toList = O at HR1 HR2 hro
        obtain ⟨o1, o2, o3⟩ := O
        dsimp only at HR1 HR2 hro
        have ho3 : o3.length ≤ 1000 := by have := hro.1; omega
        have HR := Lib.hid (⟨HR1, HR2⟩ : _ ∧ _)
        clear HR1 HR2 hro hsl hsz
        have hc := HR.out.1 wp
        go_wp2_with fail
        refine hc.mono ?_
        rintro e w15 ⟨v7, rfl, hS, hB⟩
        clear hc
        replace hA := hA.trans (hB.mono hA.size)
        clear hB
        obtain ⟨a7, c7, rfl⟩ := strs_two hS
        have R7 := Lib.hid hS
        clear hS
        have hc := HR.out.2 w15
        go_wp2_with fail
        refine hc.mono ?_
        rintro e w16 ⟨v8, rfl, hS, hB⟩
        clear hc
        replace hA := hA.trans (hB.mono hA.size)
        replace R7 := Lib.hid (row_later R7.out hB)
        clear hB
        obtain ⟨a8, c8, rfl⟩ := strs_two hS
        have R8 := Lib.hid hS
        clear hS
        have hc := seqEqual_same _ ho3 _ _ _ _ w16 R7.out R8.out
        go_wp2_with fail
        refine hc.mono ?_
        rintro e w17 ⟨rfl, hB⟩
        clear hc
        replace hA := hA.trans (hB.mono hA.size)
        replace R7 := Lib.hid (row_later R7.out hB)
        replace R8 := Lib.hid (row_later R8.out hB)
        clear hB
        clear R7 R8
        have hc := patterned_any w17
        go_wp2_with fail
        refine hc.mono ?_
        rintro e w18 ⟨rfl, hB⟩
        clear hc
        replace hA := hA.trans (hB.mono hA.size)
        clear hB
        have HA := Lib.hid hA
        clear hA
        go_wp2_with fail
        go_ret
        exact ⟨rfl, HA.out⟩
      · skip
        have hv := vecErr_none (HE.out.1.symm.trans h1)
        obtain ⟨n, hzn, hn1, hn2, hn3, hn4⟩ := hv
        subst hzn
        have HV := Lib.hid (⟨hn3, hn4, HE.out.1.symm.trans h1⟩ : _ ∧ _ ∧ _)
        clear hn3 hn4
        subst h1
        have HQ := Lib.hid (HE.out.2.1.symm.trans h2)
        subst h2
        have hne3 : (E3 != 0) = true := by simpa using h3
        have hnf3 : (E3 == 0) = false := by simpa using h3
        have H3e := Lib.hid h3
        clear h3
        have hc := HF.out.1 w2 R1.out
        go_wp2_with fail
        refine hc.mono ?_
        rintro e w3 ⟨rfl, hB⟩
        clear hc
        replace hA := hA.trans (hB.mono hA.size)
        replace hst := hst.below hB hst.lt
        replace R1 := Lib.hid (row_later R1.out hB)
        replace R2 := Lib.hid (row_later R2.out hB)
        clear hB
        have hc := HF.out.2.2.1 w3 R2.out
        go_wp2_with fail
        refine hc.mono ?_
        rintro e w4 ⟨rfl, hB⟩
        clear hc
        replace hA := hA.trans (hB.mono hA.size)
        replace hst := hst.below hB hst.lt
        replace R1 := Lib.hid (row_later R1.out hB)
        replace R2 := Lib.hid (row_later R2.out hB)
        clear hB
        have hc := HF.out.2.1 w4 R1.out
        go_wp2_with fail
        refine hc.mono ?_
        rintro e w5 ⟨rfl, hB⟩
        clear hc
        replace hA := hA.trans (hB.mono hA.size)
        replace hst := hst.below hB hst.lt
        replace R1 := Lib.hid (row_later R1.out hB)
        replace R2 := Lib.hid (row_later R2.out hB)
        clear hB
        have hc := sequences_ok S n hn1 hn2 HV.out.1 (fun s hs => (HV.out.2.1 s hs).1) HV.out.2.2 _ w5 _ R1.out
        go_wp2_with fail
        refine hc.mono ?_
        rintro e w6 ⟨v3, rfl, hS, hB⟩
        clear hc
        replace hA := hA.trans (hB.mono hA.size)
        replace hst := hst.below hB hst.lt
        replace R1 := Lib.hid (row_later R1.out hB)
        replace R2 := Lib.hid (row_later R2.out hB)
        clear hB
        obtain ⟨a3, c3, rfl⟩ := strs_two hS
        have R3 := Lib.hid hS
        clear hS
        have hc := rsequences_any S n (by have := HV.out.1; omega) (by omega) (fun s hs => (HV.out.2.1 s hs).1) _ w6 _ R1.out
        go_wp2_with fail
        refine hc.mono ?_
        rintro e w7 ⟨v4, rfl, hS, hB⟩
        clear hc
        replace hA := hA.trans (hB.mono hA.size)
        replace hst := hst.below hB hst.lt
        replace R1 := Lib.hid (row_later R1.out hB)
        replace R2 := Lib.hid (row_later R2.out hB)
        replace R3 := Lib.hid (row_later R3.out hB)
        clear hB
        obtain ⟨a4, c4, rfl⟩ := strs_two hS
        have R4 := Lib.hid hS
        clear hS
        have hc := seqEqual_same _ (by rw [turnL_length]; omega) _ _ _ _ w7 R3.out R4.out
        go_wp2_with fail
        refine hc.mono ?_
        rintro e w8 ⟨rfl, hB⟩
        clear hc
        replace hA := hA.trans (hB.mono hA.size)
        replace hst := hst.below hB hst.lt
        replace R1 := Lib.hid (row_later R1.out hB)
        replace R2 := Lib.hid (row_later R2.out hB)
        replace R3 := Lib.hid (row_later R3.out hB)
        replace R4 := Lib.hid (row_later R4.out hB)
        clear hB
        clear R3 R4
        have hq := seqErr_none HQ.out
        have HQ2 := Lib.hid hq
        clear hq
        have hc := fromSequences_ok Q HQ.out _ w8 _ R2.out
        go_wp2_with fail
        refine hc.mono ?_
        rintro e w9 ⟨v5, rfl, hS, hB⟩
        clear hc
        replace hA := hA.trans (hB.mono hA.size)
        replace hst := hst.below hB hst.lt
        replace R1 := Lib.hid (row_later R1.out hB)
        replace R2 := Lib.hid (row_later R2.out hB)
        clear hB
        obtain ⟨a5, c5, rfl⟩ := strs_two hS
        have R5 := Lib.hid hS
        clear hS
        have hc := rvectors_all Q (Q.getD 0 []).length HQ2.out.1 (by have := HQ2.out.2.1; omega) (by have := HQ2.out.2.2.1; omega) HQ2.out.2.2.2 _ w9 _ R2.out
        go_wp2_with fail
        refine hc.mono ?_
        rintro e w10 ⟨v6, rfl, hS, hB⟩
        clear hc
        replace hA := hA.trans (hB.mono hA.size)
        replace hst := hst.below hB hst.lt
        replace R1 := Lib.hid (row_later R1.out hB)
        replace R2 := Lib.hid (row_later R2.out hB)
        replace R5 := Lib.hid (row_later R5.out hB)
        clear hB
        obtain ⟨a6, c6, rfl⟩ := strs_two hS
        have R6 := Lib.hid hS
        clear hS
        have hc := seqEqual_same _ (by rw [turnL_length]; have := HQ2.out.2.2.1; omega) _ _ _ _ w10 R5.out R6.out
        go_wp2_with fail
        refine hc.mono ?_
        rintro e w11 ⟨rfl, hB⟩
        clear hc
        replace hA := hA.trans (hB.mono hA.size)
        replace hst := hst.below hB hst.lt
        replace R1 := Lib.hid (row_later R1.out hB)
        replace R2 := Lib.hid (row_later R2.out hB)
        replace R5 := Lib.hid (row_later R5.out hB)
        replace R6 := Lib.hid (row_later R6.out hB)
        clear hB
        clear R5 R6
        clear R2
        have hsb := pText_bad S (by have := HE.out.2.2.2.1; omega) (fun k hk => by have := HE.out.2.2.2.2.2.1 k hk; omega) (by rw [← HE.out.2.2.1]; exact H3e.out) _ w11 _ R1.out
        rw [← HE.out.2.2.1] at hsb
        have hc := hsb
        go_wp2_with fail
        refine hc.mono ?_
        rintro e w12 ⟨rfl, hB⟩
        clear hc
        replace hA := hA.trans (hB.mono hA.size)
        replace hst := hst.below hB hst.lt
        replace R1 := Lib.hid (row_later R1.out hB)
        clear hB
        clear hsb
        have hc := HF.out.2.2.2 w12 R1.out
        go_wp2_with fail
        refine hc.mono ?_
        rintro e w13 ⟨rfl, hB⟩
        clear hc
        replace hA := hA.trans (hB.mono hA.size)
        replace hst := hst.below hB hst.lt
        replace R1 := Lib.hid (row_later R1.out hB)
        clear hB
        clear R1
        have hc := patternString_any w.heap.size t2 w13 hst ht2b
        go_wp2_with fail
        refine hc.mono ?_
        rintro e wp ⟨⟨s, hsz, rfl⟩, hr⟩
        clear hc
        replace hA := hA.trans (hr.below (Nat.le_of_lt hst.lt))
        clear hr hst
        have hsl : s.data.toList.length ≤ 1000 := by simpa using hsz
        have hro := readOut_rows s.data.toList
        have HR1 : ∀ W, Calls Tryz.prog 18 #[.string s] W _ := fun W => pRead_any s.data.toList (by omega) W
        have HR2 : ∀ W, Calls Tryz.prog 19 #[.string s] W _ := fun W => patternsRead_any s.data.toList (by omega) W
        generalize readOut s.data.toList = O at HR1 HR2 hro
        obtain ⟨o1, o2, o3⟩ := O
        dsimp only at HR1 HR2 hro
        have ho3 : o3.length ≤ 1000 := by have := hro.1; omega
        have HR := Lib.hid (⟨HR1, HR2⟩ : _ ∧ _)
        clear HR1 HR2 hro hsl hsz
        have hc := HR.out.1 wp
        go_wp2_with fail
        refine hc.mono ?_
        rintro e w14 ⟨v7, rfl, hS, hB⟩
        clear hc
        replace hA := hA.trans (hB.mono hA.size)
        clear hB
        obtain ⟨a7, c7, rfl⟩ := strs_two hS
        have R7 := Lib.hid hS
        clear hS
        have hc := HR.out.2 w14
        go_wp2_with fail
        refine hc.mono ?_
        rintro e w15 ⟨v8, rfl, hS, hB⟩
        clear hc
        replace hA := hA.trans (hB.mono hA.size)
        replace R7 := Lib.hid (row_later R7.out hB)
        clear hB
        obtain ⟨a8, c8, rfl⟩ := strs_two hS
        have R8 := Lib.hid hS
        clear hS
        have hc := seqEqual_same _ ho3 _ _ _ _ w15 R7.out R8.out
        go_wp2_with fail
        refine hc.mono ?_
        rintro e w16 ⟨rfl, hB⟩
        clear hc
        replace hA := hA.trans (hB.mono hA.size)
        replace R7 := Lib.hid (row_later R7.out hB)
        replace R8 := Lib.hid (row_later R8.out hB)
        clear hB
        clear R7 R8
        have hc := patterned_any w16
        go_wp2_with fail
        refine hc.mono ?_
        rintro e w17 ⟨rfl, hB⟩
        clear hc
        replace hA := hA.trans (hB.mono hA.size)
        clear hB
        have HA := Lib.hid hA
        clear hA
        go_wp2_with fail
        go_ret
        exact ⟨rfl, HA.out⟩
    · skip
      by_cases h3 : E3 = 0
      · skip
        have hv := vecErr_none (HE.out.1.symm.trans h1)
        obtain ⟨n, hzn, hn1, hn2, hn3, hn4⟩ := hv
        subst hzn
        have HV := Lib.hid (⟨hn3, hn4, HE.out.1.symm.trans h1⟩ : _ ∧ _ ∧ _)
        clear hn3 hn4
        subst h1
        have hne2 : (E2 != 0) = true := by simpa using h2
        have hnf2 : (E2 == 0) = false := by simpa using h2
        have H2e := Lib.hid h2
        clear h2
        have HL := Lib.hid (HE.out.2.2.1.symm.trans h3)
        subst h3
        have hc := HF.out.1 w2 R1.out
        go_wp2_with fail
        refine hc.mono ?_
        rintro e w3 ⟨rfl, hB⟩
        clear hc
        replace hA := hA.trans (hB.mono hA.size)
        replace hst := hst.below hB hst.lt
        replace R1 := Lib.hid (row_later R1.out hB)
        replace R2 := Lib.hid (row_later R2.out hB)
        clear hB
        have hc := HF.out.2.2.1 w3 R2.out
        go_wp2_with fail
        refine hc.mono ?_
        rintro e w4 ⟨rfl, hB⟩
        clear hc
        replace hA := hA.trans (hB.mono hA.size)
        replace hst := hst.below hB hst.lt
        replace R1 := Lib.hid (row_later R1.out hB)
        replace R2 := Lib.hid (row_later R2.out hB)
        clear hB
        have hc := HF.out.2.1 w4 R1.out
        go_wp2_with fail
        refine hc.mono ?_
        rintro e w5 ⟨rfl, hB⟩
        clear hc
        replace hA := hA.trans (hB.mono hA.size)
        replace hst := hst.below hB hst.lt
        replace R1 := Lib.hid (row_later R1.out hB)
        replace R2 := Lib.hid (row_later R2.out hB)
        clear hB
        have hc := sequences_ok S n hn1 hn2 HV.out.1 (fun s hs => (HV.out.2.1 s hs).1) HV.out.2.2 _ w5 _ R1.out
        go_wp2_with fail
        refine hc.mono ?_
        rintro e w6 ⟨v3, rfl, hS, hB⟩
        clear hc
        replace hA := hA.trans (hB.mono hA.size)
        replace hst := hst.below hB hst.lt
        replace R1 := Lib.hid (row_later R1.out hB)
        replace R2 := Lib.hid (row_later R2.out hB)
        clear hB
        obtain ⟨a3, c3, rfl⟩ := strs_two hS
        have R3 := Lib.hid hS
        clear hS
        have hc := rsequences_any S n (by have := HV.out.1; omega) (by omega) (fun s hs => (HV.out.2.1 s hs).1) _ w6 _ R1.out
        go_wp2_with fail
        refine hc.mono ?_
        rintro e w7 ⟨v4, rfl, hS, hB⟩
        clear hc
        replace hA := hA.trans (hB.mono hA.size)
        replace hst := hst.below hB hst.lt
        replace R1 := Lib.hid (row_later R1.out hB)
        replace R2 := Lib.hid (row_later R2.out hB)
        replace R3 := Lib.hid (row_later R3.out hB)
        clear hB
        obtain ⟨a4, c4, rfl⟩ := strs_two hS
        have R4 := Lib.hid hS
        clear hS
        have hc := seqEqual_same _ (by rw [turnL_length]; omega) _ _ _ _ w7 R3.out R4.out
        go_wp2_with fail
        refine hc.mono ?_
        rintro e w8 ⟨rfl, hB⟩
        clear hc
        replace hA := hA.trans (hB.mono hA.size)
        replace hst := hst.below hB hst.lt
        replace R1 := Lib.hid (row_later R1.out hB)
        replace R2 := Lib.hid (row_later R2.out hB)
        replace R3 := Lib.hid (row_later R3.out hB)
        replace R4 := Lib.hid (row_later R4.out hB)
        clear hB
        clear R3 R4
        have hsb := fromSequences_bad Q (by have := HE.out.2.2.2.2.1; omega) (fun k hk => by have := HE.out.2.2.2.2.2.2 k hk; omega) (by rw [← HE.out.2.1]; exact H2e.out) _ w8 _ R2.out
        rw [← HE.out.2.1] at hsb
        have hc := hsb
        go_wp2_with fail
        refine hc.mono ?_
        rintro e w9 ⟨rfl, hB⟩
        clear hc
        replace hA := hA.trans (hB.mono hA.size)
        replace hst := hst.below hB hst.lt
        replace R1 := Lib.hid (row_later R1.out hB)
        replace R2 := Lib.hid (row_later R2.out hB)
        clear hB
        clear hsb
        clear R2
        obtain ⟨T, hT⟩ : ∃ T : ByteArray, T = ⟨(textL S).toArray⟩ := ⟨_, rfl⟩
        have HT1 := fun W h => pText_ok S HL.out W0.heap.size W (.slice a1 S.length c1) h
        have HT2 := fun W h => patternLines_any S HE.out.2.2.2.1 HE.out.2.2.2.2.2.1 W0.heap.size W (.slice a1 S.length c1) h
        rw [← hT] at HT1 HT2
        have HT := Lib.hid (⟨HT1, HT2⟩ : _ ∧ _)
        clear HT1 HT2 hT
        have hc := HT.out.1 w9 R1.out
        go_wp2_with fail
        refine hc.mono ?_
        rintro e w10 ⟨rfl, hB⟩
        clear hc
        replace hA := hA.trans (hB.mono hA.size)
        replace hst := hst.below hB hst.lt
        replace R1 := Lib.hid (row_later R1.out hB)
        clear hB
        have hc := HF.out.2.2.2 w10 R1.out
        go_wp2_with fail
        refine hc.mono ?_
        rintro e w11 ⟨rfl, hB⟩
        clear hc
        replace hA := hA.trans (hB.mono hA.size)
        replace hst := hst.below hB hst.lt
        replace R1 := Lib.hid (row_later R1.out hB)
        clear hB
        have hc := HT.out.2 w11 R1.out
        go_wp2_with fail
        refine hc.mono ?_
        rintro e w12 ⟨rfl, hB⟩
        clear hc
        replace hA := hA.trans (hB.mono hA.size)
        replace hst := hst.below hB hst.lt
        replace R1 := Lib.hid (row_later R1.out hB)
        clear hB
        clear R1
        have hc := patternString_any w.heap.size t2 w12 hst ht2b
        go_wp2_with fail
        refine hc.mono ?_
        rintro e wp ⟨⟨s, hsz, rfl⟩, hr⟩
        clear hc
        replace hA := hA.trans (hr.below (Nat.le_of_lt hst.lt))
        clear hr hst
        have hsl : s.data.toList.length ≤ 1000 := by simpa using hsz
        have hro := readOut_rows s.data.toList
        have HR1 : ∀ W, Calls Tryz.prog 18 #[.string s] W _ := fun W => pRead_any s.data.toList (by omega) W
        have HR2 : ∀ W, Calls Tryz.prog 19 #[.string s] W _ := fun W => patternsRead_any s.data.toList (by omega) W
        generalize readOut s.data.toList = O at HR1 HR2 hro
        obtain ⟨o1, o2, o3⟩ := O
        dsimp only at HR1 HR2 hro
        have ho3 : o3.length ≤ 1000 := by have := hro.1; omega
        have HR := Lib.hid (⟨HR1, HR2⟩ : _ ∧ _)
        clear HR1 HR2 hro hsl hsz
        have hc := HR.out.1 wp
        go_wp2_with fail
        refine hc.mono ?_
        rintro e w13 ⟨v7, rfl, hS, hB⟩
        clear hc
        replace hA := hA.trans (hB.mono hA.size)
        clear hB
        obtain ⟨a7, c7, rfl⟩ := strs_two hS
        have R7 := Lib.hid hS
        clear hS
        have hc := HR.out.2 w13
        go_wp2_with fail
        refine hc.mono ?_
        rintro e w14 ⟨v8, rfl, hS, hB⟩
        clear hc
        replace hA := hA.trans (hB.mono hA.size)
        replace R7 := Lib.hid (row_later R7.out hB)
        clear hB
        obtain ⟨a8, c8, rfl⟩ := strs_two hS
        have R8 := Lib.hid hS
        clear hS
        have hc := seqEqual_same _ ho3 _ _ _ _ w14 R7.out R8.out
        go_wp2_with fail
        refine hc.mono ?_
        rintro e w15 ⟨rfl, hB⟩
        clear hc
        replace hA := hA.trans (hB.mono hA.size)
        replace R7 := Lib.hid (row_later R7.out hB)
        replace R8 := Lib.hid (row_later R8.out hB)
        clear hB
        clear R7 R8
        have hc := patterned_any w15
        go_wp2_with fail
        refine hc.mono ?_
        rintro e w16 ⟨rfl, hB⟩
        clear hc
        replace hA := hA.trans (hB.mono hA.size)
        clear hB
        have HA := Lib.hid hA
        clear hA
        go_wp2_with fail
        go_ret
        exact ⟨rfl, HA.out⟩
      · skip
        have hv := vecErr_none (HE.out.1.symm.trans h1)
        obtain ⟨n, hzn, hn1, hn2, hn3, hn4⟩ := hv
        subst hzn
        have HV := Lib.hid (⟨hn3, hn4, HE.out.1.symm.trans h1⟩ : _ ∧ _ ∧ _)
        clear hn3 hn4
        subst h1
        have hne2 : (E2 != 0) = true := by simpa using h2
        have hnf2 : (E2 == 0) = false := by simpa using h2
        have H2e := Lib.hid h2
        clear h2
        have hne3 : (E3 != 0) = true := by simpa using h3
        have hnf3 : (E3 == 0) = false := by simpa using h3
        have H3e := Lib.hid h3
        clear h3
        have hc := HF.out.1 w2 R1.out
        go_wp2_with fail
        refine hc.mono ?_
        rintro e w3 ⟨rfl, hB⟩
        clear hc
        replace hA := hA.trans (hB.mono hA.size)
        replace hst := hst.below hB hst.lt
        replace R1 := Lib.hid (row_later R1.out hB)
        replace R2 := Lib.hid (row_later R2.out hB)
        clear hB
        have hc := HF.out.2.2.1 w3 R2.out
        go_wp2_with fail
        refine hc.mono ?_
        rintro e w4 ⟨rfl, hB⟩
        clear hc
        replace hA := hA.trans (hB.mono hA.size)
        replace hst := hst.below hB hst.lt
        replace R1 := Lib.hid (row_later R1.out hB)
        replace R2 := Lib.hid (row_later R2.out hB)
        clear hB
        have hc := HF.out.2.1 w4 R1.out
        go_wp2_with fail
        refine hc.mono ?_
        rintro e w5 ⟨rfl, hB⟩
        clear hc
        replace hA := hA.trans (hB.mono hA.size)
        replace hst := hst.below hB hst.lt
        replace R1 := Lib.hid (row_later R1.out hB)
        replace R2 := Lib.hid (row_later R2.out hB)
        clear hB
        have hc := sequences_ok S n hn1 hn2 HV.out.1 (fun s hs => (HV.out.2.1 s hs).1) HV.out.2.2 _ w5 _ R1.out
        go_wp2_with fail
        refine hc.mono ?_
        rintro e w6 ⟨v3, rfl, hS, hB⟩
        clear hc
        replace hA := hA.trans (hB.mono hA.size)
        replace hst := hst.below hB hst.lt
        replace R1 := Lib.hid (row_later R1.out hB)
        replace R2 := Lib.hid (row_later R2.out hB)
        clear hB
        obtain ⟨a3, c3, rfl⟩ := strs_two hS
        have R3 := Lib.hid hS
        clear hS
        have hc := rsequences_any S n (by have := HV.out.1; omega) (by omega) (fun s hs => (HV.out.2.1 s hs).1) _ w6 _ R1.out
        go_wp2_with fail
        refine hc.mono ?_
        rintro e w7 ⟨v4, rfl, hS, hB⟩
        clear hc
        replace hA := hA.trans (hB.mono hA.size)
        replace hst := hst.below hB hst.lt
        replace R1 := Lib.hid (row_later R1.out hB)
        replace R2 := Lib.hid (row_later R2.out hB)
        replace R3 := Lib.hid (row_later R3.out hB)
        clear hB
        obtain ⟨a4, c4, rfl⟩ := strs_two hS
        have R4 := Lib.hid hS
        clear hS
        have hc := seqEqual_same _ (by rw [turnL_length]; omega) _ _ _ _ w7 R3.out R4.out
        go_wp2_with fail
        refine hc.mono ?_
        rintro e w8 ⟨rfl, hB⟩
        clear hc
        replace hA := hA.trans (hB.mono hA.size)
        replace hst := hst.below hB hst.lt
        replace R1 := Lib.hid (row_later R1.out hB)
        replace R2 := Lib.hid (row_later R2.out hB)
        replace R3 := Lib.hid (row_later R3.out hB)
        replace R4 := Lib.hid (row_later R4.out hB)
        clear hB
        clear R3 R4
        have hsb := fromSequences_bad Q (by have := HE.out.2.2.2.2.1; omega) (fun k hk => by have := HE.out.2.2.2.2.2.2 k hk; omega) (by rw [← HE.out.2.1]; exact H2e.out) _ w8 _ R2.out
        rw [← HE.out.2.1] at hsb
        have hc := hsb
        go_wp2_with fail
        refine hc.mono ?_
        rintro e w9 ⟨rfl, hB⟩
        clear hc
        replace hA := hA.trans (hB.mono hA.size)
        replace hst := hst.below hB hst.lt
        replace R1 := Lib.hid (row_later R1.out hB)
        replace R2 := Lib.hid (row_later R2.out hB)
        clear hB
        clear hsb
        clear R2
        have hsb := pText_bad S (by have := HE.out.2.2.2.1; omega) (fun k hk => by have := HE.out.2.2.2.2.2.1 k hk; omega) (by rw [← HE.out.2.2.1]; exact H3e.out) _ w9 _ R1.out
        rw [← HE.out.2.2.1] at hsb
        have hc := hsb
        go_wp2_with fail
        refine hc.mono ?_
        rintro e w10 ⟨rfl, hB⟩
        clear hc
        replace hA := hA.trans (hB.mono hA.size)
        replace hst := hst.below hB hst.lt
        replace R1 := Lib.hid (row_later R1.out hB)
        clear hB
        clear hsb
        have hc := HF.out.2.2.2 w10 R1.out
        go_wp2_with fail
        refine hc.mono ?_
        rintro e w11 ⟨rfl, hB⟩
        clear hc
        replace hA := hA.trans (hB.mono hA.size)
        replace hst := hst.below hB hst.lt
        replace R1 := Lib.hid (row_later R1.out hB)
        clear hB
        clear R1
        have hc := patternString_any w.heap.size t2 w11 hst ht2b
        go_wp2_with fail
        refine hc.mono ?_
        rintro e wp ⟨⟨s, hsz, rfl⟩, hr⟩
        clear hc
        replace hA := hA.trans (hr.below (Nat.le_of_lt hst.lt))
        clear hr hst
        have hsl : s.data.toList.length ≤ 1000 := by simpa using hsz
        have hro := readOut_rows s.data.toList
        have HR1 : ∀ W, Calls Tryz.prog 18 #[.string s] W _ := fun W => pRead_any s.data.toList (by omega) W
        have HR2 : ∀ W, Calls Tryz.prog 19 #[.string s] W _ := fun W => patternsRead_any s.data.toList (by omega) W
        generalize readOut s.data.toList = O at HR1 HR2 hro
        obtain ⟨o1, o2, o3⟩ := O
        dsimp only at HR1 HR2 hro
        have ho3 : o3.length ≤ 1000 := by have := hro.1; omega
        have HR := Lib.hid (⟨HR1, HR2⟩ : _ ∧ _)
        clear HR1 HR2 hro hsl hsz
        have hc := HR.out.1 wp
        go_wp2_with fail
        refine hc.mono ?_
        rintro e w12 ⟨v7, rfl, hS, hB⟩
        clear hc
        replace hA := hA.trans (hB.mono hA.size)
        clear hB
        obtain ⟨a7, c7, rfl⟩ := strs_two hS
        have R7 := Lib.hid hS
        clear hS
        have hc := HR.out.2 w12
        go_wp2_with fail
        refine hc.mono ?_
        rintro e w13 ⟨v8, rfl, hS, hB⟩
        clear hc
        replace hA := hA.trans (hB.mono hA.size)
        replace R7 := Lib.hid (row_later R7.out hB)
        clear hB
        obtain ⟨a8, c8, rfl⟩ := strs_two hS
        have R8 := Lib.hid hS
        clear hS
        have hc := seqEqual_same _ ho3 _ _ _ _ w13 R7.out R8.out
        go_wp2_with fail
        refine hc.mono ?_
        rintro e w14 ⟨rfl, hB⟩
        clear hc
        replace hA := hA.trans (hB.mono hA.size)
        replace R7 := Lib.hid (row_later R7.out hB)
        replace R8 := Lib.hid (row_later R8.out hB)
        clear hB
        clear R7 R8
        have hc := patterned_any w14
        go_wp2_with fail
        refine hc.mono ?_
        rintro e w15 ⟨rfl, hB⟩
        clear hc
        replace hA := hA.trans (hB.mono hA.size)
        clear hB
        have HA := Lib.hid hA
        clear hA
        go_wp2_with fail
        go_ret
        exact ⟨rfl, HA.out⟩
  · skip
    by_cases h2 : E2 = 0
    · skip
      by_cases h3 : E3 = 0
      · skip
        have hne1 : (E1 != 0) = true := by simpa using h1
        have hnf1 : (E1 == 0) = false := by simpa using h1
        have H1e := Lib.hid h1
        clear h1
        have HQ := Lib.hid (HE.out.2.1.symm.trans h2)
        subst h2
        have HL := Lib.hid (HE.out.2.2.1.symm.trans h3)
        subst h3
        have hc := HF.out.1 w2 R1.out
        go_wp2_with fail
        refine hc.mono ?_
        rintro e w3 ⟨rfl, hB⟩
        clear hc
        replace hA := hA.trans (hB.mono hA.size)
        replace hst := hst.below hB hst.lt
        replace R1 := Lib.hid (row_later R1.out hB)
        replace R2 := Lib.hid (row_later R2.out hB)
        clear hB
        have hc := HF.out.2.2.1 w3 R2.out
        go_wp2_with fail
        refine hc.mono ?_
        rintro e w4 ⟨rfl, hB⟩
        clear hc
        replace hA := hA.trans (hB.mono hA.size)
        replace hst := hst.below hB hst.lt
        replace R1 := Lib.hid (row_later R1.out hB)
        replace R2 := Lib.hid (row_later R2.out hB)
        clear hB
        have hc := HF.out.2.1 w4 R1.out
        go_wp2_with fail
        refine hc.mono ?_
        rintro e w5 ⟨rfl, hB⟩
        clear hc
        replace hA := hA.trans (hB.mono hA.size)
        replace hst := hst.below hB hst.lt
        replace R1 := Lib.hid (row_later R1.out hB)
        replace R2 := Lib.hid (row_later R2.out hB)
        clear hB
        have hsb := sequences_bad S z (by have := HE.out.2.2.2.1; omega) (fun k hk => by have := HE.out.2.2.2.2.2.1 k hk; omega) (by rw [← HE.out.1]; exact H1e.out) _ w5 _ R1.out
        rw [← HE.out.1] at hsb
        have hc := hsb
        go_wp2_with fail
        refine hc.mono ?_
        rintro e w6 ⟨rfl, hB⟩
        clear hc
        replace hA := hA.trans (hB.mono hA.size)
        replace hst := hst.below hB hst.lt
        replace R1 := Lib.hid (row_later R1.out hB)
        replace R2 := Lib.hid (row_later R2.out hB)
        clear hB
        clear hsb
        have hq := seqErr_none HQ.out
        have HQ2 := Lib.hid hq
        clear hq
        have hc := fromSequences_ok Q HQ.out _ w6 _ R2.out
        go_wp2_with fail
        refine hc.mono ?_
        rintro e w7 ⟨v5, rfl, hS, hB⟩
        clear hc
        replace hA := hA.trans (hB.mono hA.size)
        replace hst := hst.below hB hst.lt
        replace R1 := Lib.hid (row_later R1.out hB)
        replace R2 := Lib.hid (row_later R2.out hB)
        clear hB
        obtain ⟨a5, c5, rfl⟩ := strs_two hS
        have R5 := Lib.hid hS
        clear hS
        have hc := rvectors_all Q (Q.getD 0 []).length HQ2.out.1 (by have := HQ2.out.2.1; omega) (by have := HQ2.out.2.2.1; omega) HQ2.out.2.2.2 _ w7 _ R2.out
        go_wp2_with fail
        refine hc.mono ?_
        rintro e w8 ⟨v6, rfl, hS, hB⟩
        clear hc
        replace hA := hA.trans (hB.mono hA.size)
        replace hst := hst.below hB hst.lt
        replace R1 := Lib.hid (row_later R1.out hB)
        replace R2 := Lib.hid (row_later R2.out hB)
        replace R5 := Lib.hid (row_later R5.out hB)
        clear hB
        obtain ⟨a6, c6, rfl⟩ := strs_two hS
        have R6 := Lib.hid hS
        clear hS
        have hc := seqEqual_same _ (by rw [turnL_length]; have := HQ2.out.2.2.1; omega) _ _ _ _ w8 R5.out R6.out
        go_wp2_with fail
        refine hc.mono ?_
        rintro e w9 ⟨rfl, hB⟩
        clear hc
        replace hA := hA.trans (hB.mono hA.size)
        replace hst := hst.below hB hst.lt
        replace R1 := Lib.hid (row_later R1.out hB)
        replace R2 := Lib.hid (row_later R2.out hB)
        replace R5 := Lib.hid (row_later R5.out hB)
        replace R6 := Lib.hid (row_later R6.out hB)
        clear hB
        clear R5 R6
        clear R2
        obtain ⟨T, hT⟩ : ∃ T : ByteArray, T = ⟨(textL S).toArray⟩ := ⟨_, rfl⟩
        have HT1 := fun W h => pText_ok S HL.out W0.heap.size W (.slice a1 S.length c1) h
        have HT2 := fun W h => patternLines_any S HE.out.2.2.2.1 HE.out.2.2.2.2.2.1 W0.heap.size W (.slice a1 S.length c1) h
        rw [← hT] at HT1 HT2
        have HT := Lib.hid (⟨HT1, HT2⟩ : _ ∧ _)
        clear HT1 HT2 hT
        have hc := HT.out.1 w9 R1.out
        go_wp2_with fail
        refine hc.mono ?_
        rintro e w10 ⟨rfl, hB⟩
        clear hc
        replace hA := hA.trans (hB.mono hA.size)
        replace hst := hst.below hB hst.lt
        replace R1 := Lib.hid (row_later R1.out hB)
        clear hB
        have hc := HF.out.2.2.2 w10 R1.out
        go_wp2_with fail
        refine hc.mono ?_
        rintro e w11 ⟨rfl, hB⟩
        clear hc
        replace hA := hA.trans (hB.mono hA.size)
        replace hst := hst.below hB hst.lt
        replace R1 := Lib.hid (row_later R1.out hB)
        clear hB
        have hc := HT.out.2 w11 R1.out
        go_wp2_with fail
        refine hc.mono ?_
        rintro e w12 ⟨rfl, hB⟩
        clear hc
        replace hA := hA.trans (hB.mono hA.size)
        replace hst := hst.below hB hst.lt
        replace R1 := Lib.hid (row_later R1.out hB)
        clear hB
        clear R1
        have hc := patternString_any w.heap.size t2 w12 hst ht2b
        go_wp2_with fail
        refine hc.mono ?_
        rintro e wp ⟨⟨s, hsz, rfl⟩, hr⟩
        clear hc
        replace hA := hA.trans (hr.below (Nat.le_of_lt hst.lt))
        clear hr hst
        have hsl : s.data.toList.length ≤ 1000 := by simpa using hsz
        have hro := readOut_rows s.data.toList
        have HR1 : ∀ W, Calls Tryz.prog 18 #[.string s] W _ := fun W => pRead_any s.data.toList (by omega) W
        have HR2 : ∀ W, Calls Tryz.prog 19 #[.string s] W _ := fun W => patternsRead_any s.data.toList (by omega) W
        generalize readOut s.data.toList = O at HR1 HR2 hro
        obtain ⟨o1, o2, o3⟩ := O
        dsimp only at HR1 HR2 hro
        have ho3 : o3.length ≤ 1000 := by have := hro.1; omega
        have HR := Lib.hid (⟨HR1, HR2⟩ : _ ∧ _)
        clear HR1 HR2 hro hsl hsz
        have hc := HR.out.1 wp
        go_wp2_with fail
        refine hc.mono ?_
        rintro e w13 ⟨v7, rfl, hS, hB⟩
        clear hc
        replace hA := hA.trans (hB.mono hA.size)
        clear hB
        obtain ⟨a7, c7, rfl⟩ := strs_two hS
        have R7 := Lib.hid hS
        clear hS
        have hc := HR.out.2 w13
        go_wp2_with fail
        refine hc.mono ?_
        rintro e w14 ⟨v8, rfl, hS, hB⟩
        clear hc
        replace hA := hA.trans (hB.mono hA.size)
        replace R7 := Lib.hid (row_later R7.out hB)
        clear hB
        obtain ⟨a8, c8, rfl⟩ := strs_two hS
        have R8 := Lib.hid hS
        clear hS
        have hc := seqEqual_same _ ho3 _ _ _ _ w14 R7.out R8.out
        go_wp2_with fail
        refine hc.mono ?_
        rintro e w15 ⟨rfl, hB⟩
        clear hc
        replace hA := hA.trans (hB.mono hA.size)
        replace R7 := Lib.hid (row_later R7.out hB)
        replace R8 := Lib.hid (row_later R8.out hB)
        clear hB
        clear R7 R8
        have hc := patterned_any w15
        go_wp2_with fail
        refine hc.mono ?_
        rintro e w16 ⟨rfl, hB⟩
        clear hc
        replace hA := hA.trans (hB.mono hA.size)
        clear hB
        have HA := Lib.hid hA
        clear hA
        go_wp2_with fail
        go_ret
        exact ⟨rfl, HA.out⟩
      · skip
        have hne1 : (E1 != 0) = true := by simpa using h1
        have hnf1 : (E1 == 0) = false := by simpa using h1
        have H1e := Lib.hid h1
        clear h1
        have HQ := Lib.hid (HE.out.2.1.symm.trans h2)
        subst h2
        have hne3 : (E3 != 0) = true := by simpa using h3
        have hnf3 : (E3 == 0) = false := by simpa using h3
        have H3e := Lib.hid h3
        clear h3
        have hc := HF.out.1 w2 R1.out
        go_wp2_with fail
        refine hc.mono ?_
        rintro e w3 ⟨rfl, hB⟩
        clear hc
        replace hA := hA.trans (hB.mono hA.size)
        replace hst := hst.below hB hst.lt
        replace R1 := Lib.hid (row_later R1.out hB)
        replace R2 := Lib.hid (row_later R2.out hB)
        clear hB
        have hc := HF.out.2.2.1 w3 R2.out
        go_wp2_with fail
        refine hc.mono ?_
        rintro e w4 ⟨rfl, hB⟩
        clear hc
        replace hA := hA.trans (hB.mono hA.size)
        replace hst := hst.below hB hst.lt
        replace R1 := Lib.hid (row_later R1.out hB)
        replace R2 := Lib.hid (row_later R2.out hB)
        clear hB
        have hc := HF.out.2.1 w4 R1.out
        go_wp2_with fail
        refine hc.mono ?_
        rintro e w5 ⟨rfl, hB⟩
        clear hc
        replace hA := hA.trans (hB.mono hA.size)
        replace hst := hst.below hB hst.lt
        replace R1 := Lib.hid (row_later R1.out hB)
        replace R2 := Lib.hid (row_later R2.out hB)
        clear hB
        have hsb := sequences_bad S z (by have := HE.out.2.2.2.1; omega) (fun k hk => by have := HE.out.2.2.2.2.2.1 k hk; omega) (by rw [← HE.out.1]; exact H1e.out) _ w5 _ R1.out
        rw [← HE.out.1] at hsb
        have hc := hsb
        go_wp2_with fail
        refine hc.mono ?_
        rintro e w6 ⟨rfl, hB⟩
        clear hc
        replace hA := hA.trans (hB.mono hA.size)
        replace hst := hst.below hB hst.lt
        replace R1 := Lib.hid (row_later R1.out hB)
        replace R2 := Lib.hid (row_later R2.out hB)
        clear hB
        clear hsb
        have hq := seqErr_none HQ.out
        have HQ2 := Lib.hid hq
        clear hq
        have hc := fromSequences_ok Q HQ.out _ w6 _ R2.out
        go_wp2_with fail
        refine hc.mono ?_
        rintro e w7 ⟨v5, rfl, hS, hB⟩
        clear hc
        replace hA := hA.trans (hB.mono hA.size)
        replace hst := hst.below hB hst.lt
        replace R1 := Lib.hid (row_later R1.out hB)
        replace R2 := Lib.hid (row_later R2.out hB)
        clear hB
        obtain ⟨a5, c5, rfl⟩ := strs_two hS
        have R5 := Lib.hid hS
        clear hS
        have hc := rvectors_all Q (Q.getD 0 []).length HQ2.out.1 (by have := HQ2.out.2.1; omega) (by have := HQ2.out.2.2.1; omega) HQ2.out.2.2.2 _ w7 _ R2.out
        go_wp2_with fail
        refine hc.mono ?_
        rintro e w8 ⟨v6, rfl, hS, hB⟩
        clear hc
        replace hA := hA.trans (hB.mono hA.size)
        replace hst := hst.below hB hst.lt
        replace R1 := Lib.hid (row_later R1.out hB)
        replace R2 := Lib.hid (row_later R2.out hB)
        replace R5 := Lib.hid (row_later R5.out hB)
        clear hB
        obtain ⟨a6, c6, rfl⟩ := strs_two hS
        have R6 := Lib.hid hS
        clear hS
        have hc := seqEqual_same _ (by rw [turnL_length]; have := HQ2.out.2.2.1; omega) _ _ _ _ w8 R5.out R6.out
        go_wp2_with fail
        refine hc.mono ?_
        rintro e w9 ⟨rfl, hB⟩
        clear hc
        replace hA := hA.trans (hB.mono hA.size)
        replace hst := hst.below hB hst.lt
        replace R1 := Lib.hid (row_later R1.out hB)
        replace R2 := Lib.hid (row_later R2.out hB)
        replace R5 := Lib.hid (row_later R5.out hB)
        replace R6 := Lib.hid (row_later R6.out hB)
        clear hB
        clear R5 R6
        clear R2
        have hsb := pText_bad S (by have := HE.out.2.2.2.1; omega) (fun k hk => by have := HE.out.2.2.2.2.2.1 k hk; omega) (by rw [← HE.out.2.2.1]; exact H3e.out) _ w9 _ R1.out
        rw [← HE.out.2.2.1] at hsb
        have hc := hsb
        go_wp2_with fail
        refine hc.mono ?_
        rintro e w10 ⟨rfl, hB⟩
        clear hc
        replace hA := hA.trans (hB.mono hA.size)
        replace hst := hst.below hB hst.lt
        replace R1 := Lib.hid (row_later R1.out hB)
        clear hB
        clear hsb
        have hc := HF.out.2.2.2 w10 R1.out
        go_wp2_with fail
        refine hc.mono ?_
        rintro e w11 ⟨rfl, hB⟩
        clear hc
        replace hA := hA.trans (hB.mono hA.size)
        replace hst := hst.below hB hst.lt
        replace R1 := Lib.hid (row_later R1.out hB)
        clear hB
        clear R1
        have hc := patternString_any w.heap.size t2 w11 hst ht2b
        go_wp2_with fail
        refine hc.mono ?_
        rintro e wp ⟨⟨s, hsz, rfl⟩, hr⟩
        clear hc
        replace hA := hA.trans (hr.below (Nat.le_of_lt hst.lt))
        clear hr hst
        have hsl : s.data.toList.length ≤ 1000 := by simpa using hsz
        have hro := readOut_rows s.data.toList
        have HR1 : ∀ W, Calls Tryz.prog 18 #[.string s] W _ := fun W => pRead_any s.data.toList (by omega) W
        have HR2 : ∀ W, Calls Tryz.prog 19 #[.string s] W _ := fun W => patternsRead_any s.data.toList (by omega) W
        generalize readOut s.data.toList = O at HR1 HR2 hro
        obtain ⟨o1, o2, o3⟩ := O
        dsimp only at HR1 HR2 hro
        have ho3 : o3.length ≤ 1000 := by have := hro.1; omega
        have HR := Lib.hid (⟨HR1, HR2⟩ : _ ∧ _)
        clear HR1 HR2 hro hsl hsz
        have hc := HR.out.1 wp
        go_wp2_with fail
        refine hc.mono ?_
        rintro e w12 ⟨v7, rfl, hS, hB⟩
        clear hc
        replace hA := hA.trans (hB.mono hA.size)
        clear hB
        obtain ⟨a7, c7, rfl⟩ := strs_two hS
        have R7 := Lib.hid hS
        clear hS
        have hc := HR.out.2 w12
        go_wp2_with fail
        refine hc.mono ?_
        rintro e w13 ⟨v8, rfl, hS, hB⟩
        clear hc
        replace hA := hA.trans (hB.mono hA.size)
        replace R7 := Lib.hid (row_later R7.out hB)
        clear hB
        obtain ⟨a8, c8, rfl⟩ := strs_two hS
        have R8 := Lib.hid hS
        clear hS
        have hc := seqEqual_same _ ho3 _ _ _ _ w13 R7.out R8.out
        go_wp2_with fail
        refine hc.mono ?_
        rintro e w14 ⟨rfl, hB⟩
        clear hc
        replace hA := hA.trans (hB.mono hA.size)
        replace R7 := Lib.hid (row_later R7.out hB)
        replace R8 := Lib.hid (row_later R8.out hB)
        clear hB
        clear R7 R8
        have hc := patterned_any w14
        go_wp2_with fail
        refine hc.mono ?_
        rintro e w15 ⟨rfl, hB⟩
        clear hc
        replace hA := hA.trans (hB.mono hA.size)
        clear hB
        have HA := Lib.hid hA
        clear hA
        go_wp2_with fail
        go_ret
        exact ⟨rfl, HA.out⟩
    · skip
      by_cases h3 : E3 = 0
      · skip
        have hne1 : (E1 != 0) = true := by simpa using h1
        have hnf1 : (E1 == 0) = false := by simpa using h1
        have H1e := Lib.hid h1
        clear h1
        have hne2 : (E2 != 0) = true := by simpa using h2
        have hnf2 : (E2 == 0) = false := by simpa using h2
        have H2e := Lib.hid h2
        clear h2
        have HL := Lib.hid (HE.out.2.2.1.symm.trans h3)
        subst h3
        have hc := HF.out.1 w2 R1.out
        go_wp2_with fail
        refine hc.mono ?_
        rintro e w3 ⟨rfl, hB⟩
        clear hc
        replace hA := hA.trans (hB.mono hA.size)
        replace hst := hst.below hB hst.lt
        replace R1 := Lib.hid (row_later R1.out hB)
        replace R2 := Lib.hid (row_later R2.out hB)
        clear hB
        have hc := HF.out.2.2.1 w3 R2.out
        go_wp2_with fail
        refine hc.mono ?_
        rintro e w4 ⟨rfl, hB⟩
        clear hc
        replace hA := hA.trans (hB.mono hA.size)
        replace hst := hst.below hB hst.lt
        replace R1 := Lib.hid (row_later R1.out hB)
        replace R2 := Lib.hid (row_later R2.out hB)
        clear hB
        have hc := HF.out.2.1 w4 R1.out
        go_wp2_with fail
        refine hc.mono ?_
        rintro e w5 ⟨rfl, hB⟩
        clear hc
        replace hA := hA.trans (hB.mono hA.size)
        replace hst := hst.below hB hst.lt
        replace R1 := Lib.hid (row_later R1.out hB)
        replace R2 := Lib.hid (row_later R2.out hB)
        clear hB
        have hsb := sequences_bad S z (by have := HE.out.2.2.2.1; omega) (fun k hk => by have := HE.out.2.2.2.2.2.1 k hk; omega) (by rw [← HE.out.1]; exact H1e.out) _ w5 _ R1.out
        rw [← HE.out.1] at hsb
        have hc := hsb
        go_wp2_with fail
        refine hc.mono ?_
        rintro e w6 ⟨rfl, hB⟩
        clear hc
        replace hA := hA.trans (hB.mono hA.size)
        replace hst := hst.below hB hst.lt
        replace R1 := Lib.hid (row_later R1.out hB)
        replace R2 := Lib.hid (row_later R2.out hB)
        clear hB
        clear hsb
        have hsb := fromSequences_bad Q (by have := HE.out.2.2.2.2.1; omega) (fun k hk => by have := HE.out.2.2.2.2.2.2 k hk; omega) (by rw [← HE.out.2.1]; exact H2e.out) _ w6 _ R2.out
        rw [← HE.out.2.1] at hsb
        have hc := hsb
        go_wp2_with fail
        refine hc.mono ?_
        rintro e w7 ⟨rfl, hB⟩
        clear hc
        replace hA := hA.trans (hB.mono hA.size)
        replace hst := hst.below hB hst.lt
        replace R1 := Lib.hid (row_later R1.out hB)
        replace R2 := Lib.hid (row_later R2.out hB)
        clear hB
        clear hsb
        clear R2
        obtain ⟨T, hT⟩ : ∃ T : ByteArray, T = ⟨(textL S).toArray⟩ := ⟨_, rfl⟩
        have HT1 := fun W h => pText_ok S HL.out W0.heap.size W (.slice a1 S.length c1) h
        have HT2 := fun W h => patternLines_any S HE.out.2.2.2.1 HE.out.2.2.2.2.2.1 W0.heap.size W (.slice a1 S.length c1) h
        rw [← hT] at HT1 HT2
        have HT := Lib.hid (⟨HT1, HT2⟩ : _ ∧ _)
        clear HT1 HT2 hT
        have hc := HT.out.1 w7 R1.out
        go_wp2_with fail
        refine hc.mono ?_
        rintro e w8 ⟨rfl, hB⟩
        clear hc
        replace hA := hA.trans (hB.mono hA.size)
        replace hst := hst.below hB hst.lt
        replace R1 := Lib.hid (row_later R1.out hB)
        clear hB
        have hc := HF.out.2.2.2 w8 R1.out
        go_wp2_with fail
        refine hc.mono ?_
        rintro e w9 ⟨rfl, hB⟩
        clear hc
        replace hA := hA.trans (hB.mono hA.size)
        replace hst := hst.below hB hst.lt
        replace R1 := Lib.hid (row_later R1.out hB)
        clear hB
        have hc := HT.out.2 w9 R1.out
        go_wp2_with fail
        refine hc.mono ?_
        rintro e w10 ⟨rfl, hB⟩
        clear hc
        replace hA := hA.trans (hB.mono hA.size)
        replace hst := hst.below hB hst.lt
        replace R1 := Lib.hid (row_later R1.out hB)
        clear hB
        clear R1
        have hc := patternString_any w.heap.size t2 w10 hst ht2b
        go_wp2_with fail
        refine hc.mono ?_
        rintro e wp ⟨⟨s, hsz, rfl⟩, hr⟩
        clear hc
        replace hA := hA.trans (hr.below (Nat.le_of_lt hst.lt))
        clear hr hst
        have hsl : s.data.toList.length ≤ 1000 := by simpa using hsz
        have hro := readOut_rows s.data.toList
        have HR1 : ∀ W, Calls Tryz.prog 18 #[.string s] W _ := fun W => pRead_any s.data.toList (by omega) W
        have HR2 : ∀ W, Calls Tryz.prog 19 #[.string s] W _ := fun W => patternsRead_any s.data.toList (by omega) W
        generalize readOut s.data.toList = O at HR1 HR2 hro
        obtain ⟨o1, o2, o3⟩ := O
        dsimp only at HR1 HR2 hro
        have ho3 : o3.length ≤ 1000 := by have := hro.1; omega
        have HR := Lib.hid (⟨HR1, HR2⟩ : _ ∧ _)
        clear HR1 HR2 hro hsl hsz
        have hc := HR.out.1 wp
        go_wp2_with fail
        refine hc.mono ?_
        rintro e w11 ⟨v7, rfl, hS, hB⟩
        clear hc
        replace hA := hA.trans (hB.mono hA.size)
        clear hB
        obtain ⟨a7, c7, rfl⟩ := strs_two hS
        have R7 := Lib.hid hS
        clear hS
        have hc := HR.out.2 w11
        go_wp2_with fail
        refine hc.mono ?_
        rintro e w12 ⟨v8, rfl, hS, hB⟩
        clear hc
        replace hA := hA.trans (hB.mono hA.size)
        replace R7 := Lib.hid (row_later R7.out hB)
        clear hB
        obtain ⟨a8, c8, rfl⟩ := strs_two hS
        have R8 := Lib.hid hS
        clear hS
        have hc := seqEqual_same _ ho3 _ _ _ _ w12 R7.out R8.out
        go_wp2_with fail
        refine hc.mono ?_
        rintro e w13 ⟨rfl, hB⟩
        clear hc
        replace hA := hA.trans (hB.mono hA.size)
        replace R7 := Lib.hid (row_later R7.out hB)
        replace R8 := Lib.hid (row_later R8.out hB)
        clear hB
        clear R7 R8
        have hc := patterned_any w13
        go_wp2_with fail
        refine hc.mono ?_
        rintro e w14 ⟨rfl, hB⟩
        clear hc
        replace hA := hA.trans (hB.mono hA.size)
        clear hB
        have HA := Lib.hid hA
        clear hA
        go_wp2_with fail
        go_ret
        exact ⟨rfl, HA.out⟩
      · skip
        have hne1 : (E1 != 0) = true := by simpa using h1
        have hnf1 : (E1 == 0) = false := by simpa using h1
        have H1e := Lib.hid h1
        clear h1
        have hne2 : (E2 != 0) = true := by simpa using h2
        have hnf2 : (E2 == 0) = false := by simpa using h2
        have H2e := Lib.hid h2
        clear h2
        have hne3 : (E3 != 0) = true := by simpa using h3
        have hnf3 : (E3 == 0) = false := by simpa using h3
        have H3e := Lib.hid h3
        clear h3
        have hc := HF.out.1 w2 R1.out
        go_wp2_with fail
        refine hc.mono ?_
        rintro e w3 ⟨rfl, hB⟩
        clear hc
        replace hA := hA.trans (hB.mono hA.size)
        replace hst := hst.below hB hst.lt
        replace R1 := Lib.hid (row_later R1.out hB)
        replace R2 := Lib.hid (row_later R2.out hB)
        clear hB
        have hc := HF.out.2.2.1 w3 R2.out
        go_wp2_with fail
        refine hc.mono ?_
        rintro e w4 ⟨rfl, hB⟩
        clear hc
        replace hA := hA.trans (hB.mono hA.size)
        replace hst := hst.below hB hst.lt
        replace R1 := Lib.hid (row_later R1.out hB)
        replace R2 := Lib.hid (row_later R2.out hB)
        clear hB
        have hc := HF.out.2.1 w4 R1.out
        go_wp2_with fail
        refine hc.mono ?_
        rintro e w5 ⟨rfl, hB⟩
        clear hc
        replace hA := hA.trans (hB.mono hA.size)
        replace hst := hst.below hB hst.lt
        replace R1 := Lib.hid (row_later R1.out hB)
        replace R2 := Lib.hid (row_later R2.out hB)
        clear hB
        have hsb := sequences_bad S z (by have := HE.out.2.2.2.1; omega) (fun k hk => by have := HE.out.2.2.2.2.2.1 k hk; omega) (by rw [← HE.out.1]; exact H1e.out) _ w5 _ R1.out
        rw [← HE.out.1] at hsb
        have hc := hsb
        go_wp2_with fail
        refine hc.mono ?_
        rintro e w6 ⟨rfl, hB⟩
        clear hc
        replace hA := hA.trans (hB.mono hA.size)
        replace hst := hst.below hB hst.lt
        replace R1 := Lib.hid (row_later R1.out hB)
        replace R2 := Lib.hid (row_later R2.out hB)
        clear hB
        clear hsb
        have hsb := fromSequences_bad Q (by have := HE.out.2.2.2.2.1; omega) (fun k hk => by have := HE.out.2.2.2.2.2.2 k hk; omega) (by rw [← HE.out.2.1]; exact H2e.out) _ w6 _ R2.out
        rw [← HE.out.2.1] at hsb
        have hc := hsb
        go_wp2_with fail
        refine hc.mono ?_
        rintro e w7 ⟨rfl, hB⟩
        clear hc
        replace hA := hA.trans (hB.mono hA.size)
        replace hst := hst.below hB hst.lt
        replace R1 := Lib.hid (row_later R1.out hB)
        replace R2 := Lib.hid (row_later R2.out hB)
        clear hB
        clear hsb
        clear R2
        have hsb := pText_bad S (by have := HE.out.2.2.2.1; omega) (fun k hk => by have := HE.out.2.2.2.2.2.1 k hk; omega) (by rw [← HE.out.2.2.1]; exact H3e.out) _ w7 _ R1.out
        rw [← HE.out.2.2.1] at hsb
        have hc := hsb
        go_wp2_with fail
        refine hc.mono ?_
        rintro e w8 ⟨rfl, hB⟩
        clear hc
        replace hA := hA.trans (hB.mono hA.size)
        replace hst := hst.below hB hst.lt
        replace R1 := Lib.hid (row_later R1.out hB)
        clear hB
        clear hsb
        have hc := HF.out.2.2.2 w8 R1.out
        go_wp2_with fail
        refine hc.mono ?_
        rintro e w9 ⟨rfl, hB⟩
        clear hc
        replace hA := hA.trans (hB.mono hA.size)
        replace hst := hst.below hB hst.lt
        replace R1 := Lib.hid (row_later R1.out hB)
        clear hB
        clear R1
        have hc := patternString_any w.heap.size t2 w9 hst ht2b
        go_wp2_with fail
        refine hc.mono ?_
        rintro e wp ⟨⟨s, hsz, rfl⟩, hr⟩
        clear hc
        replace hA := hA.trans (hr.below (Nat.le_of_lt hst.lt))
        clear hr hst
        have hsl : s.data.toList.length ≤ 1000 := by simpa using hsz
        have hro := readOut_rows s.data.toList
        have HR1 : ∀ W, Calls Tryz.prog 18 #[.string s] W _ := fun W => pRead_any s.data.toList (by omega) W
        have HR2 : ∀ W, Calls Tryz.prog 19 #[.string s] W _ := fun W => patternsRead_any s.data.toList (by omega) W
        generalize readOut s.data.toList = O at HR1 HR2 hro
        obtain ⟨o1, o2, o3⟩ := O
        dsimp only at HR1 HR2 hro
        have ho3 : o3.length ≤ 1000 := by have := hro.1; omega
        have HR := Lib.hid (⟨HR1, HR2⟩ : _ ∧ _)
        clear HR1 HR2 hro hsl hsz
        have hc := HR.out.1 wp
        go_wp2_with fail
        refine hc.mono ?_
        rintro e w10 ⟨v7, rfl, hS, hB⟩
        clear hc
        replace hA := hA.trans (hB.mono hA.size)
        clear hB
        obtain ⟨a7, c7, rfl⟩ := strs_two hS
        have R7 := Lib.hid hS
        clear hS
        have hc := HR.out.2 w10
        go_wp2_with fail
        refine hc.mono ?_
        rintro e w11 ⟨v8, rfl, hS, hB⟩
        clear hc
        replace hA := hA.trans (hB.mono hA.size)
        replace R7 := Lib.hid (row_later R7.out hB)
        clear hB
        obtain ⟨a8, c8, rfl⟩ := strs_two hS
        have R8 := Lib.hid hS
        clear hS
        have hc := seqEqual_same _ ho3 _ _ _ _ w11 R7.out R8.out
        go_wp2_with fail
        refine hc.mono ?_
        rintro e w12 ⟨rfl, hB⟩
        clear hc
        replace hA := hA.trans (hB.mono hA.size)
        replace R7 := Lib.hid (row_later R7.out hB)
        replace R8 := Lib.hid (row_later R8.out hB)
        clear hB
        clear R7 R8
        have hc := patterned_any w12
        go_wp2_with fail
        refine hc.mono ?_
        rintro e w13 ⟨rfl, hB⟩
        clear hc
        replace hA := hA.trans (hB.mono hA.size)
        clear hB
        have HA := Lib.hid hA
        clear hA
        go_wp2_with fail
        go_ret
        exact ⟨rfl, HA.out⟩
end Go.Proofs.YtgnkihiibednoabGreatDoor
