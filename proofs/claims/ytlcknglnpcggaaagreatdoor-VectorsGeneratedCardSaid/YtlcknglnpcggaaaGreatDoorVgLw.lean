/- The walk of VectorsGenerated: it returns true, and turns nothing that was there. -/
import Derived.Test.YtlcknglnpcggaaaGreatDoorVgAl
namespace Go.Proofs.YtlcknglnpcggaaaGreatDoor
open Go.RowKit

theorem strs_slice {B : Nat} {w : World} {v : Value} {S : List (List UInt8)} (h : StrsAt B w v S) : ∃ a n c, v = .slice a n c := by
  obtain ⟨-, ⟨e, h0⟩ | ⟨g, cap, cur, e, -⟩⟩ := h
  · exact ⟨none, 0, 0, e⟩
  · exact ⟨_, _, _, e⟩
theorem turnL_len (S : List (List UInt8)) (long : Nat) : (turnL S long).length = long := by simp [turnL]
theorem seqEqual_same (S : List (List UInt8)) (hz : S.length ≤ 1000) (B1 B2 : Nat) (v1 v2 : Value) (w : World) (h1 : StrsAt B1 w v1 S) (h2 : StrsAt B2 w v2 S) :
    Calls Tryz.prog 15 #[v1, v2] w fun e w' => e = .returned (.bool true) ∧ Below w.heap.size w w' := by
  have h := seqEqual_any S S ⟨hz, hz⟩ B1 B2 v1 v2 w h1 h2
  rw [decide_eq_true rfl] at h
  exact h

set_option maxHeartbeats 8000000 in
set_option maxRecDepth 100000 in
theorem vlaw_any (a0 : Option Addr) (len cap : Nat) (w : World) (h : RowIn w a0 len) (hU : U8T w) (hz : Tz w) :
    Calls Tryz.prog 3 #[.slice a0 len cap] w fun e w' => e = .returned (.bool true) ∧ Below w.heap.size w w' := by
  have hs := Strm.start (cap := cap) h
  obtain ⟨W0, hW0⟩ : ∃ W0 : World, w.alloc (.cells #[.slice a0 len cap, .int .i64 0] 25) = W0 := ⟨_, rfl⟩
  rw [hW0] at hs
  have hB0 : Below w.heap.size w W0 := by rw [← hW0]; exact (Below.refl _ w).alloc (Nat.le_refl _) _
  have HT := Lib.hid (⟨hz, hU⟩ : _ ∧ _)
  have HB0 := Lib.hid hB0
  have hs0 := hs.lt
  clear h hz hU hB0
  go_enter Tryz.func3, Tryz.ntmps3
  go_wp2_with fail
  have HW0 := Lib.hid hW0
  clear hW0
  refine (odd_any w.heap.size 0 1 100 _ hs (by omega) (by decide) (by decide) (by decide)).mono ?_
  rintro e w1 ⟨⟨zn, _, _, rfl⟩, hr1⟩
  obtain ⟨t1, ht1, ht1', hs1⟩ := hr1.strm
  have HR1 := Lib.hid hr1
  have hlt1 := hs1.lt
  clear hr1
  go_wp2_with fail
  refine (pick_any w.heap.size t1 w1.heap.size 0 3 3 (fun k => [0, 1, 2].getD k 0) _ (hs1.alloc _) (by omega) (by decide) (by decide) (by omega) (ints_fresh w1 [0, 1, 2] _)).mono ?_
  rintro e w2 ⟨⟨k, hk, rfl⟩, hr2⟩
  have hbit : BitIn ([0, 1, 2].getD k (0 : Int)) ∨ [0, 1, 2].getD k (0 : Int) = 2 := by
    have : k = 0 ∨ k = 1 ∨ k = 2 := by omega
    rcases this with rfl | rfl | rfl
    · exact .inl (.inl rfl)
    · exact .inl (.inr rfl)
    · exact .inr rfl
  have hr2' := hr2.after_alloc
  generalize [0, 1, 2].getD k (0 : Int) = zb at hbit ⊢
  obtain ⟨t2, ht2, ht2', hs2⟩ := hr2'.strm
  have HR2 := Lib.hid hr2'
  have HBit := Lib.hid hbit
  clear hr2 hr2' hbit hk
  go_wp2_with fail
  refine (odd_any w.heap.size t2 1 3 _ hs2 (by omega) (by decide) (by decide) (by decide)).mono ?_
  rintro e w3 ⟨⟨zg, _, _, rfl⟩, hr3⟩
  obtain ⟨t3, ht3, ht3', hs3⟩ := hr3.strm
  have HR3 := Lib.hid hr3
  clear hr3
  go_wp2_with fail
  refine (flip_any w.heap.size t3 2 _ hs3 (by omega) (by decide) (by decide)).mono ?_
  rintro e w4 ⟨⟨fl, rfl⟩, hr4⟩
  obtain ⟨t4, ht4, ht4', hs4⟩ := hr4.strm
  have hr04 := (((HR1.out.then ht1 ht1' HR2.out).then (by omega) (by omega) HR3.out).then (by omega) (by omega) hr4)
  have hB4 : Below w.heap.size w w4 := HB0.out.trans (hr04.below (by omega))
  have HB4 := Lib.hid (⟨hB4, hr04⟩ : _ ∧ _)
  clear hr4 hr04 hB4 HR1 HR2 HR3 HB0 HW0
  go_upto_if 31 with (fail)
  go_cut [4] (fun v wx => ∃ z : Int, v = .int .i64 z ∧ Below w.heap.size w wx)
  case first =>
    cases fl
    · go_wp2_with fail
      go_meet
      exact ⟨zn, rfl, HB4.out.1⟩
    · go_wp2_with fail
      refine (range_any w.heap.size t4 1 12 _ hs4 (by omega) (by decide) (by decide) (by decide)).mono ?_
      rintro e w5 ⟨⟨z, _, _, rfl⟩, hr5⟩
      have hB5 := HB4.out.1.trans (hr5.below (by have := HB4.out.1.size; omega))
      go_wp2_with fail
      go_meet
      exact ⟨z, rfl, hB5⟩
  case rest =>
    obtain ⟨n, rfl, hA0⟩ := hcut
    clear hs hs0 hs1 hs2 hs3 hs4 hlt1 ht1 ht1' ht2 ht2' ht3 ht3' ht4 ht4' HB4
    have hsp := spanFault_any n 1 100
    by_cases hn : netsErr n = 0
    · have hin : 1 ≤ n ∧ n ≤ 100 := by
        unfold netsErr at hn
        by_cases h : 1 ≤ n ∧ n ≤ 100
        · exact h
        · rw [if_neg h] at hn; cases hn
      have e0 : spanErr n 1 100 = 0 := by simp [spanErr, inB, hin.1, hin.2]
      rw [e0] at hsp
      obtain ⟨nets, rfl⟩ : ∃ nets : Nat, n = (nets : Int) := ⟨n.toNat, by omega⟩
      have h1 : 1 ≤ nets := by omega
      have h2 : nets ≤ 100 := by omega
      clear e0 hin
      have hgf := goalFault_any zg
      have hbf := spanFault_any zb 0 1
      rcases HBit.out with hb | hb
      · have e1 : spanErr zb 0 1 = 0 := by obtain rfl | rfl := hb <;> rfl
        rw [e1] at hbf
        have HBI := Lib.hid hb
        clear e1 hb HBit
        rcases goal_dec zg with ⟨hg, hg2⟩ | ⟨hg1, hg2, hg3, hg4⟩
        · rw [hg2] at hgf
          have HG := Lib.hid hg
          clear hg hg2
          have hA := hA0
          clear hA0
          have hc := hsp wc
          go_wp2_with fail
          refine hc.mono ?_
          rintro e w' ⟨rfl, rfl⟩
          clear hc
          have hc := counting_ok nets h1 h2 wc
          go_wp2_with fail
          refine hc.mono ?_
          rintro e x2 ⟨k2, v1, hk2, hL2, rfl, hS, hB⟩
          clear hc
          replace hA := hA.trans (hB.mono hA.size)
          clear hB
          obtain ⟨a2, n2, c2, rfl⟩ := strs_slice hS
          have R1 := Lib.hid hS
          clear hS
          have HL2 := Lib.hid hL2
          clear hL2
          have hc := complemented_ok nets h1 h2 x2 (HT.out.2.below hA HT.out.2.lt.1 HT.out.2.lt.2)
          go_wp2_with fail
          refine hc.mono ?_
          rintro e x3 ⟨v2, rfl, hS, hB⟩
          clear hc
          replace hA := hA.trans (hB.mono hA.size)
          replace R1 := Lib.hid (row_later R1.out hB)
          clear hB
          obtain ⟨a3, n3, c3, rfl⟩ := strs_slice hS
          have R2 := Lib.hid hS
          clear hS
          have hc := walking_ok zb HBI.out nets h1 h2 x3
          go_wp2_with fail
          refine hc.mono ?_
          rintro e x4 ⟨v3, rfl, hS, hB⟩
          clear hc
          replace hA := hA.trans (hB.mono hA.size)
          replace R1 := Lib.hid (row_later R1.out hB)
          replace R2 := Lib.hid (row_later R2.out hB)
          clear hB
          obtain ⟨a4, n4, c4, rfl⟩ := strs_slice hS
          have R3 := Lib.hid hS
          clear hS
          have hc := minimum_ok zg HG.out nets h1 h2 x4
          go_wp2_with fail
          refine hc.mono ?_
          rintro e x5 ⟨k, hk, hL, rfl, hB⟩
          clear hc
          replace hA := hA.trans (hB.mono hA.size)
          replace R1 := Lib.hid (row_later R1.out hB)
          replace R2 := Lib.hid (row_later R2.out hB)
          replace R3 := Lib.hid (row_later R3.out hB)
          clear hB
          have HL := Lib.hid hL
          clear hL
          have hc := generate_ok zg HG.out nets h1 h2 x5
          go_wp2_with fail
          refine hc.mono ?_
          rintro e x6 ⟨k3, v5, hk3, hL3, rfl, hS, hB⟩
          clear hc
          replace hA := hA.trans (hB.mono hA.size)
          replace R1 := Lib.hid (row_later R1.out hB)
          replace R2 := Lib.hid (row_later R2.out hB)
          replace R3 := Lib.hid (row_later R3.out hB)
          clear hB
          obtain rfl : k3 = k := hL3.unique HL.out
          clear hL3 hk3
          obtain ⟨a5, n5, c5, rfl⟩ := strs_slice hS
          have R5 := Lib.hid hS
          clear hS
          have hc := countingOf_any nets h1 h2 x6 (HT.out.1.below hA HT.out.1.lt)
          go_wp2_with fail
          refine hc.mono ?_
          rintro e x7 ⟨k6, u1, hk6, hL6, rfl, hS, hB⟩
          clear hc
          replace hA := hA.trans (hB.mono hA.size)
          replace R1 := Lib.hid (row_later R1.out hB)
          replace R2 := Lib.hid (row_later R2.out hB)
          replace R3 := Lib.hid (row_later R3.out hB)
          replace R5 := Lib.hid (row_later R5.out hB)
          clear hB
          obtain rfl : k6 = k2 := hL6.unique HL2.out
          clear hL6
          obtain ⟨a6, n6, c6, rfl⟩ := strs_slice hS
          have hc := seqEqual_same _ (by rw [turnL_len]; omega) _ _ _ _ x7 R1.out hS
          go_wp2_with fail
          refine hc.mono ?_
          rintro e x8 ⟨rfl, hB⟩
          clear hc
          replace hA := hA.trans (hB.mono hA.size)
          replace R1 := Lib.hid (row_later R1.out hB)
          replace R2 := Lib.hid (row_later R2.out hB)
          replace R3 := Lib.hid (row_later R3.out hB)
          replace R5 := Lib.hid (row_later R5.out hB)
          clear hB
          clear hS R1
          have hc := complementedOf_any nets h1 h2 x8 (HT.out.1.below hA HT.out.1.lt) (HT.out.2.below hA HT.out.2.lt.1 HT.out.2.lt.2)
          go_wp2_with fail
          refine hc.mono ?_
          rintro e x9 ⟨u2, rfl, hS, hB⟩
          clear hc
          replace hA := hA.trans (hB.mono hA.size)
          replace R2 := Lib.hid (row_later R2.out hB)
          replace R3 := Lib.hid (row_later R3.out hB)
          replace R5 := Lib.hid (row_later R5.out hB)
          clear hB
          obtain ⟨a7, n7, c7, rfl⟩ := strs_slice hS
          have hc := seqEqual_same _ (by rw [turnL_len]; have := cLen_le nets (by omega); omega) _ _ _ _ x9 R2.out hS
          go_wp2_with fail
          refine hc.mono ?_
          rintro e x10 ⟨rfl, hB⟩
          clear hc
          replace hA := hA.trans (hB.mono hA.size)
          replace R2 := Lib.hid (row_later R2.out hB)
          replace R3 := Lib.hid (row_later R3.out hB)
          replace R5 := Lib.hid (row_later R5.out hB)
          clear hB
          clear hS R2
          have hc := hbf x10
          go_wp2_with fail
          refine hc.mono ?_
          rintro e w' ⟨rfl, rfl⟩
          clear hc
          have hc := walkingOf_ok zb HBI.out nets h1 h2 x10
          go_wp2_with fail
          refine hc.mono ?_
          rintro e x12 ⟨u3, rfl, hS, hB⟩
          clear hc
          replace hA := hA.trans (hB.mono hA.size)
          replace R3 := Lib.hid (row_later R3.out hB)
          replace R5 := Lib.hid (row_later R5.out hB)
          clear hB
          obtain ⟨a8, n8, c8, rfl⟩ := strs_slice hS
          have hc := seqEqual_same _ (by rw [turnL_len]; omega) _ _ _ _ x12 R3.out hS
          go_wp2_with fail
          refine hc.mono ?_
          rintro e x13 ⟨rfl, hB⟩
          clear hc
          replace hA := hA.trans (hB.mono hA.size)
          replace R3 := Lib.hid (row_later R3.out hB)
          replace R5 := Lib.hid (row_later R5.out hB)
          clear hB
          clear hS R3
          have hc := hgf x13
          go_wp2_with fail
          refine hc.mono ?_
          rintro e w' ⟨rfl, rfl⟩
          clear hc
          have hc := leastOf_ok zg HG.out nets h1 h2 x13 (HT.out.1.below hA HT.out.1.lt)
          go_wp2_with fail
          refine hc.mono ?_
          rintro e x15 ⟨k9, hk9, hL9, rfl, hB⟩
          clear hc
          replace hA := hA.trans (hB.mono hA.size)
          replace R5 := Lib.hid (row_later R5.out hB)
          clear hB
          obtain rfl : k9 = k3 := hL9.unique HL.out
          clear hL9 hk9
          have hc := generatedOf_ok zg HG.out nets h1 h2 x15 (HT.out.1.below hA HT.out.1.lt)
          go_wp2_with fail
          refine hc.mono ?_
          rintro e x16 ⟨k10, u5, hk10, hL10, rfl, hS, hB⟩
          clear hc
          replace hA := hA.trans (hB.mono hA.size)
          replace R5 := Lib.hid (row_later R5.out hB)
          clear hB
          obtain rfl : k10 = k9 := hL10.unique HL.out
          clear hL10
          obtain ⟨a9, n9, c9, rfl⟩ := strs_slice hS
          have hc := seqEqual_same _ (by rw [turnL_len]; omega) _ _ _ _ x16 R5.out hS
          go_wp2_with fail
          refine hc.mono ?_
          rintro e x17 ⟨rfl, hB⟩
          clear hc
          replace hA := hA.trans (hB.mono hA.size)
          replace R5 := Lib.hid (row_later R5.out hB)
          clear hB
          clear hS R5
          have hc := patterned_any x17
          go_wp2_with fail
          refine hc.mono ?_
          rintro e x18 ⟨rfl, hB⟩
          clear hc
          replace hA := hA.trans (hB.mono hA.size)
          clear hB
          go_wp2_with fail
          go_ret
          exact ⟨rfl, hA⟩
        · rw [hg4] at hgf
          have HG := Lib.hid (⟨hn, hg1, hg2, hg3⟩ : _ ∧ _ ∧ _ ∧ _)
          clear hg1 hg2 hg3 hg4
          have hA := hA0
          clear hA0
          have hc := hsp wc
          go_wp2_with fail
          refine hc.mono ?_
          rintro e w' ⟨rfl, rfl⟩
          clear hc
          have hc := counting_ok nets h1 h2 wc
          go_wp2_with fail
          refine hc.mono ?_
          rintro e x2 ⟨k2, v1, hk2, hL2, rfl, hS, hB⟩
          clear hc
          replace hA := hA.trans (hB.mono hA.size)
          clear hB
          obtain ⟨a2, n2, c2, rfl⟩ := strs_slice hS
          have R1 := Lib.hid hS
          clear hS
          have HL2 := Lib.hid hL2
          clear hL2
          have hc := complemented_ok nets h1 h2 x2 (HT.out.2.below hA HT.out.2.lt.1 HT.out.2.lt.2)
          go_wp2_with fail
          refine hc.mono ?_
          rintro e x3 ⟨v2, rfl, hS, hB⟩
          clear hc
          replace hA := hA.trans (hB.mono hA.size)
          replace R1 := Lib.hid (row_later R1.out hB)
          clear hB
          obtain ⟨a3, n3, c3, rfl⟩ := strs_slice hS
          have R2 := Lib.hid hS
          clear hS
          have hc := walking_ok zb HBI.out nets h1 h2 x3
          go_wp2_with fail
          refine hc.mono ?_
          rintro e x4 ⟨v3, rfl, hS, hB⟩
          clear hc
          replace hA := hA.trans (hB.mono hA.size)
          replace R1 := Lib.hid (row_later R1.out hB)
          replace R2 := Lib.hid (row_later R2.out hB)
          clear hB
          obtain ⟨a4, n4, c4, rfl⟩ := strs_slice hS
          have R3 := Lib.hid hS
          clear hS
          have hc := minimum_bad (nets : Int) zg 4 x4 (shortest_goal (nets : Int) zg HG.out.1 (by have := HG.out.2; omega) x4)
          go_wp2_with fail
          refine hc.mono ?_
          rintro e w' ⟨rfl, rfl⟩
          clear hc
          have hc := generate_bad (nets : Int) zg 4 (by decide) x4 (shortest_goal (nets : Int) zg HG.out.1 (by have := HG.out.2; omega) x4)
          go_wp2_with fail
          refine hc.mono ?_
          rintro e x6 ⟨rfl, hB⟩
          clear hc
          replace hA := hA.trans (hB.mono hA.size)
          replace R1 := Lib.hid (row_later R1.out hB)
          replace R2 := Lib.hid (row_later R2.out hB)
          replace R3 := Lib.hid (row_later R3.out hB)
          clear hB
          have hc := countingOf_any nets h1 h2 x6 (HT.out.1.below hA HT.out.1.lt)
          go_wp2_with fail
          refine hc.mono ?_
          rintro e x7 ⟨k6, u1, hk6, hL6, rfl, hS, hB⟩
          clear hc
          replace hA := hA.trans (hB.mono hA.size)
          replace R1 := Lib.hid (row_later R1.out hB)
          replace R2 := Lib.hid (row_later R2.out hB)
          replace R3 := Lib.hid (row_later R3.out hB)
          clear hB
          obtain rfl : k6 = k2 := hL6.unique HL2.out
          clear hL6
          obtain ⟨a6, n6, c6, rfl⟩ := strs_slice hS
          have hc := seqEqual_same _ (by rw [turnL_len]; omega) _ _ _ _ x7 R1.out hS
          go_wp2_with fail
          refine hc.mono ?_
          rintro e x8 ⟨rfl, hB⟩
          clear hc
          replace hA := hA.trans (hB.mono hA.size)
          replace R1 := Lib.hid (row_later R1.out hB)
          replace R2 := Lib.hid (row_later R2.out hB)
          replace R3 := Lib.hid (row_later R3.out hB)
          clear hB
          clear hS R1
          have hc := complementedOf_any nets h1 h2 x8 (HT.out.1.below hA HT.out.1.lt) (HT.out.2.below hA HT.out.2.lt.1 HT.out.2.lt.2)
          go_wp2_with fail
          refine hc.mono ?_
          rintro e x9 ⟨u2, rfl, hS, hB⟩
          clear hc
          replace hA := hA.trans (hB.mono hA.size)
          replace R2 := Lib.hid (row_later R2.out hB)
          replace R3 := Lib.hid (row_later R3.out hB)
          clear hB
          obtain ⟨a7, n7, c7, rfl⟩ := strs_slice hS
          have hc := seqEqual_same _ (by rw [turnL_len]; have := cLen_le nets (by omega); omega) _ _ _ _ x9 R2.out hS
          go_wp2_with fail
          refine hc.mono ?_
          rintro e x10 ⟨rfl, hB⟩
          clear hc
          replace hA := hA.trans (hB.mono hA.size)
          replace R2 := Lib.hid (row_later R2.out hB)
          replace R3 := Lib.hid (row_later R3.out hB)
          clear hB
          clear hS R2
          have hc := hbf x10
          go_wp2_with fail
          refine hc.mono ?_
          rintro e w' ⟨rfl, rfl⟩
          clear hc
          have hc := walkingOf_ok zb HBI.out nets h1 h2 x10
          go_wp2_with fail
          refine hc.mono ?_
          rintro e x12 ⟨u3, rfl, hS, hB⟩
          clear hc
          replace hA := hA.trans (hB.mono hA.size)
          replace R3 := Lib.hid (row_later R3.out hB)
          clear hB
          obtain ⟨a8, n8, c8, rfl⟩ := strs_slice hS
          have hc := seqEqual_same _ (by rw [turnL_len]; omega) _ _ _ _ x12 R3.out hS
          go_wp2_with fail
          refine hc.mono ?_
          rintro e x13 ⟨rfl, hB⟩
          clear hc
          replace hA := hA.trans (hB.mono hA.size)
          replace R3 := Lib.hid (row_later R3.out hB)
          clear hB
          clear hS R3
          have hc := hgf x13
          go_wp2_with fail
          refine hc.mono ?_
          rintro e w' ⟨rfl, rfl⟩
          clear hc
          have hc := patterned_any x13
          go_wp2_with fail
          refine hc.mono ?_
          rintro e x15 ⟨rfl, hB⟩
          clear hc
          replace hA := hA.trans (hB.mono hA.size)
          clear hB
          go_wp2_with fail
          go_ret
          exact ⟨rfl, hA⟩
      · subst hb
        have e1 : spanErr 2 0 1 = 1 := rfl
        rw [e1] at hbf
        clear e1 HBit
        have HN := Lib.hid hn
        rcases goal_dec zg with ⟨hg, hg2⟩ | ⟨hg1, hg2, hg3, hg4⟩
        · rw [hg2] at hgf
          have HG := Lib.hid hg
          clear hg hg2
          have hA := hA0
          clear hA0
          have hc := hsp wc
          go_wp2_with fail
          refine hc.mono ?_
          rintro e w' ⟨rfl, rfl⟩
          clear hc
          have hc := counting_ok nets h1 h2 wc
          go_wp2_with fail
          refine hc.mono ?_
          rintro e x2 ⟨k2, v1, hk2, hL2, rfl, hS, hB⟩
          clear hc
          replace hA := hA.trans (hB.mono hA.size)
          clear hB
          obtain ⟨a2, n2, c2, rfl⟩ := strs_slice hS
          have R1 := Lib.hid hS
          clear hS
          have HL2 := Lib.hid hL2
          clear hL2
          have hc := complemented_ok nets h1 h2 x2 (HT.out.2.below hA HT.out.2.lt.1 HT.out.2.lt.2)
          go_wp2_with fail
          refine hc.mono ?_
          rintro e x3 ⟨v2, rfl, hS, hB⟩
          clear hc
          replace hA := hA.trans (hB.mono hA.size)
          replace R1 := Lib.hid (row_later R1.out hB)
          clear hB
          obtain ⟨a3, n3, c3, rfl⟩ := strs_slice hS
          have R2 := Lib.hid hS
          clear hS
          have hc := walking_bit (nets : Int) 2 HN.out (by decide) (by decide) x3
          go_wp2_with fail
          refine hc.mono ?_
          rintro e x4 ⟨rfl, hB⟩
          clear hc
          replace hA := hA.trans (hB.mono hA.size)
          replace R1 := Lib.hid (row_later R1.out hB)
          replace R2 := Lib.hid (row_later R2.out hB)
          clear hB
          have hc := minimum_ok zg HG.out nets h1 h2 x4
          go_wp2_with fail
          refine hc.mono ?_
          rintro e x5 ⟨k, hk, hL, rfl, hB⟩
          clear hc
          replace hA := hA.trans (hB.mono hA.size)
          replace R1 := Lib.hid (row_later R1.out hB)
          replace R2 := Lib.hid (row_later R2.out hB)
          clear hB
          have HL := Lib.hid hL
          clear hL
          have hc := generate_ok zg HG.out nets h1 h2 x5
          go_wp2_with fail
          refine hc.mono ?_
          rintro e x6 ⟨k3, v5, hk3, hL3, rfl, hS, hB⟩
          clear hc
          replace hA := hA.trans (hB.mono hA.size)
          replace R1 := Lib.hid (row_later R1.out hB)
          replace R2 := Lib.hid (row_later R2.out hB)
          clear hB
          obtain rfl : k3 = k := hL3.unique HL.out
          clear hL3 hk3
          obtain ⟨a5, n5, c5, rfl⟩ := strs_slice hS
          have R5 := Lib.hid hS
          clear hS
          have hc := countingOf_any nets h1 h2 x6 (HT.out.1.below hA HT.out.1.lt)
          go_wp2_with fail
          refine hc.mono ?_
          rintro e x7 ⟨k6, u1, hk6, hL6, rfl, hS, hB⟩
          clear hc
          replace hA := hA.trans (hB.mono hA.size)
          replace R1 := Lib.hid (row_later R1.out hB)
          replace R2 := Lib.hid (row_later R2.out hB)
          replace R5 := Lib.hid (row_later R5.out hB)
          clear hB
          obtain rfl : k6 = k2 := hL6.unique HL2.out
          clear hL6
          obtain ⟨a6, n6, c6, rfl⟩ := strs_slice hS
          have hc := seqEqual_same _ (by rw [turnL_len]; omega) _ _ _ _ x7 R1.out hS
          go_wp2_with fail
          refine hc.mono ?_
          rintro e x8 ⟨rfl, hB⟩
          clear hc
          replace hA := hA.trans (hB.mono hA.size)
          replace R1 := Lib.hid (row_later R1.out hB)
          replace R2 := Lib.hid (row_later R2.out hB)
          replace R5 := Lib.hid (row_later R5.out hB)
          clear hB
          clear hS R1
          have hc := complementedOf_any nets h1 h2 x8 (HT.out.1.below hA HT.out.1.lt) (HT.out.2.below hA HT.out.2.lt.1 HT.out.2.lt.2)
          go_wp2_with fail
          refine hc.mono ?_
          rintro e x9 ⟨u2, rfl, hS, hB⟩
          clear hc
          replace hA := hA.trans (hB.mono hA.size)
          replace R2 := Lib.hid (row_later R2.out hB)
          replace R5 := Lib.hid (row_later R5.out hB)
          clear hB
          obtain ⟨a7, n7, c7, rfl⟩ := strs_slice hS
          have hc := seqEqual_same _ (by rw [turnL_len]; have := cLen_le nets (by omega); omega) _ _ _ _ x9 R2.out hS
          go_wp2_with fail
          refine hc.mono ?_
          rintro e x10 ⟨rfl, hB⟩
          clear hc
          replace hA := hA.trans (hB.mono hA.size)
          replace R2 := Lib.hid (row_later R2.out hB)
          replace R5 := Lib.hid (row_later R5.out hB)
          clear hB
          clear hS R2
          have hc := hbf x10
          go_wp2_with fail
          refine hc.mono ?_
          rintro e w' ⟨rfl, rfl⟩
          clear hc
          have hc := hgf x10
          go_wp2_with fail
          refine hc.mono ?_
          rintro e w' ⟨rfl, rfl⟩
          clear hc
          have hc := leastOf_ok zg HG.out nets h1 h2 x10 (HT.out.1.below hA HT.out.1.lt)
          go_wp2_with fail
          refine hc.mono ?_
          rintro e x13 ⟨k9, hk9, hL9, rfl, hB⟩
          clear hc
          replace hA := hA.trans (hB.mono hA.size)
          replace R5 := Lib.hid (row_later R5.out hB)
          clear hB
          obtain rfl : k9 = k3 := hL9.unique HL.out
          clear hL9 hk9
          have hc := generatedOf_ok zg HG.out nets h1 h2 x13 (HT.out.1.below hA HT.out.1.lt)
          go_wp2_with fail
          refine hc.mono ?_
          rintro e x14 ⟨k10, u5, hk10, hL10, rfl, hS, hB⟩
          clear hc
          replace hA := hA.trans (hB.mono hA.size)
          replace R5 := Lib.hid (row_later R5.out hB)
          clear hB
          obtain rfl : k10 = k9 := hL10.unique HL.out
          clear hL10
          obtain ⟨a9, n9, c9, rfl⟩ := strs_slice hS
          have hc := seqEqual_same _ (by rw [turnL_len]; omega) _ _ _ _ x14 R5.out hS
          go_wp2_with fail
          refine hc.mono ?_
          rintro e x15 ⟨rfl, hB⟩
          clear hc
          replace hA := hA.trans (hB.mono hA.size)
          replace R5 := Lib.hid (row_later R5.out hB)
          clear hB
          clear hS R5
          have hc := patterned_any x15
          go_wp2_with fail
          refine hc.mono ?_
          rintro e x16 ⟨rfl, hB⟩
          clear hc
          replace hA := hA.trans (hB.mono hA.size)
          clear hB
          go_wp2_with fail
          go_ret
          exact ⟨rfl, hA⟩
        · rw [hg4] at hgf
          have HG := Lib.hid (⟨hn, hg1, hg2, hg3⟩ : _ ∧ _ ∧ _ ∧ _)
          clear hg1 hg2 hg3 hg4
          have hA := hA0
          clear hA0
          have hc := hsp wc
          go_wp2_with fail
          refine hc.mono ?_
          rintro e w' ⟨rfl, rfl⟩
          clear hc
          have hc := counting_ok nets h1 h2 wc
          go_wp2_with fail
          refine hc.mono ?_
          rintro e x2 ⟨k2, v1, hk2, hL2, rfl, hS, hB⟩
          clear hc
          replace hA := hA.trans (hB.mono hA.size)
          clear hB
          obtain ⟨a2, n2, c2, rfl⟩ := strs_slice hS
          have R1 := Lib.hid hS
          clear hS
          have HL2 := Lib.hid hL2
          clear hL2
          have hc := complemented_ok nets h1 h2 x2 (HT.out.2.below hA HT.out.2.lt.1 HT.out.2.lt.2)
          go_wp2_with fail
          refine hc.mono ?_
          rintro e x3 ⟨v2, rfl, hS, hB⟩
          clear hc
          replace hA := hA.trans (hB.mono hA.size)
          replace R1 := Lib.hid (row_later R1.out hB)
          clear hB
          obtain ⟨a3, n3, c3, rfl⟩ := strs_slice hS
          have R2 := Lib.hid hS
          clear hS
          have hc := walking_bit (nets : Int) 2 HN.out (by decide) (by decide) x3
          go_wp2_with fail
          refine hc.mono ?_
          rintro e x4 ⟨rfl, hB⟩
          clear hc
          replace hA := hA.trans (hB.mono hA.size)
          replace R1 := Lib.hid (row_later R1.out hB)
          replace R2 := Lib.hid (row_later R2.out hB)
          clear hB
          have hc := minimum_bad (nets : Int) zg 4 x4 (shortest_goal (nets : Int) zg HG.out.1 (by have := HG.out.2; omega) x4)
          go_wp2_with fail
          refine hc.mono ?_
          rintro e w' ⟨rfl, rfl⟩
          clear hc
          have hc := generate_bad (nets : Int) zg 4 (by decide) x4 (shortest_goal (nets : Int) zg HG.out.1 (by have := HG.out.2; omega) x4)
          go_wp2_with fail
          refine hc.mono ?_
          rintro e x6 ⟨rfl, hB⟩
          clear hc
          replace hA := hA.trans (hB.mono hA.size)
          replace R1 := Lib.hid (row_later R1.out hB)
          replace R2 := Lib.hid (row_later R2.out hB)
          clear hB
          have hc := countingOf_any nets h1 h2 x6 (HT.out.1.below hA HT.out.1.lt)
          go_wp2_with fail
          refine hc.mono ?_
          rintro e x7 ⟨k6, u1, hk6, hL6, rfl, hS, hB⟩
          clear hc
          replace hA := hA.trans (hB.mono hA.size)
          replace R1 := Lib.hid (row_later R1.out hB)
          replace R2 := Lib.hid (row_later R2.out hB)
          clear hB
          obtain rfl : k6 = k2 := hL6.unique HL2.out
          clear hL6
          obtain ⟨a6, n6, c6, rfl⟩ := strs_slice hS
          have hc := seqEqual_same _ (by rw [turnL_len]; omega) _ _ _ _ x7 R1.out hS
          go_wp2_with fail
          refine hc.mono ?_
          rintro e x8 ⟨rfl, hB⟩
          clear hc
          replace hA := hA.trans (hB.mono hA.size)
          replace R1 := Lib.hid (row_later R1.out hB)
          replace R2 := Lib.hid (row_later R2.out hB)
          clear hB
          clear hS R1
          have hc := complementedOf_any nets h1 h2 x8 (HT.out.1.below hA HT.out.1.lt) (HT.out.2.below hA HT.out.2.lt.1 HT.out.2.lt.2)
          go_wp2_with fail
          refine hc.mono ?_
          rintro e x9 ⟨u2, rfl, hS, hB⟩
          clear hc
          replace hA := hA.trans (hB.mono hA.size)
          replace R2 := Lib.hid (row_later R2.out hB)
          clear hB
          obtain ⟨a7, n7, c7, rfl⟩ := strs_slice hS
          have hc := seqEqual_same _ (by rw [turnL_len]; have := cLen_le nets (by omega); omega) _ _ _ _ x9 R2.out hS
          go_wp2_with fail
          refine hc.mono ?_
          rintro e x10 ⟨rfl, hB⟩
          clear hc
          replace hA := hA.trans (hB.mono hA.size)
          replace R2 := Lib.hid (row_later R2.out hB)
          clear hB
          clear hS R2
          have hc := hbf x10
          go_wp2_with fail
          refine hc.mono ?_
          rintro e w' ⟨rfl, rfl⟩
          clear hc
          have hc := hgf x10
          go_wp2_with fail
          refine hc.mono ?_
          rintro e w' ⟨rfl, rfl⟩
          clear hc
          have hc := patterned_any x10
          go_wp2_with fail
          refine hc.mono ?_
          rintro e x13 ⟨rfl, hB⟩
          clear hc
          replace hA := hA.trans (hB.mono hA.size)
          clear hB
          go_wp2_with fail
          go_ret
          exact ⟨rfl, hA⟩
    · have e0 : spanErr n 1 100 = 1 := by
        unfold netsErr at hn
        have h : ¬ (1 ≤ n ∧ n ≤ 100) := fun h => by rw [if_pos h] at hn; exact hn rfl
        have : inB n 1 100 = false := by simp [inB]; omega
        simp [spanErr, this]
      rw [e0] at hsp
      have HN := Lib.hid hn
      clear e0 hn
      have hA := hA0
      clear hA0
      have hc := hsp wc
      go_wp2_with fail
      refine hc.mono ?_
      rintro e w' ⟨rfl, rfl⟩
      clear hc
      have hc := counting_bad n HN.out wc
      go_wp2_with fail
      refine hc.mono ?_
      rintro e x2 ⟨rfl, hB⟩
      clear hc
      replace hA := hA.trans (hB.mono hA.size)
      clear hB
      have hc := complemented_bad n HN.out x2
      go_wp2_with fail
      refine hc.mono ?_
      rintro e w' ⟨rfl, rfl⟩
      clear hc
      have hc := walking_bad n zb HN.out x2
      go_wp2_with fail
      refine hc.mono ?_
      rintro e x4 ⟨rfl, hB⟩
      clear hc
      replace hA := hA.trans (hB.mono hA.size)
      clear hB
      have hc := minimum_bad n zg 1 x4 (shortest_nets n zg HN.out x4)
      go_wp2_with fail
      refine hc.mono ?_
      rintro e w' ⟨rfl, rfl⟩
      clear hc
      have hc := generate_bad n zg 1 (by decide) x4 (shortest_nets n zg HN.out x4)
      go_wp2_with fail
      refine hc.mono ?_
      rintro e x6 ⟨rfl, hB⟩
      clear hc
      replace hA := hA.trans (hB.mono hA.size)
      clear hB
      have hc := patterned_any x6
      go_wp2_with fail
      refine hc.mono ?_
      rintro e x7 ⟨rfl, hB⟩
      clear hc
      replace hA := hA.trans (hB.mono hA.size)
      clear hB
      go_wp2_with fail
      go_ret
      exact ⟨rfl, hA⟩
end Go.Proofs.YtlcknglnpcggaaaGreatDoor
