/- The walk of VectorsDetect: it returns true, and turns nothing that was there. -/
import Derived.Test.YtlkdpgjbbbaiiaaDoorPdU
namespace Go.Proofs.YtlkdpgjbbbaiiaaDoor
open Go.RowKit Go.Maps Go.Shelf

set_option maxHeartbeats 8000000 in
set_option maxRecDepth 100000 in
theorem pdlaw_any (a0 : Option Addr) (len cap : Nat) (w : World) (h : RowIn w a0 len) :
    Calls Tryd.prog 3 #[.slice a0 len cap] w fun e w' => e = .returned (.bool true) ∧ Below w.heap.size w w' := by
  have hs := Strm.start (cap := cap) h
  obtain ⟨W0, hW0⟩ : ∃ W0 : World, w.alloc (.cells #[.slice a0 len cap, .int .i64 0] 25) = W0 := ⟨_, rfl⟩
  rw [hW0] at hs
  have hB0 : Below w.heap.size w W0 := by rw [← hW0]; exact (Below.refl _ w).alloc (Nat.le_refl _) _
  have hsz0 : w.heap.size < W0.heap.size := hs.lt
  have HB0 := Lib.hid hB0
  clear h hB0
  go_enter Tryd.func3, Tryd.ntmps3
  go_wp2_with fail
  have HW0 := Lib.hid hW0
  clear hW0
  refine (patterns_any w.heap.size 0 6 W0 hs (by omega) (by decide)).mono ?_
  rintro e w1 ⟨z, v1, rfl, S, hS, hl, hz, hr1⟩
  obtain ⟨t1, ht1, ht1', hs1⟩ := hr1.strm
  obtain ⟨a1, c1, rfl⟩ := strs_two2 hS
  have H1 := Lib.hid (⟨hS, hl, hz, hr1⟩ : _ ∧ _ ∧ _ ∧ _)
  clear hS hl hz hr1 hs
  go_wp2_with fail
  refine (odd_any w.heap.size t1 1 3 w1 hs1 (by omega) (by decide) (by decide) (by decide)).mono ?_
  rintro e w2 ⟨⟨r, hrl, hrh, rfl⟩, hr2⟩
  have hr12 : Ran w.heap.size 0 102 W0 w2 := H1.out.2.2.2.then ht1 ht1' hr2
  have R1 := Lib.hid (row_ran H1.out.1 hr2 hsz0)
  have hA : Below w.heap.size w w2 := HB0.out.trans (hr12.below (by omega))
  have hSl : S.length ≤ 1000 := by have := H1.out.2.1; omega
  have hSb : ∀ k, k < S.length → (S.getD k []).length ≤ 1000 := fun k hk => by have := H1.out.2.2.1 k hk; omega
  obtain ⟨E1, hE1⟩ : ∃ E, E = vecErr z S := ⟨_, rfl⟩
  have HF1 := fun (W : World) (h : StrsAt W0.heap.size W (.slice a1 S.length c1) S) => patternsFault_any S z (by omega) (fun k hk => by have := hSb k hk; omega) _ W _ h
  rw [← hE1] at HF1
  have HGF := fun W => goalFault_any r W
  have HF := Lib.hid HF1
  have HE := Lib.hid (⟨hE1, hSl, hSb⟩ : _ ∧ _ ∧ _)
  clear H1 hr2 hr12 hs1 HF1 hE1 hSl hSb HB0 HW0
  by_cases h1 : E1 = 0
  · rcases goal_two r with ⟨hgg, hg⟩ | ⟨hg, hgg⟩
    · by_cases hf : ∀ n : Nat, z = (n : Int) → (trisL (turnL S n) n (pairsTo n n)).length ≤ 10000
      · skip
        obtain ⟨n, hzn, hn1, hn2, hn3, hn4⟩ := vecErr_none (HE.out.1.symm.trans h1)
        subst hzn
        have hne := HE.out.1.symm.trans h1
        obtain ⟨T, hT⟩ : ∃ T, T = trisL (turnL S n) n (pairsTo n n) := ⟨_, rfl⟩
        obtain ⟨mb, hmb⟩ : ∃ b, b = meetsB (turnL S n) n r := ⟨_, rfl⟩
        obtain ⟨dn, hdn⟩ : ∃ d, d = distN S n := ⟨_, rfl⟩
        have HS := Lib.hid (⟨hn1, hn2, hn3, hn4, hne⟩ : _ ∧ _ ∧ _ ∧ _ ∧ _)
        have hx1 := fun (W : World) (h : StrsAt W0.heap.size W (.slice a1 S.length c1) S) => meets_ok S n HS.out.1 HS.out.2.1 HS.out.2.2.1 HS.out.2.2.2.1 HS.out.2.2.2.2 r _ W _ h
        rw [meetsE_eq, hg, ← hmb] at hx1
        have hx2 := fun (W : World) (h : StrsAt W0.heap.size W (.slice a1 S.length c1) S) => stuck_ok S n HS.out.1 HS.out.2.1 HS.out.2.2.1 (fun s hs => (HS.out.2.2.2.1 s hs).1) HS.out.2.2.2.2 _ W _ h
        have hx3 := fun (W : World) (h : StrsAt W0.heap.size W (.slice a1 S.length c1) S) => equal_ok S n HS.out.1 HS.out.2.1 HS.out.2.2.1 (fun s hs => (HS.out.2.2.2.1 s hs).1) (turnL_rows S n HS.out.1 HS.out.2.1 HS.out.2.2.1 HS.out.2.2.2.1) HS.out.2.2.2.2 _ W _ h
        have hx4 := fun (W : World) (h : StrsAt W0.heap.size W (.slice a1 S.length c1) S) => masked_few S n HS.out.1 HS.out.2.1 HS.out.2.2.1 HS.out.2.2.2.1 HS.out.2.2.2.2 (hf n rfl) _ W _ h
        have hx5 := fun (W : World) (h : StrsAt W0.heap.size W (.slice a1 S.length c1) S) => distance_all S n HS.out.1 HS.out.2.1 HS.out.2.2.1 HS.out.2.2.2.1 HS.out.2.2.2.2 _ W _ h
        have hx7 := fun (W : World) (h : StrsAt W0.heap.size W (.slice a1 S.length c1) S) => maskedOf_any S n HS.out.1 HS.out.2.1 HS.out.2.2.1 HS.out.2.2.2.1 _ W _ h
        have hx8 := fun (W : World) (h : StrsAt W0.heap.size W (.slice a1 S.length c1) S) => distanceOf_all S n HS.out.1 HS.out.2.1 HS.out.2.2.1 HS.out.2.2.2.1 _ W _ h
        have htb : T.length ≤ 10000 → T.length ≤ 100000 ∧ ∀ k, k < T.length → (T.getD k (0, 0, 0)).1 ≤ 1000000 ∧ (T.getD k (0, 0, 0)).2.1 ≤ 1000000 ∧ (T.getD k (0, 0, 0)).2.2 ≤ 1000000 := fun h => by
          rw [hT] at h ⊢
          exact ⟨by omega, fun k hk => trisL_at _ n HS.out.2.1 k hk⟩
        rw [decide_eq_true (hf n rfl)] at hx7
        have hfT : T.length ≤ 10000 := by rw [hT]; exact hf n rfl
        rw [← hT] at hx7 hx4
        rw [← hdn] at hx5 hx8
        have hx6 := fun (W : World) (h : StrsAt W0.heap.size W (.slice a1 S.length c1) S) => meetsOf_ok S n HS.out.1 HS.out.2.1 HS.out.2.2.1 HS.out.2.2.2.1 r hgg _ W _ h
        rw [← hmb] at hx6
        have hx9 := fun (W : World) (h : StrsAt W0.heap.size W (.slice a1 S.length c1) S) => stuckOf_ok S n HS.out.1 HS.out.2.1 HS.out.2.2.1 (fun s hs => (HS.out.2.2.2.1 s hs).1) _ W _ h
        have hx10 := fun (W : World) (h : StrsAt W0.heap.size W (.slice a1 S.length c1) S) => equalOf_ok S n HS.out.1 HS.out.2.1 HS.out.2.2.1 (fun s hs => (HS.out.2.2.2.1 s hs).1) _ W _ h
        have hgl := groupsTo_len (turnL S n) n n
        have hgr := groupsTo_rows (turnL S n) n n HS.out.2.1
        have hsl : (stuckTo (turnL S n) n).length ≤ 1000000 := by have := stuckTo_len (turnL S n) n; have := HS.out.2.1; omega
        have HGL := Lib.hid (⟨by have := HS.out.2.1; omega, hgr, hsl⟩ : (groupsTo (turnL S n) n n).length ≤ 1000 ∧ _ ∧ _)
        clear hgl hgr hsl
        have HX := Lib.hid (⟨hx1, hx2, hx3, hx4, hx5, hx6, hx7, hx8, hx9, hx10⟩ : _ ∧ _ ∧ _ ∧ _ ∧ _ ∧ _ ∧ _ ∧ _ ∧ _ ∧ _)
        have HT := Lib.hid (⟨hT, hdn, hfT, htb⟩ : _ ∧ _ ∧ _ ∧ _)
        clear hx1 hx2 hx3 hx4 hx5 hx6 hx7 hx8 hx9 hx10 hT hdn hfT htb hne hn1 hn2 hn3 hn4
        rw [hg] at HGF
        have HG := Lib.hid HGF
        clear HGF hg
        subst h1
        clear hf hmb hgg
        obtain ⟨nb, hnb⟩ : ∃ b, b = decide (2 ≤ n) := ⟨_, rfl⟩
        rw [← hnb] at HX
        clear hnb
        have hc := HF.out w2 R1.out
        go_wp2_with fail
        refine hc.mono ?_
        rintro e w3 ⟨rfl, hB⟩
        clear hc
        replace hA := hA.trans (hB.mono hA.size)
        replace R1 := Lib.hid (row_later R1.out hB)
        clear hB
        have hc := HX.out.1 w3 R1.out
        go_wp2_with fail
        refine hc.mono ?_
        rintro e w4 ⟨rfl, hB⟩
        clear hc
        replace hA := hA.trans (hB.mono hA.size)
        replace R1 := Lib.hid (row_later R1.out hB)
        clear hB
        have hc := HX.out.2.1 w4 R1.out
        go_wp2_with fail
        refine hc.mono ?_
        rintro e w5 ⟨v1, rfl, hS, hB⟩
        clear hc
        replace hA := hA.trans (hB.mono hA.size)
        replace R1 := Lib.hid (row_later R1.out hB)
        clear hB
        obtain ⟨aR2, cR2, rfl⟩ := nats_open hS
        have R2 := Lib.hid hS
        clear hS
        have hc := HX.out.2.2.1 w5 R1.out
        go_wp2_with fail
        refine hc.mono ?_
        rintro e w6 ⟨v1, rfl, hS, hB⟩
        clear hc
        replace hA := hA.trans (hB.mono hA.size)
        replace R1 := Lib.hid (row_later R1.out hB)
        replace R2 := Lib.hid (row_later R2.out hB)
        clear hB
        obtain ⟨aG3, cG3, rfl⟩ := GroupsAt.open hS
        have G3 := Lib.hid hS
        clear hS
        have hc := HX.out.2.2.2.1 w6 R1.out
        go_wp2_with fail
        refine hc.mono ?_
        rintro e w7 ⟨v1, rfl, hS, hB⟩
        clear hc
        replace hA := hA.trans (hB.mono hA.size)
        replace R1 := Lib.hid (row_later R1.out hB)
        replace R2 := Lib.hid (row_later R2.out hB)
        replace G3 := Lib.hid (G3.out.later hB)
        clear hB
        obtain ⟨aR4, cR4, rfl⟩ := tris_open hS
        have R4 := Lib.hid hS
        clear hS
        have hc := HX.out.2.2.2.2.1 w7 R1.out
        go_wp2_with fail
        refine hc.mono ?_
        rintro e w8 ⟨rfl, hB⟩
        clear hc
        replace hA := hA.trans (hB.mono hA.size)
        replace R1 := Lib.hid (row_later R1.out hB)
        replace R2 := Lib.hid (row_later R2.out hB)
        replace G3 := Lib.hid (G3.out.later hB)
        replace R4 := Lib.hid (row_later R4.out hB)
        clear hB
        have hc := HG.out w8
        go_wp2_with fail
        refine hc.mono ?_
        rintro e w9 ⟨rfl, rfl⟩
        clear hc
        go_wp2_with fail
        refine (cmpOr_to 0 0 0 rfl _ _ (by simp) (by simp)).mono ?_
        rintro e wx ⟨rfl, rfl⟩
        obtain ⟨wo, hwo⟩ : ∃ wo : World, wo = w8.alloc (.cells #[.int .i64 0, .int .i64 0] 30) := ⟨_, rfl⟩
        have hBx : Below w8.heap.size w8 wo := by rw [hwo]; exact (Below.refl _ _).alloc (Nat.le_refl _) _
        replace hA := hA.trans (hBx.mono hA.size)
        replace R1 := Lib.hid (row_later R1.out hBx)
        replace R2 := Lib.hid (row_later R2.out hBx)
        replace G3 := Lib.hid (G3.out.later hBx)
        replace R4 := Lib.hid (row_later R4.out hBx)
        rw [← hwo]
        clear hwo hBx
        have hc := HX.out.2.2.2.2.2.1 wo R1.out
        go_wp2_with fail
        refine hc.mono ?_
        rintro e w10 ⟨rfl, hB⟩
        clear hc
        replace hA := hA.trans (hB.mono hA.size)
        replace R1 := Lib.hid (row_later R1.out hB)
        replace R2 := Lib.hid (row_later R2.out hB)
        replace G3 := Lib.hid (G3.out.later hB)
        replace R4 := Lib.hid (row_later R4.out hB)
        clear hB
        have hc := HX.out.2.2.2.2.2.2.2.2.1 w10 R1.out
        go_wp2_with fail
        refine hc.mono ?_
        rintro e w11 ⟨v1, rfl, hS, hB⟩
        clear hc
        replace hA := hA.trans (hB.mono hA.size)
        replace R1 := Lib.hid (row_later R1.out hB)
        replace R2 := Lib.hid (row_later R2.out hB)
        replace G3 := Lib.hid (G3.out.later hB)
        replace R4 := Lib.hid (row_later R4.out hB)
        clear hB
        obtain ⟨aR5, cR5, rfl⟩ := nats_open hS
        have R5 := Lib.hid hS
        clear hS
        have hc := eqInts_same _ HGL.out.2.2 _ _ _ _ w11 R2.out R5.out
        go_wp2_with fail
        refine hc.mono ?_
        rintro e w12 ⟨rfl, hB⟩
        clear hc
        replace hA := hA.trans (hB.mono hA.size)
        replace R1 := Lib.hid (row_later R1.out hB)
        replace R2 := Lib.hid (row_later R2.out hB)
        replace G3 := Lib.hid (G3.out.later hB)
        replace R4 := Lib.hid (row_later R4.out hB)
        replace R5 := Lib.hid (row_later R5.out hB)
        clear hB
        clear R2 R5
        have hc := HX.out.2.2.2.2.2.2.2.2.2 w12 R1.out
        go_wp2_with fail
        refine hc.mono ?_
        rintro e w13 ⟨v1, rfl, hS, hB⟩
        clear hc
        replace hA := hA.trans (hB.mono hA.size)
        replace R1 := Lib.hid (row_later R1.out hB)
        replace G3 := Lib.hid (G3.out.later hB)
        replace R4 := Lib.hid (row_later R4.out hB)
        clear hB
        obtain ⟨aG6, cG6, rfl⟩ := GroupsAt.open hS
        have G6 := Lib.hid hS
        clear hS
        have hc := eqIntss_same _ HGL.out.1 HGL.out.2.1 _ _ w13 G3.out G6.out
        go_wp2_with fail
        refine hc.mono ?_
        rintro e w14 ⟨rfl, hB⟩
        clear hc
        replace hA := hA.trans (hB.mono hA.size)
        replace R1 := Lib.hid (row_later R1.out hB)
        replace G3 := Lib.hid (G3.out.later hB)
        replace R4 := Lib.hid (row_later R4.out hB)
        replace G6 := Lib.hid (G6.out.later hB)
        clear hB
        clear G3 G6
        have hc := HX.out.2.2.2.2.2.2.1 w14 R1.out
        go_wp2_with fail
        refine hc.mono ?_
        rintro e w15 ⟨v1, rfl, hS, hB⟩
        clear hc
        replace hA := hA.trans (hB.mono hA.size)
        replace R1 := Lib.hid (row_later R1.out hB)
        replace R4 := Lib.hid (row_later R4.out hB)
        clear hB
        obtain ⟨aR7, cR7, rfl⟩ := tris_open hS
        have R7 := Lib.hid hS
        clear hS
        have hc := eqTri_any T (HT.out.2.2.2 HT.out.2.2.1).1 (HT.out.2.2.2 HT.out.2.2.1).2 _ _ _ _ w15 R4.out R7.out
        go_wp2_with fail
        refine hc.mono ?_
        rintro e w16 ⟨rfl, hB⟩
        clear hc
        replace hA := hA.trans (hB.mono hA.size)
        replace R1 := Lib.hid (row_later R1.out hB)
        replace R4 := Lib.hid (row_later R4.out hB)
        replace R7 := Lib.hid (row_later R7.out hB)
        clear hB
        clear R4 R7
        have hc := HX.out.2.2.2.2.2.2.2.1 w16 R1.out
        go_wp2_with fail
        refine hc.mono ?_
        rintro e w17 ⟨rfl, hB⟩
        clear hc
        replace hA := hA.trans (hB.mono hA.size)
        replace R1 := Lib.hid (row_later R1.out hB)
        clear hB
        clear R1
        have hc := patterned_any w17
        go_wp2_with fail
        refine hc.mono ?_
        rintro e w18 ⟨rfl, hB⟩
        clear hc
        replace hA := hA.trans (hB.mono hA.size)
        clear hB
        have HA := Lib.hid hA
        clear hA
        go_wp2_with fail
        go_ret
        exact ⟨rfl, HA.out⟩
      · replace hf : ∀ n : Nat, z = (n : Int) → ¬ (trisL (turnL S n) n (pairsTo n n)).length ≤ 10000 := fun n hn h => hf (fun n' hn' => by
            have e : n' = n := by omega
            rw [e]
            exact h)
        obtain ⟨n, hzn, hn1, hn2, hn3, hn4⟩ := vecErr_none (HE.out.1.symm.trans h1)
        subst hzn
        have hne := HE.out.1.symm.trans h1
        obtain ⟨T, hT⟩ : ∃ T, T = trisL (turnL S n) n (pairsTo n n) := ⟨_, rfl⟩
        obtain ⟨mb, hmb⟩ : ∃ b, b = meetsB (turnL S n) n r := ⟨_, rfl⟩
        obtain ⟨dn, hdn⟩ : ∃ d, d = distN S n := ⟨_, rfl⟩
        have HS := Lib.hid (⟨hn1, hn2, hn3, hn4, hne⟩ : _ ∧ _ ∧ _ ∧ _ ∧ _)
        have hx1 := fun (W : World) (h : StrsAt W0.heap.size W (.slice a1 S.length c1) S) => meets_ok S n HS.out.1 HS.out.2.1 HS.out.2.2.1 HS.out.2.2.2.1 HS.out.2.2.2.2 r _ W _ h
        rw [meetsE_eq, hg, ← hmb] at hx1
        have hx2 := fun (W : World) (h : StrsAt W0.heap.size W (.slice a1 S.length c1) S) => stuck_ok S n HS.out.1 HS.out.2.1 HS.out.2.2.1 (fun s hs => (HS.out.2.2.2.1 s hs).1) HS.out.2.2.2.2 _ W _ h
        have hx3 := fun (W : World) (h : StrsAt W0.heap.size W (.slice a1 S.length c1) S) => equal_ok S n HS.out.1 HS.out.2.1 HS.out.2.2.1 (fun s hs => (HS.out.2.2.2.1 s hs).1) (turnL_rows S n HS.out.1 HS.out.2.1 HS.out.2.2.1 HS.out.2.2.2.1) HS.out.2.2.2.2 _ W _ h
        have hx4 := fun (W : World) (h : StrsAt W0.heap.size W (.slice a1 S.length c1) S) => masked_many S n HS.out.1 HS.out.2.1 HS.out.2.2.1 HS.out.2.2.2.1 HS.out.2.2.2.2 (hf n rfl) _ W _ h
        have hx5 := fun (W : World) (h : StrsAt W0.heap.size W (.slice a1 S.length c1) S) => distance_all S n HS.out.1 HS.out.2.1 HS.out.2.2.1 HS.out.2.2.2.1 HS.out.2.2.2.2 _ W _ h
        have hx7 := fun (W : World) (h : StrsAt W0.heap.size W (.slice a1 S.length c1) S) => maskedOf_any S n HS.out.1 HS.out.2.1 HS.out.2.2.1 HS.out.2.2.2.1 _ W _ h
        have hx8 := fun (W : World) (h : StrsAt W0.heap.size W (.slice a1 S.length c1) S) => distanceOf_all S n HS.out.1 HS.out.2.1 HS.out.2.2.1 HS.out.2.2.2.1 _ W _ h
        have htb : T.length ≤ 10000 → T.length ≤ 100000 ∧ ∀ k, k < T.length → (T.getD k (0, 0, 0)).1 ≤ 1000000 ∧ (T.getD k (0, 0, 0)).2.1 ≤ 1000000 ∧ (T.getD k (0, 0, 0)).2.2 ≤ 1000000 := fun h => by
          rw [hT] at h ⊢
          exact ⟨by omega, fun k hk => trisL_at _ n HS.out.2.1 k hk⟩
        rw [decide_eq_false (hf n rfl)] at hx7
        have hfT : ¬ T.length ≤ 10000 := by rw [hT]; exact hf n rfl
        rw [← hT] at hx7
        rw [← hdn] at hx5 hx8
        have hx6 := fun (W : World) (h : StrsAt W0.heap.size W (.slice a1 S.length c1) S) => meetsOf_ok S n HS.out.1 HS.out.2.1 HS.out.2.2.1 HS.out.2.2.2.1 r hgg _ W _ h
        rw [← hmb] at hx6
        have hx9 := fun (W : World) (h : StrsAt W0.heap.size W (.slice a1 S.length c1) S) => stuckOf_ok S n HS.out.1 HS.out.2.1 HS.out.2.2.1 (fun s hs => (HS.out.2.2.2.1 s hs).1) _ W _ h
        have hx10 := fun (W : World) (h : StrsAt W0.heap.size W (.slice a1 S.length c1) S) => equalOf_ok S n HS.out.1 HS.out.2.1 HS.out.2.2.1 (fun s hs => (HS.out.2.2.2.1 s hs).1) _ W _ h
        have hgl := groupsTo_len (turnL S n) n n
        have hgr := groupsTo_rows (turnL S n) n n HS.out.2.1
        have hsl : (stuckTo (turnL S n) n).length ≤ 1000000 := by have := stuckTo_len (turnL S n) n; have := HS.out.2.1; omega
        have HGL := Lib.hid (⟨by have := HS.out.2.1; omega, hgr, hsl⟩ : (groupsTo (turnL S n) n n).length ≤ 1000 ∧ _ ∧ _)
        clear hgl hgr hsl
        have HX := Lib.hid (⟨hx1, hx2, hx3, hx4, hx5, hx6, hx7, hx8, hx9, hx10⟩ : _ ∧ _ ∧ _ ∧ _ ∧ _ ∧ _ ∧ _ ∧ _ ∧ _ ∧ _)
        have HT := Lib.hid (⟨hT, hdn, hfT, htb⟩ : _ ∧ _ ∧ _ ∧ _)
        clear hx1 hx2 hx3 hx4 hx5 hx6 hx7 hx8 hx9 hx10 hT hdn hfT htb hne hn1 hn2 hn3 hn4
        rw [hg] at HGF
        have HG := Lib.hid HGF
        clear HGF hg
        subst h1
        clear hf hmb hgg
        obtain ⟨nb, hnb⟩ : ∃ b, b = decide (2 ≤ n) := ⟨_, rfl⟩
        rw [← hnb] at HX
        clear hnb
        have hc := HF.out w2 R1.out
        go_wp2_with fail
        refine hc.mono ?_
        rintro e w3 ⟨rfl, hB⟩
        clear hc
        replace hA := hA.trans (hB.mono hA.size)
        replace R1 := Lib.hid (row_later R1.out hB)
        clear hB
        have hc := HX.out.1 w3 R1.out
        go_wp2_with fail
        refine hc.mono ?_
        rintro e w4 ⟨rfl, hB⟩
        clear hc
        replace hA := hA.trans (hB.mono hA.size)
        replace R1 := Lib.hid (row_later R1.out hB)
        clear hB
        have hc := HX.out.2.1 w4 R1.out
        go_wp2_with fail
        refine hc.mono ?_
        rintro e w5 ⟨v1, rfl, hS, hB⟩
        clear hc
        replace hA := hA.trans (hB.mono hA.size)
        replace R1 := Lib.hid (row_later R1.out hB)
        clear hB
        obtain ⟨aR2, cR2, rfl⟩ := nats_open hS
        have R2 := Lib.hid hS
        clear hS
        have hc := HX.out.2.2.1 w5 R1.out
        go_wp2_with fail
        refine hc.mono ?_
        rintro e w6 ⟨v1, rfl, hS, hB⟩
        clear hc
        replace hA := hA.trans (hB.mono hA.size)
        replace R1 := Lib.hid (row_later R1.out hB)
        replace R2 := Lib.hid (row_later R2.out hB)
        clear hB
        obtain ⟨aG3, cG3, rfl⟩ := GroupsAt.open hS
        have G3 := Lib.hid hS
        clear hS
        have hc := HX.out.2.2.2.1 w6 R1.out
        go_wp2_with fail
        refine hc.mono ?_
        rintro e w7 ⟨aR4, cR4, rfl, hB⟩
        clear hc
        replace hA := hA.trans (hB.mono hA.size)
        replace R1 := Lib.hid (row_later R1.out hB)
        replace R2 := Lib.hid (row_later R2.out hB)
        replace G3 := Lib.hid (G3.out.later hB)
        clear hB
        have hc := HX.out.2.2.2.2.1 w7 R1.out
        go_wp2_with fail
        refine hc.mono ?_
        rintro e w8 ⟨rfl, hB⟩
        clear hc
        replace hA := hA.trans (hB.mono hA.size)
        replace R1 := Lib.hid (row_later R1.out hB)
        replace R2 := Lib.hid (row_later R2.out hB)
        replace G3 := Lib.hid (G3.out.later hB)
        clear hB
        have hc := HG.out w8
        go_wp2_with fail
        refine hc.mono ?_
        rintro e w9 ⟨rfl, rfl⟩
        clear hc
        go_wp2_with fail
        refine (cmpOr_to 0 0 0 rfl _ _ (by simp) (by simp)).mono ?_
        rintro e wx ⟨rfl, rfl⟩
        obtain ⟨wo, hwo⟩ : ∃ wo : World, wo = w8.alloc (.cells #[.int .i64 0, .int .i64 0] 30) := ⟨_, rfl⟩
        have hBx : Below w8.heap.size w8 wo := by rw [hwo]; exact (Below.refl _ _).alloc (Nat.le_refl _) _
        replace hA := hA.trans (hBx.mono hA.size)
        replace R1 := Lib.hid (row_later R1.out hBx)
        replace R2 := Lib.hid (row_later R2.out hBx)
        replace G3 := Lib.hid (G3.out.later hBx)
        rw [← hwo]
        clear hwo hBx
        have hc := HX.out.2.2.2.2.2.1 wo R1.out
        go_wp2_with fail
        refine hc.mono ?_
        rintro e w10 ⟨rfl, hB⟩
        clear hc
        replace hA := hA.trans (hB.mono hA.size)
        replace R1 := Lib.hid (row_later R1.out hB)
        replace R2 := Lib.hid (row_later R2.out hB)
        replace G3 := Lib.hid (G3.out.later hB)
        clear hB
        have hc := HX.out.2.2.2.2.2.2.2.2.1 w10 R1.out
        go_wp2_with fail
        refine hc.mono ?_
        rintro e w11 ⟨v1, rfl, hS, hB⟩
        clear hc
        replace hA := hA.trans (hB.mono hA.size)
        replace R1 := Lib.hid (row_later R1.out hB)
        replace R2 := Lib.hid (row_later R2.out hB)
        replace G3 := Lib.hid (G3.out.later hB)
        clear hB
        obtain ⟨aR5, cR5, rfl⟩ := nats_open hS
        have R5 := Lib.hid hS
        clear hS
        have hc := eqInts_same _ HGL.out.2.2 _ _ _ _ w11 R2.out R5.out
        go_wp2_with fail
        refine hc.mono ?_
        rintro e w12 ⟨rfl, hB⟩
        clear hc
        replace hA := hA.trans (hB.mono hA.size)
        replace R1 := Lib.hid (row_later R1.out hB)
        replace R2 := Lib.hid (row_later R2.out hB)
        replace G3 := Lib.hid (G3.out.later hB)
        replace R5 := Lib.hid (row_later R5.out hB)
        clear hB
        clear R2 R5
        have hc := HX.out.2.2.2.2.2.2.2.2.2 w12 R1.out
        go_wp2_with fail
        refine hc.mono ?_
        rintro e w13 ⟨v1, rfl, hS, hB⟩
        clear hc
        replace hA := hA.trans (hB.mono hA.size)
        replace R1 := Lib.hid (row_later R1.out hB)
        replace G3 := Lib.hid (G3.out.later hB)
        clear hB
        obtain ⟨aG6, cG6, rfl⟩ := GroupsAt.open hS
        have G6 := Lib.hid hS
        clear hS
        have hc := eqIntss_same _ HGL.out.1 HGL.out.2.1 _ _ w13 G3.out G6.out
        go_wp2_with fail
        refine hc.mono ?_
        rintro e w14 ⟨rfl, hB⟩
        clear hc
        replace hA := hA.trans (hB.mono hA.size)
        replace R1 := Lib.hid (row_later R1.out hB)
        replace G3 := Lib.hid (G3.out.later hB)
        replace G6 := Lib.hid (G6.out.later hB)
        clear hB
        clear G3 G6
        have hc := HX.out.2.2.2.2.2.2.1 w14 R1.out
        go_wp2_with fail
        refine hc.mono ?_
        rintro e w15 ⟨v1, rfl, hS, hB⟩
        clear hc
        replace hA := hA.trans (hB.mono hA.size)
        replace R1 := Lib.hid (row_later R1.out hB)
        clear hB
        obtain ⟨aR7, cR7, rfl⟩ := tris_open hS
        have R7 := Lib.hid hS
        clear hS
        clear R7
        have hc := HX.out.2.2.2.2.2.2.2.1 w15 R1.out
        go_wp2_with fail
        refine hc.mono ?_
        rintro e w16 ⟨rfl, hB⟩
        clear hc
        replace hA := hA.trans (hB.mono hA.size)
        replace R1 := Lib.hid (row_later R1.out hB)
        clear hB
        clear R1
        have hc := patterned_any w16
        go_wp2_with fail
        refine hc.mono ?_
        rintro e w17 ⟨rfl, hB⟩
        clear hc
        replace hA := hA.trans (hB.mono hA.size)
        clear hB
        have HA := Lib.hid hA
        clear hA
        go_wp2_with fail
        go_ret
        exact ⟨rfl, HA.out⟩
    · by_cases hf : ∀ n : Nat, z = (n : Int) → (trisL (turnL S n) n (pairsTo n n)).length ≤ 10000
      · skip
        obtain ⟨n, hzn, hn1, hn2, hn3, hn4⟩ := vecErr_none (HE.out.1.symm.trans h1)
        subst hzn
        have hne := HE.out.1.symm.trans h1
        obtain ⟨T, hT⟩ : ∃ T, T = trisL (turnL S n) n (pairsTo n n) := ⟨_, rfl⟩
        obtain ⟨mb, hmb⟩ : ∃ b, b = meetsB (turnL S n) n r := ⟨_, rfl⟩
        obtain ⟨dn, hdn⟩ : ∃ d, d = distN S n := ⟨_, rfl⟩
        have HS := Lib.hid (⟨hn1, hn2, hn3, hn4, hne⟩ : _ ∧ _ ∧ _ ∧ _ ∧ _)
        have hx1 := fun (W : World) (h : StrsAt W0.heap.size W (.slice a1 S.length c1) S) => meets_ok S n HS.out.1 HS.out.2.1 HS.out.2.2.1 HS.out.2.2.2.1 HS.out.2.2.2.2 r _ W _ h
        rw [meetsE_eq, hg, ← hmb] at hx1
        have hx2 := fun (W : World) (h : StrsAt W0.heap.size W (.slice a1 S.length c1) S) => stuck_ok S n HS.out.1 HS.out.2.1 HS.out.2.2.1 (fun s hs => (HS.out.2.2.2.1 s hs).1) HS.out.2.2.2.2 _ W _ h
        have hx3 := fun (W : World) (h : StrsAt W0.heap.size W (.slice a1 S.length c1) S) => equal_ok S n HS.out.1 HS.out.2.1 HS.out.2.2.1 (fun s hs => (HS.out.2.2.2.1 s hs).1) (turnL_rows S n HS.out.1 HS.out.2.1 HS.out.2.2.1 HS.out.2.2.2.1) HS.out.2.2.2.2 _ W _ h
        have hx4 := fun (W : World) (h : StrsAt W0.heap.size W (.slice a1 S.length c1) S) => masked_few S n HS.out.1 HS.out.2.1 HS.out.2.2.1 HS.out.2.2.2.1 HS.out.2.2.2.2 (hf n rfl) _ W _ h
        have hx5 := fun (W : World) (h : StrsAt W0.heap.size W (.slice a1 S.length c1) S) => distance_all S n HS.out.1 HS.out.2.1 HS.out.2.2.1 HS.out.2.2.2.1 HS.out.2.2.2.2 _ W _ h
        have hx7 := fun (W : World) (h : StrsAt W0.heap.size W (.slice a1 S.length c1) S) => maskedOf_any S n HS.out.1 HS.out.2.1 HS.out.2.2.1 HS.out.2.2.2.1 _ W _ h
        have hx8 := fun (W : World) (h : StrsAt W0.heap.size W (.slice a1 S.length c1) S) => distanceOf_all S n HS.out.1 HS.out.2.1 HS.out.2.2.1 HS.out.2.2.2.1 _ W _ h
        have htb : T.length ≤ 10000 → T.length ≤ 100000 ∧ ∀ k, k < T.length → (T.getD k (0, 0, 0)).1 ≤ 1000000 ∧ (T.getD k (0, 0, 0)).2.1 ≤ 1000000 ∧ (T.getD k (0, 0, 0)).2.2 ≤ 1000000 := fun h => by
          rw [hT] at h ⊢
          exact ⟨by omega, fun k hk => trisL_at _ n HS.out.2.1 k hk⟩
        rw [decide_eq_true (hf n rfl)] at hx7
        have hfT : T.length ≤ 10000 := by rw [hT]; exact hf n rfl
        rw [← hT] at hx7 hx4
        rw [← hdn] at hx5 hx8
        have hx6 : True := trivial
        rw [hgg] at hmb
        subst hmb
        have hx9 := fun (W : World) (h : StrsAt W0.heap.size W (.slice a1 S.length c1) S) => stuckOf_ok S n HS.out.1 HS.out.2.1 HS.out.2.2.1 (fun s hs => (HS.out.2.2.2.1 s hs).1) _ W _ h
        have hx10 := fun (W : World) (h : StrsAt W0.heap.size W (.slice a1 S.length c1) S) => equalOf_ok S n HS.out.1 HS.out.2.1 HS.out.2.2.1 (fun s hs => (HS.out.2.2.2.1 s hs).1) _ W _ h
        have hgl := groupsTo_len (turnL S n) n n
        have hgr := groupsTo_rows (turnL S n) n n HS.out.2.1
        have hsl : (stuckTo (turnL S n) n).length ≤ 1000000 := by have := stuckTo_len (turnL S n) n; have := HS.out.2.1; omega
        have HGL := Lib.hid (⟨by have := HS.out.2.1; omega, hgr, hsl⟩ : (groupsTo (turnL S n) n n).length ≤ 1000 ∧ _ ∧ _)
        clear hgl hgr hsl
        have HX := Lib.hid (⟨hx1, hx2, hx3, hx4, hx5, hx6, hx7, hx8, hx9, hx10⟩ : _ ∧ _ ∧ _ ∧ _ ∧ _ ∧ _ ∧ _ ∧ _ ∧ _ ∧ _)
        have HT := Lib.hid (⟨hT, hdn, hfT, htb⟩ : _ ∧ _ ∧ _ ∧ _)
        clear hx1 hx2 hx3 hx4 hx5 hx6 hx7 hx8 hx9 hx10 hT hdn hfT htb hne hn1 hn2 hn3 hn4
        rw [hg] at HGF
        have HG := Lib.hid HGF
        clear HGF hg
        subst h1
        clear hf hgg
        obtain ⟨nb, hnb⟩ : ∃ b, b = decide (2 ≤ n) := ⟨_, rfl⟩
        rw [← hnb] at HX
        clear hnb
        have hc := HF.out w2 R1.out
        go_wp2_with fail
        refine hc.mono ?_
        rintro e w3 ⟨rfl, hB⟩
        clear hc
        replace hA := hA.trans (hB.mono hA.size)
        replace R1 := Lib.hid (row_later R1.out hB)
        clear hB
        have hc := HX.out.1 w3 R1.out
        go_wp2_with fail
        refine hc.mono ?_
        rintro e w4 ⟨rfl, hB⟩
        clear hc
        replace hA := hA.trans (hB.mono hA.size)
        replace R1 := Lib.hid (row_later R1.out hB)
        clear hB
        have hc := HX.out.2.1 w4 R1.out
        go_wp2_with fail
        refine hc.mono ?_
        rintro e w5 ⟨v1, rfl, hS, hB⟩
        clear hc
        replace hA := hA.trans (hB.mono hA.size)
        replace R1 := Lib.hid (row_later R1.out hB)
        clear hB
        obtain ⟨aR2, cR2, rfl⟩ := nats_open hS
        have R2 := Lib.hid hS
        clear hS
        have hc := HX.out.2.2.1 w5 R1.out
        go_wp2_with fail
        refine hc.mono ?_
        rintro e w6 ⟨v1, rfl, hS, hB⟩
        clear hc
        replace hA := hA.trans (hB.mono hA.size)
        replace R1 := Lib.hid (row_later R1.out hB)
        replace R2 := Lib.hid (row_later R2.out hB)
        clear hB
        obtain ⟨aG3, cG3, rfl⟩ := GroupsAt.open hS
        have G3 := Lib.hid hS
        clear hS
        have hc := HX.out.2.2.2.1 w6 R1.out
        go_wp2_with fail
        refine hc.mono ?_
        rintro e w7 ⟨v1, rfl, hS, hB⟩
        clear hc
        replace hA := hA.trans (hB.mono hA.size)
        replace R1 := Lib.hid (row_later R1.out hB)
        replace R2 := Lib.hid (row_later R2.out hB)
        replace G3 := Lib.hid (G3.out.later hB)
        clear hB
        obtain ⟨aR4, cR4, rfl⟩ := tris_open hS
        have R4 := Lib.hid hS
        clear hS
        have hc := HX.out.2.2.2.2.1 w7 R1.out
        go_wp2_with fail
        refine hc.mono ?_
        rintro e w8 ⟨rfl, hB⟩
        clear hc
        replace hA := hA.trans (hB.mono hA.size)
        replace R1 := Lib.hid (row_later R1.out hB)
        replace R2 := Lib.hid (row_later R2.out hB)
        replace G3 := Lib.hid (G3.out.later hB)
        replace R4 := Lib.hid (row_later R4.out hB)
        clear hB
        have hc := HG.out w8
        go_wp2_with fail
        refine hc.mono ?_
        rintro e w9 ⟨rfl, rfl⟩
        clear hc
        go_wp2_with fail
        refine (cmpOr_to 0 4 4 rfl _ _ (by simp) (by simp)).mono ?_
        rintro e wx ⟨rfl, rfl⟩
        obtain ⟨wo, hwo⟩ : ∃ wo : World, wo = w8.alloc (.cells #[.int .i64 0, .int .i64 4] 30) := ⟨_, rfl⟩
        have hBx : Below w8.heap.size w8 wo := by rw [hwo]; exact (Below.refl _ _).alloc (Nat.le_refl _) _
        replace hA := hA.trans (hBx.mono hA.size)
        replace R1 := Lib.hid (row_later R1.out hBx)
        replace R2 := Lib.hid (row_later R2.out hBx)
        replace G3 := Lib.hid (G3.out.later hBx)
        replace R4 := Lib.hid (row_later R4.out hBx)
        rw [← hwo]
        clear hwo hBx
        have hc := HX.out.2.2.2.2.2.2.2.2.1 wo R1.out
        go_wp2_with fail
        refine hc.mono ?_
        rintro e w10 ⟨v1, rfl, hS, hB⟩
        clear hc
        replace hA := hA.trans (hB.mono hA.size)
        replace R1 := Lib.hid (row_later R1.out hB)
        replace R2 := Lib.hid (row_later R2.out hB)
        replace G3 := Lib.hid (G3.out.later hB)
        replace R4 := Lib.hid (row_later R4.out hB)
        clear hB
        obtain ⟨aR5, cR5, rfl⟩ := nats_open hS
        have R5 := Lib.hid hS
        clear hS
        have hc := eqInts_same _ HGL.out.2.2 _ _ _ _ w10 R2.out R5.out
        go_wp2_with fail
        refine hc.mono ?_
        rintro e w11 ⟨rfl, hB⟩
        clear hc
        replace hA := hA.trans (hB.mono hA.size)
        replace R1 := Lib.hid (row_later R1.out hB)
        replace R2 := Lib.hid (row_later R2.out hB)
        replace G3 := Lib.hid (G3.out.later hB)
        replace R4 := Lib.hid (row_later R4.out hB)
        replace R5 := Lib.hid (row_later R5.out hB)
        clear hB
        clear R2 R5
        have hc := HX.out.2.2.2.2.2.2.2.2.2 w11 R1.out
        go_wp2_with fail
        refine hc.mono ?_
        rintro e w12 ⟨v1, rfl, hS, hB⟩
        clear hc
        replace hA := hA.trans (hB.mono hA.size)
        replace R1 := Lib.hid (row_later R1.out hB)
        replace G3 := Lib.hid (G3.out.later hB)
        replace R4 := Lib.hid (row_later R4.out hB)
        clear hB
        obtain ⟨aG6, cG6, rfl⟩ := GroupsAt.open hS
        have G6 := Lib.hid hS
        clear hS
        have hc := eqIntss_same _ HGL.out.1 HGL.out.2.1 _ _ w12 G3.out G6.out
        go_wp2_with fail
        refine hc.mono ?_
        rintro e w13 ⟨rfl, hB⟩
        clear hc
        replace hA := hA.trans (hB.mono hA.size)
        replace R1 := Lib.hid (row_later R1.out hB)
        replace G3 := Lib.hid (G3.out.later hB)
        replace R4 := Lib.hid (row_later R4.out hB)
        replace G6 := Lib.hid (G6.out.later hB)
        clear hB
        clear G3 G6
        have hc := HX.out.2.2.2.2.2.2.1 w13 R1.out
        go_wp2_with fail
        refine hc.mono ?_
        rintro e w14 ⟨v1, rfl, hS, hB⟩
        clear hc
        replace hA := hA.trans (hB.mono hA.size)
        replace R1 := Lib.hid (row_later R1.out hB)
        replace R4 := Lib.hid (row_later R4.out hB)
        clear hB
        obtain ⟨aR7, cR7, rfl⟩ := tris_open hS
        have R7 := Lib.hid hS
        clear hS
        have hc := eqTri_any T (HT.out.2.2.2 HT.out.2.2.1).1 (HT.out.2.2.2 HT.out.2.2.1).2 _ _ _ _ w14 R4.out R7.out
        go_wp2_with fail
        refine hc.mono ?_
        rintro e w15 ⟨rfl, hB⟩
        clear hc
        replace hA := hA.trans (hB.mono hA.size)
        replace R1 := Lib.hid (row_later R1.out hB)
        replace R4 := Lib.hid (row_later R4.out hB)
        replace R7 := Lib.hid (row_later R7.out hB)
        clear hB
        clear R4 R7
        have hc := HX.out.2.2.2.2.2.2.2.1 w15 R1.out
        go_wp2_with fail
        refine hc.mono ?_
        rintro e w16 ⟨rfl, hB⟩
        clear hc
        replace hA := hA.trans (hB.mono hA.size)
        replace R1 := Lib.hid (row_later R1.out hB)
        clear hB
        clear R1
        have hc := patterned_any w16
        go_wp2_with fail
        refine hc.mono ?_
        rintro e w17 ⟨rfl, hB⟩
        clear hc
        replace hA := hA.trans (hB.mono hA.size)
        clear hB
        have HA := Lib.hid hA
        clear hA
        go_wp2_with fail
        go_ret
        exact ⟨rfl, HA.out⟩
      · replace hf : ∀ n : Nat, z = (n : Int) → ¬ (trisL (turnL S n) n (pairsTo n n)).length ≤ 10000 := fun n hn h => hf (fun n' hn' => by
            have e : n' = n := by omega
            rw [e]
            exact h)
        obtain ⟨n, hzn, hn1, hn2, hn3, hn4⟩ := vecErr_none (HE.out.1.symm.trans h1)
        subst hzn
        have hne := HE.out.1.symm.trans h1
        obtain ⟨T, hT⟩ : ∃ T, T = trisL (turnL S n) n (pairsTo n n) := ⟨_, rfl⟩
        obtain ⟨mb, hmb⟩ : ∃ b, b = meetsB (turnL S n) n r := ⟨_, rfl⟩
        obtain ⟨dn, hdn⟩ : ∃ d, d = distN S n := ⟨_, rfl⟩
        have HS := Lib.hid (⟨hn1, hn2, hn3, hn4, hne⟩ : _ ∧ _ ∧ _ ∧ _ ∧ _)
        have hx1 := fun (W : World) (h : StrsAt W0.heap.size W (.slice a1 S.length c1) S) => meets_ok S n HS.out.1 HS.out.2.1 HS.out.2.2.1 HS.out.2.2.2.1 HS.out.2.2.2.2 r _ W _ h
        rw [meetsE_eq, hg, ← hmb] at hx1
        have hx2 := fun (W : World) (h : StrsAt W0.heap.size W (.slice a1 S.length c1) S) => stuck_ok S n HS.out.1 HS.out.2.1 HS.out.2.2.1 (fun s hs => (HS.out.2.2.2.1 s hs).1) HS.out.2.2.2.2 _ W _ h
        have hx3 := fun (W : World) (h : StrsAt W0.heap.size W (.slice a1 S.length c1) S) => equal_ok S n HS.out.1 HS.out.2.1 HS.out.2.2.1 (fun s hs => (HS.out.2.2.2.1 s hs).1) (turnL_rows S n HS.out.1 HS.out.2.1 HS.out.2.2.1 HS.out.2.2.2.1) HS.out.2.2.2.2 _ W _ h
        have hx4 := fun (W : World) (h : StrsAt W0.heap.size W (.slice a1 S.length c1) S) => masked_many S n HS.out.1 HS.out.2.1 HS.out.2.2.1 HS.out.2.2.2.1 HS.out.2.2.2.2 (hf n rfl) _ W _ h
        have hx5 := fun (W : World) (h : StrsAt W0.heap.size W (.slice a1 S.length c1) S) => distance_all S n HS.out.1 HS.out.2.1 HS.out.2.2.1 HS.out.2.2.2.1 HS.out.2.2.2.2 _ W _ h
        have hx7 := fun (W : World) (h : StrsAt W0.heap.size W (.slice a1 S.length c1) S) => maskedOf_any S n HS.out.1 HS.out.2.1 HS.out.2.2.1 HS.out.2.2.2.1 _ W _ h
        have hx8 := fun (W : World) (h : StrsAt W0.heap.size W (.slice a1 S.length c1) S) => distanceOf_all S n HS.out.1 HS.out.2.1 HS.out.2.2.1 HS.out.2.2.2.1 _ W _ h
        have htb : T.length ≤ 10000 → T.length ≤ 100000 ∧ ∀ k, k < T.length → (T.getD k (0, 0, 0)).1 ≤ 1000000 ∧ (T.getD k (0, 0, 0)).2.1 ≤ 1000000 ∧ (T.getD k (0, 0, 0)).2.2 ≤ 1000000 := fun h => by
          rw [hT] at h ⊢
          exact ⟨by omega, fun k hk => trisL_at _ n HS.out.2.1 k hk⟩
        rw [decide_eq_false (hf n rfl)] at hx7
        have hfT : ¬ T.length ≤ 10000 := by rw [hT]; exact hf n rfl
        rw [← hT] at hx7
        rw [← hdn] at hx5 hx8
        have hx6 : True := trivial
        rw [hgg] at hmb
        subst hmb
        have hx9 := fun (W : World) (h : StrsAt W0.heap.size W (.slice a1 S.length c1) S) => stuckOf_ok S n HS.out.1 HS.out.2.1 HS.out.2.2.1 (fun s hs => (HS.out.2.2.2.1 s hs).1) _ W _ h
        have hx10 := fun (W : World) (h : StrsAt W0.heap.size W (.slice a1 S.length c1) S) => equalOf_ok S n HS.out.1 HS.out.2.1 HS.out.2.2.1 (fun s hs => (HS.out.2.2.2.1 s hs).1) _ W _ h
        have hgl := groupsTo_len (turnL S n) n n
        have hgr := groupsTo_rows (turnL S n) n n HS.out.2.1
        have hsl : (stuckTo (turnL S n) n).length ≤ 1000000 := by have := stuckTo_len (turnL S n) n; have := HS.out.2.1; omega
        have HGL := Lib.hid (⟨by have := HS.out.2.1; omega, hgr, hsl⟩ : (groupsTo (turnL S n) n n).length ≤ 1000 ∧ _ ∧ _)
        clear hgl hgr hsl
        have HX := Lib.hid (⟨hx1, hx2, hx3, hx4, hx5, hx6, hx7, hx8, hx9, hx10⟩ : _ ∧ _ ∧ _ ∧ _ ∧ _ ∧ _ ∧ _ ∧ _ ∧ _ ∧ _)
        have HT := Lib.hid (⟨hT, hdn, hfT, htb⟩ : _ ∧ _ ∧ _ ∧ _)
        clear hx1 hx2 hx3 hx4 hx5 hx6 hx7 hx8 hx9 hx10 hT hdn hfT htb hne hn1 hn2 hn3 hn4
        rw [hg] at HGF
        have HG := Lib.hid HGF
        clear HGF hg
        subst h1
        clear hf hgg
        obtain ⟨nb, hnb⟩ : ∃ b, b = decide (2 ≤ n) := ⟨_, rfl⟩
        rw [← hnb] at HX
        clear hnb
        have hc := HF.out w2 R1.out
        go_wp2_with fail
        refine hc.mono ?_
        rintro e w3 ⟨rfl, hB⟩
        clear hc
        replace hA := hA.trans (hB.mono hA.size)
        replace R1 := Lib.hid (row_later R1.out hB)
        clear hB
        have hc := HX.out.1 w3 R1.out
        go_wp2_with fail
        refine hc.mono ?_
        rintro e w4 ⟨rfl, hB⟩
        clear hc
        replace hA := hA.trans (hB.mono hA.size)
        replace R1 := Lib.hid (row_later R1.out hB)
        clear hB
        have hc := HX.out.2.1 w4 R1.out
        go_wp2_with fail
        refine hc.mono ?_
        rintro e w5 ⟨v1, rfl, hS, hB⟩
        clear hc
        replace hA := hA.trans (hB.mono hA.size)
        replace R1 := Lib.hid (row_later R1.out hB)
        clear hB
        obtain ⟨aR2, cR2, rfl⟩ := nats_open hS
        have R2 := Lib.hid hS
        clear hS
        have hc := HX.out.2.2.1 w5 R1.out
        go_wp2_with fail
        refine hc.mono ?_
        rintro e w6 ⟨v1, rfl, hS, hB⟩
        clear hc
        replace hA := hA.trans (hB.mono hA.size)
        replace R1 := Lib.hid (row_later R1.out hB)
        replace R2 := Lib.hid (row_later R2.out hB)
        clear hB
        obtain ⟨aG3, cG3, rfl⟩ := GroupsAt.open hS
        have G3 := Lib.hid hS
        clear hS
        have hc := HX.out.2.2.2.1 w6 R1.out
        go_wp2_with fail
        refine hc.mono ?_
        rintro e w7 ⟨aR4, cR4, rfl, hB⟩
        clear hc
        replace hA := hA.trans (hB.mono hA.size)
        replace R1 := Lib.hid (row_later R1.out hB)
        replace R2 := Lib.hid (row_later R2.out hB)
        replace G3 := Lib.hid (G3.out.later hB)
        clear hB
        have hc := HX.out.2.2.2.2.1 w7 R1.out
        go_wp2_with fail
        refine hc.mono ?_
        rintro e w8 ⟨rfl, hB⟩
        clear hc
        replace hA := hA.trans (hB.mono hA.size)
        replace R1 := Lib.hid (row_later R1.out hB)
        replace R2 := Lib.hid (row_later R2.out hB)
        replace G3 := Lib.hid (G3.out.later hB)
        clear hB
        have hc := HG.out w8
        go_wp2_with fail
        refine hc.mono ?_
        rintro e w9 ⟨rfl, rfl⟩
        clear hc
        go_wp2_with fail
        refine (cmpOr_to 0 4 4 rfl _ _ (by simp) (by simp)).mono ?_
        rintro e wx ⟨rfl, rfl⟩
        obtain ⟨wo, hwo⟩ : ∃ wo : World, wo = w8.alloc (.cells #[.int .i64 0, .int .i64 4] 30) := ⟨_, rfl⟩
        have hBx : Below w8.heap.size w8 wo := by rw [hwo]; exact (Below.refl _ _).alloc (Nat.le_refl _) _
        replace hA := hA.trans (hBx.mono hA.size)
        replace R1 := Lib.hid (row_later R1.out hBx)
        replace R2 := Lib.hid (row_later R2.out hBx)
        replace G3 := Lib.hid (G3.out.later hBx)
        rw [← hwo]
        clear hwo hBx
        have hc := HX.out.2.2.2.2.2.2.2.2.1 wo R1.out
        go_wp2_with fail
        refine hc.mono ?_
        rintro e w10 ⟨v1, rfl, hS, hB⟩
        clear hc
        replace hA := hA.trans (hB.mono hA.size)
        replace R1 := Lib.hid (row_later R1.out hB)
        replace R2 := Lib.hid (row_later R2.out hB)
        replace G3 := Lib.hid (G3.out.later hB)
        clear hB
        obtain ⟨aR5, cR5, rfl⟩ := nats_open hS
        have R5 := Lib.hid hS
        clear hS
        have hc := eqInts_same _ HGL.out.2.2 _ _ _ _ w10 R2.out R5.out
        go_wp2_with fail
        refine hc.mono ?_
        rintro e w11 ⟨rfl, hB⟩
        clear hc
        replace hA := hA.trans (hB.mono hA.size)
        replace R1 := Lib.hid (row_later R1.out hB)
        replace R2 := Lib.hid (row_later R2.out hB)
        replace G3 := Lib.hid (G3.out.later hB)
        replace R5 := Lib.hid (row_later R5.out hB)
        clear hB
        clear R2 R5
        have hc := HX.out.2.2.2.2.2.2.2.2.2 w11 R1.out
        go_wp2_with fail
        refine hc.mono ?_
        rintro e w12 ⟨v1, rfl, hS, hB⟩
        clear hc
        replace hA := hA.trans (hB.mono hA.size)
        replace R1 := Lib.hid (row_later R1.out hB)
        replace G3 := Lib.hid (G3.out.later hB)
        clear hB
        obtain ⟨aG6, cG6, rfl⟩ := GroupsAt.open hS
        have G6 := Lib.hid hS
        clear hS
        have hc := eqIntss_same _ HGL.out.1 HGL.out.2.1 _ _ w12 G3.out G6.out
        go_wp2_with fail
        refine hc.mono ?_
        rintro e w13 ⟨rfl, hB⟩
        clear hc
        replace hA := hA.trans (hB.mono hA.size)
        replace R1 := Lib.hid (row_later R1.out hB)
        replace G3 := Lib.hid (G3.out.later hB)
        replace G6 := Lib.hid (G6.out.later hB)
        clear hB
        clear G3 G6
        have hc := HX.out.2.2.2.2.2.2.1 w13 R1.out
        go_wp2_with fail
        refine hc.mono ?_
        rintro e w14 ⟨v1, rfl, hS, hB⟩
        clear hc
        replace hA := hA.trans (hB.mono hA.size)
        replace R1 := Lib.hid (row_later R1.out hB)
        clear hB
        obtain ⟨aR7, cR7, rfl⟩ := tris_open hS
        have R7 := Lib.hid hS
        clear hS
        clear R7
        have hc := HX.out.2.2.2.2.2.2.2.1 w14 R1.out
        go_wp2_with fail
        refine hc.mono ?_
        rintro e w15 ⟨rfl, hB⟩
        clear hc
        replace hA := hA.trans (hB.mono hA.size)
        replace R1 := Lib.hid (row_later R1.out hB)
        clear hB
        clear R1
        have hc := patterned_any w15
        go_wp2_with fail
        refine hc.mono ?_
        rintro e w16 ⟨rfl, hB⟩
        clear hc
        replace hA := hA.trans (hB.mono hA.size)
        clear hB
        have HA := Lib.hid hA
        clear hA
        go_wp2_with fail
        go_ret
        exact ⟨rfl, HA.out⟩
  · skip
    have hne1 : (E1 != 0) = true := by simpa using h1
    have hnf1 : (E1 == 0) = false := by simpa using h1
    have HO := Lib.hid (if_neg h1 : (if E1 = 0 then goalErr r else E1) = E1)
    have HS := Lib.hid (⟨by have := HE.out.2.1; omega, fun k hk => by have := HE.out.2.2 k hk; omega, by rw [← HE.out.1]; exact h1⟩ : S.length ≤ 1000000 ∧ (∀ k, k < S.length → (S.getD k []).length ≤ 1000000) ∧ vecErr z S ≠ 0)
    have hx1 := fun (W : World) (h : StrsAt W0.heap.size W (.slice a1 S.length c1) S) => meets_bad S z HS.out.1 HS.out.2.1 HS.out.2.2 r _ W _ h
    have hx2 := fun (W : World) (h : StrsAt W0.heap.size W (.slice a1 S.length c1) S) => stuck_bad S z HS.out.1 HS.out.2.1 HS.out.2.2 _ W _ h
    have hx3 := fun (W : World) (h : StrsAt W0.heap.size W (.slice a1 S.length c1) S) => equal_bad S z HS.out.1 HS.out.2.1 HS.out.2.2 _ W _ h
    have hx4 := fun (W : World) (h : StrsAt W0.heap.size W (.slice a1 S.length c1) S) => masked_bad S z HS.out.1 HS.out.2.1 HS.out.2.2 _ W _ h
    have hx5 := fun (W : World) (h : StrsAt W0.heap.size W (.slice a1 S.length c1) S) => distance_bad S z HS.out.1 HS.out.2.1 HS.out.2.2 _ W _ h
    rw [← HE.out.1] at hx1 hx2 hx3 hx4 hx5
    have HX := Lib.hid (⟨hx1, hx2, hx3, hx4, hx5⟩ : _ ∧ _ ∧ _ ∧ _ ∧ _)
    clear hx1 hx2 hx3 hx4 hx5 h1 HS
    have HG := Lib.hid HGF
    clear HGF
    have hc := HF.out w2 R1.out
    go_wp2_with fail
    refine hc.mono ?_
    rintro e w3 ⟨rfl, hB⟩
    clear hc
    replace hA := hA.trans (hB.mono hA.size)
    replace R1 := Lib.hid (row_later R1.out hB)
    clear hB
    have hc := HX.out.1 w3 R1.out
    go_wp2_with fail
    refine hc.mono ?_
    rintro e w4 ⟨rfl, hB⟩
    clear hc
    replace hA := hA.trans (hB.mono hA.size)
    replace R1 := Lib.hid (row_later R1.out hB)
    clear hB
    have hc := HX.out.2.1 w4 R1.out
    go_wp2_with fail
    refine hc.mono ?_
    rintro e w5 ⟨rfl, hB⟩
    clear hc
    replace hA := hA.trans (hB.mono hA.size)
    replace R1 := Lib.hid (row_later R1.out hB)
    clear hB
    have hc := HX.out.2.2.1 w5 R1.out
    go_wp2_with fail
    refine hc.mono ?_
    rintro e w6 ⟨rfl, hB⟩
    clear hc
    replace hA := hA.trans (hB.mono hA.size)
    replace R1 := Lib.hid (row_later R1.out hB)
    clear hB
    have hc := HX.out.2.2.2.1 w6 R1.out
    go_wp2_with fail
    refine hc.mono ?_
    rintro e w7 ⟨rfl, hB⟩
    clear hc
    replace hA := hA.trans (hB.mono hA.size)
    replace R1 := Lib.hid (row_later R1.out hB)
    clear hB
    have hc := HX.out.2.2.2.2 w7 R1.out
    go_wp2_with fail
    refine hc.mono ?_
    rintro e w8 ⟨rfl, hB⟩
    clear hc
    replace hA := hA.trans (hB.mono hA.size)
    replace R1 := Lib.hid (row_later R1.out hB)
    clear hB
    clear R1
    have hc := HG.out w8
    go_wp2_with fail
    refine hc.mono ?_
    rintro e w9 ⟨rfl, rfl⟩
    clear hc
    go_wp2_with fail
    refine (cmpOr_to E1 (goalErr r) E1 HO.out _ _ (by simp) (by simp)).mono ?_
    rintro e wx ⟨rfl, rfl⟩
    obtain ⟨wo, hwo⟩ : ∃ wo : World, wo = w8.alloc (.cells #[.int .i64 E1, .int .i64 (goalErr r)] 30) := ⟨_, rfl⟩
    have hBx : Below w8.heap.size w8 wo := by rw [hwo]; exact (Below.refl _ _).alloc (Nat.le_refl _) _
    replace hA := hA.trans (hBx.mono hA.size)
    rw [← hwo]
    clear hwo hBx
    have hc := patterned_any wo
    go_wp2_with fail
    refine hc.mono ?_
    rintro e w10 ⟨rfl, hB⟩
    clear hc
    replace hA := hA.trans (hB.mono hA.size)
    clear hB
    have HA := Lib.hid hA
    clear hA
    go_wp2_with fail
    go_ret
    exact ⟨rfl, HA.out⟩
end Go.Proofs.YtlkdpgjbbbaiiaaDoor
