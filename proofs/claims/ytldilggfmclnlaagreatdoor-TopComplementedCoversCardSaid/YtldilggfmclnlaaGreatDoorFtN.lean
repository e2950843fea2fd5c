/- The walk of TopComplementedCovers: it returns true, and turns nothing that was there. -/
import Derived.Test.YtldilggfmclnlaaGreatDoorFtL
import Derived.Laws.StructEq
import Derived.Test.YtldilggfmclnlaaGreatDoorPvFrom
namespace Go.Proofs.YtldilggfmclnlaaGreatDoor
open Go.RowKit

theorem tnets_lit (W : World) : NetsAt (W.alloc (.cells #[.int .i64 1, .int .i64 2, .int .i64 3, .int .i64 4, .int .i64 5, .int .i64 6] 3)) (.slice (some ⟨W.heap.size, 0, none⟩) 6 6) kindsL := (nets_fresh W kindsL (by decide)).at

theorem kinds_rise : ∀ i, i + 1 < kindsL.length → kindsL.getD i 0 < kindsL.getD (i + 1) 0 := by
  intro i hi
  have h : i < 5 := by simp [kindsL] at hi; omega
  have hd : ∀ i, i < 5 → kindsL.getD i 0 < kindsL.getD (i + 1) 0 := by decide
  exact hd i h

set_option maxHeartbeats 8000000 in
set_option maxRecDepth 100000 in
theorem ftlaw_any (a0 : Option Addr) (len cap : Nat) (w : World) (h : RowIn w a0 len) (hT : Tab w) (hU : U8T w) :
    Calls Tryz.prog 3 #[.slice a0 len cap] w fun e w' => e = .returned (.bool true) ∧ Below w.heap.size w w' := by
  have hs := Strm.start (cap := cap) h
  obtain ⟨W0, hW0⟩ : ∃ W0 : World, w.alloc (.cells #[.slice a0 len cap, .int .i64 0] 25) = W0 := ⟨_, rfl⟩
  rw [hW0] at hs
  have hB0 : Below w.heap.size w W0 := by rw [← hW0]; exact (Below.refl _ w).alloc (Nat.le_refl _) _
  have HT := Lib.hid (⟨hT, hU⟩ : _ ∧ _)
  have HB0 := Lib.hid hB0
  have hs0 := hs.lt
  clear h hT hU hB0
  go_enter Tryz.func3, Tryz.ntmps3
  go_wp2_with fail
  have HW0 := Lib.hid hW0
  clear hW0
  refine (range_any w.heap.size 0 1 12 _ hs (by omega) (by decide) (by decide) (by decide)).mono ?_
  rintro e w1 ⟨⟨zn, hz1, hz2, rfl⟩, hr1⟩
  obtain ⟨n, rfl⟩ : ∃ n : Nat, zn = (n : Int) := ⟨zn.toNat, by omega⟩
  have hn1 : 1 ≤ n := by omega
  have hn2 : n < 13 := by omega
  have hA1 : Below w.heap.size w w1 := HB0.out.trans (hr1.below (by omega))
  have hU1 : U8T w1 := HT.out.2.below hA1 HT.out.2.lt.1 HT.out.2.lt.2
  have HA1 := Lib.hid hA1
  have hco := complemented_ok n hn1 (by omega) w1 hU1
  obtain ⟨V, hV⟩ : ∃ V, V = topV n := ⟨_, rfl⟩
  change Calls _ _ _ _ (fun e w' => ∃ v : Value, e = .returned (.tuple #[v, .int .i64 0]) ∧ StrsAt w1.heap.size w' v (topV n) ∧ Below w1.heap.size w1 w') at hco
  rw [← hV] at hco
  have hv1 := top_turn n hn2 hn1
  have hv2 := top_long n hn2 hn1
  have hv3 := top_err n hn2 hn1
  rw [← hV] at hv1 hv2 hv3
  have HV := Lib.hid (⟨hv1, hv2, hv3⟩ : _ ∧ _ ∧ _)
  clear hA1 hU1 hr1 hs hV hv1 hv2 hv3
  go_wp2_with fail
  refine hco.mono ?_
  rintro e w2 ⟨v, rfl, hS, hB2⟩
  clear hco
  obtain ⟨a1, c1, rfl, -⟩ := strs_open hS
  have hsq := sequences_ok V n hn1 (by omega) HV.out.2.1.1 HV.out.2.1.2 HV.out.2.2 _ w2 _ hS
  rw [HV.out.1] at hsq
  have HA2 := Lib.hid (HA1.out.trans (hB2.mono HA1.out.size))
  clear hS hB2
  generalize V.length = vl at hsq ⊢
  go_wp2_with fail
  refine hsq.mono ?_
  rintro e w3 ⟨v, rfl, hS, hB3⟩
  clear hsq
  have HA3 := Lib.hid (HA2.out.trans (hB3.mono HA2.out.size))
  have HTs := Lib.hid hS
  obtain ⟨a2, c2, rfl, -⟩ := strs_open hS
  rw [(topTest n hn1 hn2).len] at HTs ⊢
  obtain ⟨hm0, hm1⟩ := top_many n hn2 hn1
  have hall := fAll_ok n hn1 (by omega) kindsL (by decide) (by decide) kinds_rise hm1 _ _ (tnets_lit w3)
  have hBl : Below w3.heap.size w3 (w3.alloc (.cells #[.int .i64 1, .int .i64 2, .int .i64 3, .int .i64 4, .int .i64 5, .int .i64 6] 3)) := (Below.refl _ _).alloc (Nat.le_refl _) _
  have HBl := Lib.hid hBl
  clear hS hB3 hBl
  go_wp2_with fail
  refine hall.mono ?_
  rintro e w4 ⟨v4, rfl, hfl, hB4⟩
  clear hall
  have hB4' : Below w3.heap.size w3 w4 := HBl.out.trans (hB4.mono HBl.out.size)
  have HA4 := Lib.hid (HA3.out.trans (hB4'.mono HA3.out.size))
  have HF4 := Lib.hid hfl.at
  have HT4 := Lib.hid (row_later HTs.out hB4')
  obtain ⟨a4, c4, rfl⟩ := hfl.open
  have hun := undetected_any (compS n) n (2 * cLen n) (topTest n hn1 hn2) (allKinds n kindsL) hm1 (topFlts n hn1 hn2) _ w4 _ _ HT4.out HF4.out
  rw [topUnd n hn1 hn2] at hun
  have hcv := fun W (hB : Below w4.heap.size w4 W) => coverage_all (compS n) n (2 * cLen n) (topTest n hn1 hn2) (allKinds n kindsL) hm0 hm1 (topFlts n hn1 hn2) (topDets n hn1 hn2) _ W _ _ (row_later HT4.out hB) (HF4.out.later hB)
  have HCV := Lib.hid hcv
  clear hfl hB4 hB4' hcv hm0 hm1 HF4 HT4 HTs
  generalize (allKinds n kindsL).length = al at hun HCV ⊢
  go_wp2_with fail
  refine hun.mono ?_
  rintro e w5 ⟨v5, rfl, hN, hB5⟩
  clear hun
  obtain ⟨a5, c5, rfl⟩ := netsOwn_open hN
  have HA5 := Lib.hid (HA4.out.trans (hB5.mono HA4.out.size))
  have hc6 := HCV.out w5 hB5
  clear hN hB5
  go_wp2_with fail
  refine hc6.mono ?_
  rintro e w6 ⟨rfl, hB6⟩
  clear hc6
  have hA6 : Below w.heap.size w w6 := HA5.out.trans (hB6.mono HA5.out.size)
  have hA7 : Below w.heap.size w (w6.alloc (.cells #[.int .i64 1, .int .i64 1] 38)) := hA6.alloc hA6.size _
  have hT7 : Tab (w6.alloc (.cells #[.int .i64 1, .int .i64 1] 38)) := HT.out.1.below hA7 HT.out.1.lt
  have hh := h06facts_any _ hT7
  have HA7 := Lib.hid hA7
  clear hB6 hA6 hA7 hT7
  go_wp2_with fail
  refine hh.mono ?_
  rintro e w8 ⟨rfl, hB8⟩
  clear hh
  go_wp2_with fail
  go_ret
  exact ⟨rfl, HA7.out.trans (hB8.mono HA7.out.size)⟩
end Go.Proofs.YtldilggfmclnlaaGreatDoor
