/- The readiness that the kept properties ask: packages tap, pattern and wafer do something. -/
import Derived.Test.YtoipgliokelcfaaGreatDoorWfD
import Derived.Laws.StructEq
import Derived.Test.YtoipgliokelcfaaGreatDoorGmA
import Derived.Test.YtoipgliokelcfaaGreatDoorPvStr
import Derived.Test.YtoipgliokelcfaaGreatDoorM1
import Derived.Test.YtoipgliokelcfaaGreatDoorM2
import Derived.Test.YtoipgliokelcfaaGreatDoorRows
import Derived.ProofKit
import Derived.LaidMore
import Derived.OpenShut
import Derived.Lay
import Derived.Lib.LaidU8
import Derived.Lib.LaidTab
import Derived.Stop.Joined
namespace Go.Proofs.YtoipgliokelcfaaGreatDoor
open Go.RowKit

def oneR : List (List UInt8) := [[49, 120]]
theorem oneR_right : RowsRight oneR := by
  refine ⟨⟨by decide, by decide, ?_⟩, by decide, by decide, ?_⟩
  · intro j hj
    have : j < 1 := hj
    obtain rfl : j = 0 := by omega
    rfl
  · intro j hj
    have : j < 1 := hj
    obtain rfl : j = 0 := by omega
    decide +kernel
theorem oneP_right : PassRight ⟨#[49]⟩ := by
  intro i h
  have h1 : i < 1 := h
  obtain rfl : i = 0 := by omega
  refine ⟨(show inS binsS 49 = true by decide +kernel), fun k hk => by omega⟩
theorem one_cnt1 : cntTo (fun p => tstB (dieN oneR p.1 p.2)) (tstL oneR) (tstL oneR).length = 2 := by decide +kernel
theorem one_cnt2 : cntTo (fun p => inS ⟨#[49]⟩ (dieN oneR p.1 p.2)) (tstL oneR) (tstL oneR).length = 1 := by decide +kernel
theorem one_yield : yldW oneR ⟨#[49]⟩ = .tuple #[.agg #[.int .i64 1, .int .i64 2], .bool true] := by
  unfold yldW
  rw [one_cnt1, one_cnt2]
  rfl
theorem three_len : (turnL (genS 2 3 3) 3).length = 3 := by decide +kernel
set_option maxHeartbeats 800000 in
set_option maxRecDepth 100000 in
theorem ready1_any (w : World) (hT : Tab w) : Calls Tryz.prog 13 #[] w fun e w' => e = .returned (.bool true) ∧ Below w.heap.size w w' := by
  have h1 := path_ok 4 1 w (by decide) (by decide) hT
  rw [path_110] at h1
  have h2 : ∀ W, Calls Tryz.prog 15 #[.int .i64 3] W _ := fun W => counting_ok 3 (by decide) (by decide) W
  have h3 := fun W v h => wfYield_right oneR oneR_right ⟨#[49]⟩ oneP_right (by decide) W v h
  clear hT
  go_enter Tryz.func13, Tryz.ntmps13
  go_wp2_with fail
  refine h1.mono ?_
  rintro e w1 ⟨rfl, hB1⟩
  have HB1 := Lib.hid hB1
  clear hB1 h1
  have h2' := h2 w1
  clear h2
  go_wp2_with fail
  refine h2'.mono ?_
  rintro e w2 ⟨k, v, hk, hle, rfl, hv, hB2⟩
  obtain rfl : k = 3 := hle.unique ⟨by decide +kernel, by decide +kernel⟩
  obtain ⟨va, vc, rfl⟩ : ∃ a c, v = .slice a 3 c := by
    obtain ⟨-, ⟨rfl, h0⟩ | ⟨g, cap, cur, rfl, -⟩⟩ := hv
    · rw [three_len] at h0; cases h0
    · rw [three_len]; exact ⟨_, _, rfl⟩
  have HB2 := Lib.hid (HB1.out.trans (hB2.mono HB1.out.size))
  clear hv hle hB2 h2' hk
  have hrow : RowsIn (w2.alloc (.cells #[.string ⟨#[49, 120]⟩] 9)) (.slice (some ⟨w2.heap.size, 0, none⟩) 1 1) oneR := by
    refine ⟨_, _, rfl, Nat.le_refl _, fun _ => ⟨_, 0, rfl, by simp, fun j hj => ?_⟩⟩
    have : j < 1 := hj
    obtain rfl : j = 0 := by omega
    simp
    rfl
  have hy := h3 _ _ hrow
  have hBa : Below w2.heap.size w2 (w2.alloc (.cells #[.string ⟨#[49, 120]⟩] 9)) := (Below.refl _ _).alloc (Nat.le_refl _) _
  have HA := Lib.hid (HB2.out.trans (hBa.mono HB2.out.size))
  clear hrow h3 hBa
  go_wp2_with fail
  refine hy.mono ?_
  rintro e w3 ⟨⟨x, y, q, hyw, rfl⟩, hB3⟩
  rw [one_yield] at hyw
  injection hyw with hyw
  have e1 := congrArg Array.toList hyw
  simp only [List.cons.injEq, Value.agg.injEq, Value.bool.injEq, and_true] at e1
  obtain ⟨e1, rfl⟩ := e1
  have e2 := congrArg Array.toList e1
  simp only [List.cons.injEq, Value.int.injEq, and_true, true_and] at e2
  obtain ⟨rfl, rfl⟩ := e2
  have HB3 := Lib.hid (HA.out.trans (hB3.mono HA.out.size))
  clear hy hB3 hyw e1
  go_wp2_with fail
  go_ret
  exact ⟨rfl, HB3.out.alloc HB3.out.size _⟩
end Go.Proofs.YtoipgliokelcfaaGreatDoor
/- The walk of GeneratedMeet: it returns true, and turns nothing that was there. -/
namespace Go.Proofs.YtoipgliokelcfaaGreatDoor
open Go.RowKit

theorem genAny (z n : Nat) (hz : z = 1 ∨ z = 2 ∨ z = 3) (h1 : 1 ≤ n) (h2 : n ≤ 100) (w : World) : Calls Tryz.prog 17 #[.int .i64 (n : Int), .int .i64 (z : Int)] w fun e w' => ∃ (k : Nat) (v : Value), k ≤ 9 ∧ Least z n k ∧ e = .returned (.tuple #[v, .int .i64 0]) ∧ StrsAt w.heap.size w' v (turnL (genS z n k) k) ∧ Below w.heap.size w w' := by
  rcases hz with rfl | rfl | rfl
  · exact generate1_ok n h1 h2 w
  · exact generate2_ok n h1 h2 w
  · exact generate3_ok n h1 h2 w
theorem minAny (z n : Nat) (hz : z = 1 ∨ z = 2 ∨ z = 3) (h1 : 1 ≤ n) (h2 : n ≤ 100) (w : World) : Calls Tryz.prog 18 #[.int .i64 (n : Int), .int .i64 (z : Int)] w fun e w' => ∃ k : Nat, k ≤ 9 ∧ Least z n k ∧ e = .returned (.tuple #[.int .i64 (k : Int), .int .i64 0]) ∧ Below w.heap.size w w' := by
  rcases hz with rfl | rfl | rfl
  · exact minimum1_ok n h1 h2 w
  · exact minimum2_ok n h1 h2 w
  · exact minimum3_ok n h1 h2 w
theorem meetAny (S : List (List UInt8)) (n k : Nat) (hr : rowsB S n k = true) (h1 : 1 ≤ n) (h2 : n ≤ 100) (hk : k ≤ 18) (goal : Nat) (hg : goal = 1 ∨ goal = 2 ∨ goal = 3) (hm : meetsB S n (goal : Int) = true) (B : Nat) (w : World) (v : Value) (h : StrsAt B w v (turnL S k)) :
    Calls Tryz.prog 19 #[.int .i64 (n : Int), v, .int .i64 (goal : Int)] w fun e w' => e = .returned (.tuple #[.bool true, .int .i64 0]) ∧ Below w.heap.size w w' := by
  obtain ⟨e1, e2, e3⟩ := turn_right S n k hr h1 h2 (by omega)
  have hq := meets_ok (turnL S k) n h1 h2 (by omega) e2 e3 (goal : Int) B w v h
  rw [turn_twice S n k hr, hm] at hq
  have hz : meetsE (goal : Int) = 0 := by unfold meetsE; rw [if_pos (by omega)]
  rw [hz] at hq
  exact hq
theorem set7 : ∀ kk, kk < 7 → ∃ n : Nat, ([1, 2, 3, 5, 20, 70, 100] : List Int).getD kk 0 = (n : Int) ∧ (n = 1 ∨ n = 2 ∨ n = 3 ∨ n = 5 ∨ n = 20 ∨ n = 70 ∨ n = 100) := by
  intro kk hk
  have h : ([1, 2, 3, 5, 20, 70, 100] : List Int).getD kk 0 = 1 ∨ ([1, 2, 3, 5, 20, 70, 100] : List Int).getD kk 0 = 2 ∨ ([1, 2, 3, 5, 20, 70, 100] : List Int).getD kk 0 = 3 ∨ ([1, 2, 3, 5, 20, 70, 100] : List Int).getD kk 0 = 5 ∨ ([1, 2, 3, 5, 20, 70, 100] : List Int).getD kk 0 = 20 ∨ ([1, 2, 3, 5, 20, 70, 100] : List Int).getD kk 0 = 70 ∨ ([1, 2, 3, 5, 20, 70, 100] : List Int).getD kk 0 = 100 := by
    revert kk
    decide
  generalize ([1, 2, 3, 5, 20, 70, 100] : List Int).getD kk 0 = y at h ⊢
  exact ⟨y.toNat, by omega, by omega⟩
theorem cells7 (w : World) (l : List Int) (ty : TypeId) : ∀ k, k < l.length → (w.alloc (.cells (l.map (Value.int .i64)).toArray ty)).cell? ⟨w.heap.size, 0 + k, none⟩ = some (.int .i64 (l.getD k 0)) := ints_fresh w l ty
set_option maxHeartbeats 1600000 in
set_option maxRecDepth 100000 in
theorem gmlaw_any (a0 : Option Addr) (len cap : Nat) (w : World) (h : RowIn w a0 len) (hT : Tab w) (hU : U8T w) :
    Calls Tryz.prog 4 #[.slice a0 len cap] w fun e w' => e = .returned (.bool true) ∧ Below w.heap.size w w' := by
  have hs := Strm.start (cap := cap) h
  have hTl := hT.lt
  obtain ⟨W0, hW0⟩ : ∃ W0 : World, w.alloc (.cells #[.slice a0 len cap, .int .i64 0] 25) = W0 := ⟨_, rfl⟩
  rw [hW0] at hs
  have hB0 : Below w.heap.size w W0 := by rw [← hW0]; exact (Below.refl _ w).alloc (Nat.le_refl _) _
  have hsz0 : W0.heap.size = w.heap.size + 1 := by rw [← hW0]; simp
  have hp := pick_any w.heap.size 0 W0.heap.size 0 7 7 (fun k => ([1, 2, 3, 5, 20, 70, 100] : List Int).getD k 0) _ (hs.alloc _) (by omega) (by decide) (by decide) (by omega) (cells7 W0 ([1, 2, 3, 5, 20, 70, 100] : List Int) 3)
  have HT := Lib.hid (fun X (hX : Below w.heap.size w X) => ready1_any X (hT.below hX hTl))
  have HU := Lib.hid (fun X (hX : Below w.heap.size w X) => hU.below hX hU.lt.1 hU.lt.2)
  have HB0 := Lib.hid hB0
  have HZ0 := Lib.hid hsz0
  have hgt : w.heap.size < W0.heap.size := by omega
  clear h hB0 hs hT hTl hU hsz0
  go_enter Tryz.func4, Tryz.ntmps4
  go_wp2_with fail
  have HW0 := Lib.hid hW0
  clear hW0
  refine hp.mono ?_
  rintro e w1 ⟨⟨kk, hkk, rfl⟩, hr1⟩
  have hr1 := hr1.after_alloc
  dsimp only
  have hset := set7 kk hkk
  generalize ([1, 2, 3, 5, 20, 70, 100] : List Int).getD kk 0 = yn at hset ⊢
  obtain ⟨n, rfl, hn⟩ := hset
  obtain ⟨t1, ht1, ht1', hs1⟩ := hr1.strm
  have h2 := range_any w.heap.size t1 1 3 w1 hs1 (by omega) (by decide) (by decide) (by decide)
  have HR1 := Lib.hid hr1
  clear hp hr1 hs1 hkk
  go_wp2_with fail
  refine h2.mono ?_
  rintro e w2 ⟨⟨z, z1, z2, rfl⟩, hr2⟩
  obtain ⟨z, rfl⟩ : ∃ q : Nat, z = (q : Int) := ⟨z.toNat, by omega⟩
  have hz : z = 1 ∨ z = 2 ∨ z = 3 := by omega
  have hB2 := HB0.out.trans ((HR1.out.then ht1 ht1' hr2).below (by omega))
  obtain ⟨k1, k, hN, hZ, hk1, hk2, hb1, hb2, hb3⟩ := gm_all n z hn hz
  have n1 : 1 ≤ n := by omega
  have n100 : n ≤ 100 := by omega
  have q1 := counting_ok n n1 n100 w2
  have HB2 := Lib.hid hB2
  have HH := Lib.hid (⟨hN, hZ, hk1, hk2, hz⟩ : _ ∧ _ ∧ _ ∧ _ ∧ _)
  clear h2 hr2 hB2 hN hZ hn
  go_wp2_with fail
  refine q1.mono ?_
  rintro e w3 ⟨k', v1, -, hle, rfl, hv1, hy⟩
  obtain rfl : k' = k1 := hle.unique HH.out.1.least
  have hB := HB2.out.trans (hy.mono HB2.out.size)
  have q2 := complemented_ok n n1 n100 w3 (HU.out w3 hB)
  have hl1 := (turn_right _ n k' HH.out.1.r1 n1 n100 (by omega)).1
  obtain ⟨a1, c1, rfl, -⟩ := strs_open hv1
  rw [hl1] at hv1 ⊢
  have HB3 := Lib.hid hB
  have HV1 := Lib.hid hv1
  clear q1 hle hv1 hy hB
  go_wp2_with fail
  refine q2.mono ?_
  rintro e w4 ⟨v2, rfl, hv2, hy⟩
  have hB := HB3.out.trans (hy.mono HB3.out.size)
  have q3 := genAny z n HH.out.2.2.2.2 n1 n100 w4
  have hl2 := (turn_right _ n (2 * cLen n) HH.out.1.r2 n1 n100 (by omega)).1
  obtain ⟨a2, c2, rfl, -⟩ := strs_open hv2
  rw [hl2] at hv2 ⊢
  have HB4 := Lib.hid hB
  have HV2 := Lib.hid (⟨hv2, row_later HV1.out hy⟩ : _ ∧ _)
  clear q2 hv2 hy hB
  go_wp2_with fail
  refine q3.mono ?_
  rintro e w5 ⟨k3, v3, -, hle, rfl, hv3, hy⟩
  obtain rfl : k3 = k := hle.unique HH.out.2.1.least
  have hB := HB4.out.trans (hy.mono HB4.out.size)
  have q4 := minAny z n HH.out.2.2.2.2 n1 n100 w5
  have hl3 := (turn_right _ n k3 HH.out.2.1.r n1 n100 (by omega)).1
  obtain ⟨a3, c3, rfl, -⟩ := strs_open hv3
  rw [hl3] at hv3 ⊢
  have HB5 := Lib.hid hB
  have HV3 := Lib.hid (⟨hv3, row_later HV2.out.1 hy, row_later HV2.out.2 hy⟩ : _ ∧ _ ∧ _)
  clear q3 hle hv3 hy hB
  go_wp2_with fail
  refine q4.mono ?_
  rintro e w6 ⟨k4, -, hle, rfl, hy⟩
  obtain rfl : k4 = k3 := hle.unique HH.out.2.1.least
  have hB := HB5.out.trans (hy.mono HB5.out.size)
  have r1 := row_later HV3.out.2.2 hy
  have r2 := row_later HV3.out.2.1 hy
  have r3 := row_later HV3.out.1 hy
  have q5 : Calls Tryz.prog 19 #[.int .i64 (n : Int), .slice a1 k' c1, .int .i64 2] w6 fun e w' => e = .returned (.tuple #[.bool true, .int .i64 0]) ∧ Below w6.heap.size w6 w' := meetAny _ n k' HH.out.1.r1 n1 n100 (by omega) 2 (by omega) HH.out.1.m1 _ w6 _ r1
  have q6 : ∀ X, Below w6.heap.size w6 X → Calls Tryz.prog 19 #[.int .i64 (n : Int), .slice a2 (2 * cLen n) c2, .int .i64 2] X fun e w' => e = .returned (.tuple #[.bool true, .int .i64 0]) ∧ Below X.heap.size X w' := fun X hX => meetAny _ n (2 * cLen n) HH.out.1.r2 n1 n100 (by omega) 2 (by omega) HH.out.1.m2 _ X _ (row_later r2 hX)
  have q7 : ∀ X, Below w6.heap.size w6 X → Calls Tryz.prog 19 #[.int .i64 (n : Int), .slice a2 (2 * cLen n) c2, .int .i64 3] X fun e w' => e = .returned (.tuple #[.bool true, .int .i64 0]) ∧ Below X.heap.size X w' := fun X hX => meetAny _ n (2 * cLen n) HH.out.1.r2 n1 n100 (by omega) 3 (by omega) HH.out.1.m3 _ X _ (row_later r2 hX)
  have q8 : ∀ X, Below w6.heap.size w6 X → Calls Tryz.prog 19 #[.int .i64 (n : Int), .slice a3 k4 c3, .int .i64 (z : Int)] X fun e w' => e = .returned (.tuple #[.bool true, .int .i64 0]) ∧ Below X.heap.size X w' := fun X hX => meetAny _ n k4 HH.out.2.1.r n1 n100 (by omega) z hz HH.out.2.1.m _ X _ (row_later r3 hX)
  have hx : ¬ ((k' : Int) < (k4 : Int)) ∨ (((k' : Int) < (k4 : Int)) ∧ z = 3) := by
    by_cases h3 : z = 3
    · by_cases h4 : (k' : Int) < (k4 : Int)
      · exact Or.inr ⟨h4, h3⟩
      · exact Or.inl h4
    · have := hk1 h3; exact Or.inl (by omega)
  obtain ⟨m2, hm2⟩ : ∃ m2, m2 = 2 * cLen n := ⟨_, rfl⟩
  rw [← hm2] at q6 q7 hk2 ⊢
  have x2 : ¬ (m2 : Int) < (k4 : Int) := by omega
  have HB6 := Lib.hid hB
  clear q4 hle hy hB r1 r2 r3 hm2 hl1 hl2 hl3 hk1 hk2 hb3 HV1 HV2 HV3 HH hz hr1
  rcases hx with hA | ⟨hA, rfl⟩
  all_goals
    go_wp2_with fail
    refine q5.mono ?_
    rintro e w7 ⟨rfl, hy7⟩
    have q6' := q6 w7 hy7
    have H7 := Lib.hid hy7
    clear q5 q6 hy7
    go_wp2_with fail
    refine q6'.mono ?_
    rintro e w8 ⟨rfl, hy8⟩
    have hB8 := H7.out.trans (hy8.mono H7.out.size)
    have q7' := q7 w8 hB8
    have H8 := Lib.hid hB8
    clear q6' q7 hy8 hB8
    go_wp2_with fail
    refine q7'.mono ?_
    rintro e w9 ⟨rfl, hy9⟩
    have hB9 := H8.out.trans (hy9.mono H8.out.size)
    have q8' := q8 w9 hB9
    have H9 := Lib.hid hB9
    clear q7' q8 hy9 hB9
    go_wp2_with fail
    refine q8'.mono ?_
    rintro e w10 ⟨rfl, hy10⟩
    have hB10 := H9.out.trans (hy10.mono H9.out.size)
    have HX := Lib.hid (HB6.out.trans (hB10.mono HB6.out.size))
    have hrd := HT.out w10 HX.out
    clear q8' hy10 hB10
    go_wp2_with fail
    refine hrd.mono ?_
    rintro e w11 ⟨rfl, hy11⟩
    have HZ := Lib.hid (HX.out.trans (hy11.mono HX.out.size))
    clear hrd hy11
    go_wp2_with fail
    go_ret
    exact ⟨rfl, HZ.out⟩
end Go.Proofs.YtoipgliokelcfaaGreatDoor
/- The walk of FewerDoNotMeet: it returns true, and turns nothing that was there. -/
namespace Go.Proofs.YtoipgliokelcfaaGreatDoor
open Go.RowKit

set_option maxHeartbeats 1600000 in
set_option maxRecDepth 100000 in
theorem fdlaw_any (a0 : Option Addr) (len cap : Nat) (w : World) (h : RowIn w a0 len) (hT : Tab w) :
    Calls Tryz.prog 6 #[.slice a0 len cap] w fun e w' => e = .returned (.bool true) ∧ Below w.heap.size w w' := by
  have hs := Strm.start (cap := cap) h
  have hTl := hT.lt
  obtain ⟨W0, hW0⟩ : ∃ W0 : World, w.alloc (.cells #[.slice a0 len cap, .int .i64 0] 25) = W0 := ⟨_, rfl⟩
  rw [hW0] at hs
  have hB0 : Below w.heap.size w W0 := by rw [← hW0]; exact (Below.refl _ w).alloc (Nat.le_refl _) _
  have hsz0 : W0.heap.size = w.heap.size + 1 := by rw [← hW0]; simp
  have hgt : w.heap.size < W0.heap.size := by omega
  have h1 : Calls Tryz.prog 20 #[.pointer (some ⟨w.heap.size, 0, none⟩), .int .i64 5] W0 _ := rightPatR_any w.heap.size 0 5 W0 hs (by omega) (by decide)
  have HT := Lib.hid (fun X (hX : Below w.heap.size w X) => ready1_any X (hT.below hX hTl))
  have HB0 := Lib.hid hB0
  clear h hB0 hs hT hTl hsz0
  go_enter Tryz.func6, Tryz.ntmps6
  go_wp2_with fail
  have HW0 := Lib.hid hW0
  clear hW0
  refine h1.mono ?_
  rintro e w1 ⟨z0, v, rfl, V, hV, hz11, hz12, hr1, hE⟩
  obtain ⟨n, rfl, n1, n100, hz, hb⟩ := vecErr_none hE
  obtain ⟨t1, ht1, ht1', hs1⟩ := hr1.strm
  have h2 := range_any w.heap.size t1 1 3 w1 hs1 (by omega) (by decide) (by decide) (by decide)
  have HV := Lib.hid (⟨hV, hz11, hz12, hE, hb⟩ : _ ∧ _ ∧ _ ∧ _ ∧ _)
  obtain ⟨a1, c1, rfl, -⟩ := strs_open hV
  have HR1 := Lib.hid hr1
  have hsz1 : W0.heap.size ≤ w1.heap.size := hr1.1.size
  clear h1 hr1 hE hb hV hs1 hz11 hz12
  go_wp2_with fail
  refine h2.mono ?_
  rintro e w2 ⟨⟨z, z1, z2, rfl⟩, hr2⟩
  obtain ⟨z, rfl⟩ : ∃ q : Nat, z = (q : Int) := ⟨z.toNat, by omega⟩
  have hg : z = 1 ∨ z = 2 ∨ z = 3 := by omega
  have hB2 := HB0.out.trans ((HR1.out.then ht1 ht1' hr2).below (by omega))
  have hV2 := row_ran HV.out.1 hr2 hgt
  have q1 := minAny z n hg n1 n100 w2
  have HB2 := Lib.hid hB2
  have HV2 := Lib.hid hV2
  clear h2 hr2 hB2 hV2
  go_wp2_with fail
  refine q1.mono ?_
  rintro e w3 ⟨k, hk9, hle, rfl, hy⟩
  have hB := HB2.out.trans (hy.mono HB2.out.size)
  have hv := row_later HV2.out hy
  have q2 := meets_ok V n n1 n100 hz HV.out.2.2.2.2 HV.out.2.2.2.1 (z : Int) _ w3 _ hv
  have hE0 : meetsE (z : Int) = 0 := by unfold meetsE; rw [if_pos (by omega)]
  have hfew := few_plain V n z k n1 n100 HV.out.2.1 HV.out.2.2.1 HV.out.2.2.2.2 hg hle
  rw [hE0] at q2
  generalize meetsB (turnL V n) n (z : Int) = r at q2 hfew
  generalize V.length = m at q2 hfew ⊢
  have HB3 := Lib.hid hB
  clear q1 hle hy hB hv hE0 HV HV2
  go_wp2_with fail
  refine q2.mono ?_
  rintro e w4 ⟨rfl, hy⟩
  have HB4 := Lib.hid (HB3.out.trans (hy.mono HB3.out.size))
  have hrd := HT.out w4 HB4.out
  clear q2 hy
  cases r with
  | true =>
    have h6 := hfew rfl
    have hx : ¬ m < k := by omega
    clear hfew
    go_wp2_with fail
    refine hrd.mono ?_
    rintro e w5 ⟨rfl, hy⟩
    have HZ := Lib.hid (HB4.out.trans (hy.mono HB4.out.size))
    clear hrd hy
    go_wp2_with fail
    go_ret
    exact ⟨rfl, HZ.out⟩
  | false =>
    clear hfew
    go_wp2_with fail
    refine hrd.mono ?_
    rintro e w5 ⟨rfl, hy⟩
    have HZ := Lib.hid (HB4.out.trans (hy.mono HB4.out.size))
    clear hrd hy
    go_wp2_with fail
    go_ret
    exact ⟨rfl, HZ.out⟩
end Go.Proofs.YtoipgliokelcfaaGreatDoor
/- What the condition on the variables of the card of FewerDoNotMeet gives the walks: the states' table. -/
namespace Go.Proofs.YtoipgliokelcfaaGreatDoor
open Go.ChangeShapes Go.WideShapes Go.ChangeAt Go.RowKit

theorem Tryz.own : ownKnob Tryz.prog.godebug = none := by kernel_rfl
theorem Tryz.laidOut : laidOutB Tryz.prog = true := by kernel_rfl
theorem Tryz.bytesInt : Tryz.prog.bytesOf 3 = 8 := by kernel_rfl
theorem Tryz.cInt : Tryz.prog.cellsOf 3 = 1 := by kernel_rfl

/-- The name of the table, as the row lists it. -/
def nextName : String := (Rows.fewerDoNotMeetRow.laid.map (·.1)).getD 4 Rows.fewerDoNotMeetRow.spec
theorem Tryz.gNext : Tryz.prog.globalNamed nextName = some 0 := by kernel_rfl
theorem Tryz.tNext : (Tryz.prog.globals[0]?).map (·.type) = some 59 := by kernel_rfl
theorem Tryz.cPair : Tryz.prog.cellsOf 58 = 2 := by kernel_rfl
theorem laid_next : (Rows.laid_scanchain_tap_nextStates : DataW Unit) = .agg ((List.range 16).map fun i => Lib.tabData .i64 [((nxL.getD (i * 2) 0 : Nat) : Int), ((nxL.getD (i * 2 + 1) 0 : Nat) : Int)]) := by kernel_rfl

theorem tab_of_reads {W : World} (h : Lib.VarReads Tryz.prog W nextName Rows.laid_scanchain_tap_nextStates) : Tab W := by
  obtain ⟨g, t, cs, fuel, p, hg, ht, hv, hd⟩ := h
  obtain rfl := Option.some.inj (Tryz.gNext.symm.trans hg)
  obtain rfl := Option.some.inj (Tryz.tNext.symm.trans ht)
  rw [laid_next] at hd
  obtain ⟨xs, m, _, ex, _, hl, hel⟩ := DataW.trod_array Tryz.underlying59 hd
  have e3 : xs.map (·.1) = (List.range 16).map fun i => (Lib.tabData .i64 [((nxL.getD (i * 2) 0 : Nat) : Int), ((nxL.getD (i * 2 + 1) 0 : Nat) : Int)] : DataW Unit) := (DataW.agg.inj (Prod.mk.inj ex).1).symm
  intro k hk
  rw [World.var?_cell hg hv k]
  have hi : k / 2 < 16 := by omega
  have h1 := hel (k / 2) hi
  rw [Tryz.cPair, List.getElem?_eq_getElem (by omega)] at h1
  have e4 : (xs[k / 2]'(by omega)).1 = Lib.tabData .i64 [((nxL.getD (k / 2 * 2) 0 : Nat) : Int), ((nxL.getD (k / 2 * 2 + 1) 0 : Nat) : Int)] := by
    have := congrArg (fun l => l[k / 2]?) e3
    simp only [List.getElem?_map, List.getElem?_range hi, Option.map_some] at this
    rw [List.getElem?_eq_getElem (by omega : k / 2 < xs.length)] at this
    simpa using this
  have h2 := Lib.cells_of_tab (p := (xs[k / 2]'(by omega)).2) (zs := [((nxL.getD (k / 2 * 2) 0 : Nat) : Int), ((nxL.getD (k / 2 * 2 + 1) 0 : Nat) : Int)]) Tryz.underlying58 Tryz.underlying3 Tryz.cInt Tryz.cPair (by rw [h1, ← e4])
  have h3 : cs.toList[k]? = ((cs.toList.drop (k / 2 * 2)).take 2)[k % 2]? := by
    rw [List.getElem?_take_of_lt (by omega), List.getElem?_drop]
    congr 1
    omega
  rw [h2] at h3
  have h4 : cs[k]? = cs.toList[k]? := by simp
  rw [h4, h3]
  have : k % 2 = 0 ∨ k % 2 = 1 := by omega
  rcases this with e | e
  · rw [e, show k / 2 * 2 = k from by omega]; rfl
  · rw [e, show k / 2 * 2 + 1 = k from by omega]; rfl

end Go.Proofs.YtoipgliokelcfaaGreatDoor
