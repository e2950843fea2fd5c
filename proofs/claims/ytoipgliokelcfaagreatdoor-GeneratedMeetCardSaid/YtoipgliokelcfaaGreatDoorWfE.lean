/- The readiness that the kept properties ask: packages tap, pattern and wafer do something. -/
import Derived.Test.YtoipgliokelcfaaGreatDoorWfD
import Derived.Laws.StructEq
namespace Go.Proofs.YtoipgliokelcfaaGreatDoor
open Go.RowKit

def oneR : List (List UInt8) := [[49, 120]]
theorem oneR_right : RowsRight oneR := by
  refine ⟨⟨by decide, by decide, ?_⟩, by decide, by decide, ?_⟩
  · intro j hj
    have : j < 1 := hj
    obtain rfl : j = 0 := by omega
    rfl
  · intro j hj
    have : j < 1 := hj
    obtain rfl : j = 0 := by omega
    decide +kernel
theorem oneP_right : PassRight ⟨#[49]⟩ := by
  intro i h
  have h1 : i < 1 := h
  obtain rfl : i = 0 := by omega
  refine ⟨(show inS binsS 49 = true by decide +kernel), fun k hk => by omega⟩
theorem one_cnt1 : cntTo (fun p => tstB (dieN oneR p.1 p.2)) (tstL oneR) (tstL oneR).length = 2 := by decide +kernel
theorem one_cnt2 : cntTo (fun p => inS ⟨#[49]⟩ (dieN oneR p.1 p.2)) (tstL oneR) (tstL oneR).length = 1 := by decide +kernel
theorem one_yield : yldW oneR ⟨#[49]⟩ = .tuple #[.agg #[.int .i64 1, .int .i64 2], .bool true] := by
  unfold yldW
  rw [one_cnt1, one_cnt2]
  rfl
theorem three_len : (turnL (genS 2 3 3) 3).length = 3 := by decide +kernel
set_option maxHeartbeats 800000 in
set_option maxRecDepth 100000 in
theorem ready1_any (w : World) (hT : Tab w) : Calls Tryz.prog 13 #[] w fun e w' => e = .returned (.bool true) ∧ Below w.heap.size w w' := by
  have h1 := path_ok 4 1 w (by decide) (by decide) hT
  rw [path_110] at h1
  have h2 : ∀ W, Calls Tryz.prog 15 #[.int .i64 3] W _ := fun W => counting_ok 3 (by decide) (by decide) W
  have h3 := fun W v h => wfYield_right oneR oneR_right ⟨#[49]⟩ oneP_right (by decide) W v h
  clear hT
  go_enter Tryz.func13, Tryz.ntmps13
  go_wp2_with fail
  refine h1.mono ?_
  rintro e w1 ⟨rfl, hB1⟩
  have HB1 := Lib.hid hB1
  clear hB1 h1
  have h2' := h2 w1
  clear h2
  go_wp2_with fail
  refine h2'.mono ?_
  rintro e w2 ⟨k, v, hk, hle, rfl, hv, hB2⟩
  obtain rfl : k = 3 := hle.unique ⟨by decide +kernel, by decide +kernel⟩
  obtain ⟨va, vc, rfl⟩ : ∃ a c, v = .slice a 3 c := by
    obtain ⟨-, ⟨rfl, h0⟩ | ⟨g, cap, cur, rfl, -⟩⟩ := hv
    · rw [three_len] at h0; cases h0
    · rw [three_len]; exact ⟨_, _, rfl⟩
  have HB2 := Lib.hid (HB1.out.trans (hB2.mono HB1.out.size))
  clear hv hle hB2 h2' hk
  have hrow : RowsIn (w2.alloc (.cells #[.string ⟨#[49, 120]⟩] 9)) (.slice (some ⟨w2.heap.size, 0, none⟩) 1 1) oneR := by
    refine ⟨_, _, rfl, Nat.le_refl _, fun _ => ⟨_, 0, rfl, by simp, fun j hj => ?_⟩⟩
    have : j < 1 := hj
    obtain rfl : j = 0 := by omega
    simp
    rfl
  have hy := h3 _ _ hrow
  have hBa : Below w2.heap.size w2 (w2.alloc (.cells #[.string ⟨#[49, 120]⟩] 9)) := (Below.refl _ _).alloc (Nat.le_refl _) _
  have HA := Lib.hid (HB2.out.trans (hBa.mono HB2.out.size))
  clear hrow h3 hBa
  go_wp2_with fail
  refine hy.mono ?_
  rintro e w3 ⟨⟨x, y, q, hyw, rfl⟩, hB3⟩
  rw [one_yield] at hyw
  injection hyw with hyw
  have e1 := congrArg Array.toList hyw
  simp only [List.cons.injEq, Value.agg.injEq, Value.bool.injEq, and_true] at e1
  obtain ⟨e1, rfl⟩ := e1
  have e2 := congrArg Array.toList e1
  simp only [List.cons.injEq, Value.int.injEq, and_true, true_and] at e2
  obtain ⟨rfl, rfl⟩ := e2
  have HB3 := Lib.hid (HA.out.trans (hB3.mono HA.out.size))
  clear hy hB3 hyw e1
  go_wp2_with fail
  go_ret
  exact ⟨rfl, HB3.out.alloc HB3.out.size _⟩
end Go.Proofs.YtoipgliokelcfaaGreatDoor
