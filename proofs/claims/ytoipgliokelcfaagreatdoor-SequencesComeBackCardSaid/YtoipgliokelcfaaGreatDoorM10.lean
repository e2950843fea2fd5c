/- The readiness that the kept properties ask: packages tap, pattern and wafer do something. -/
import Derived.Test.YtoipgliokelcfaaGreatDoorWfD
import Derived.Laws.StructEq
import Derived.Test.YtoipgliokelcfaaGreatDoorSqA
import Derived.Test.YtoipgliokelcfaaGreatDoorRows
import Derived.ProofKit
import Derived.LaidMore
import Derived.OpenShut
import Derived.Lay
import Derived.Lib.LaidU8
import Derived.Lib.LaidTab
import Derived.Stop.Joined
namespace Go.Proofs.YtoipgliokelcfaaGreatDoor
open Go.RowKit

def oneR : List (List UInt8) := [[49, 120]]
theorem oneR_right : RowsRight oneR := by
  refine ⟨⟨by decide, by decide, ?_⟩, by decide, by decide, ?_⟩
  · intro j hj
    have : j < 1 := hj
    obtain rfl : j = 0 := by omega
    rfl
  · intro j hj
    have : j < 1 := hj
    obtain rfl : j = 0 := by omega
    decide +kernel
theorem oneP_right : PassRight ⟨#[49]⟩ := by
  intro i h
  have h1 : i < 1 := h
  obtain rfl : i = 0 := by omega
  refine ⟨(show inS binsS 49 = true by decide +kernel), fun k hk => by omega⟩
theorem one_cnt1 : cntTo (fun p => tstB (dieN oneR p.1 p.2)) (tstL oneR) (tstL oneR).length = 2 := by decide +kernel
theorem one_cnt2 : cntTo (fun p => inS ⟨#[49]⟩ (dieN oneR p.1 p.2)) (tstL oneR) (tstL oneR).length = 1 := by decide +kernel
theorem one_yield : yldW oneR ⟨#[49]⟩ = .tuple #[.agg #[.int .i64 1, .int .i64 2], .bool true] := by
  unfold yldW
  rw [one_cnt1, one_cnt2]
  rfl
theorem three_len : (turnL (genS 2 3 3) 3).length = 3 := by decide +kernel
set_option maxHeartbeats 800000 in
set_option maxRecDepth 100000 in
theorem ready1_any (w : World) (hT : Tab w) : Calls Tryz.prog 13 #[] w fun e w' => e = .returned (.bool true) ∧ Below w.heap.size w w' := by
  have h1 := path_ok 4 1 w (by decide) (by decide) hT
  rw [path_110] at h1
  have h2 : ∀ W, Calls Tryz.prog 15 #[.int .i64 3] W _ := fun W => counting_ok 3 (by decide) (by decide) W
  have h3 := fun W v h => wfYield_right oneR oneR_right ⟨#[49]⟩ oneP_right (by decide) W v h
  clear hT
  go_enter Tryz.func13, Tryz.ntmps13
  go_wp2_with fail
  refine h1.mono ?_
  rintro e w1 ⟨rfl, hB1⟩
  have HB1 := Lib.hid hB1
  clear hB1 h1
  have h2' := h2 w1
  clear h2
  go_wp2_with fail
  refine h2'.mono ?_
  rintro e w2 ⟨k, v, hk, hle, rfl, hv, hB2⟩
  obtain rfl : k = 3 := hle.unique ⟨by decide +kernel, by decide +kernel⟩
  obtain ⟨va, vc, rfl⟩ : ∃ a c, v = .slice a 3 c := by
    obtain ⟨-, ⟨rfl, h0⟩ | ⟨g, cap, cur, rfl, -⟩⟩ := hv
    · rw [three_len] at h0; cases h0
    · rw [three_len]; exact ⟨_, _, rfl⟩
  have HB2 := Lib.hid (HB1.out.trans (hB2.mono HB1.out.size))
  clear hv hle hB2 h2' hk
  have hrow : RowsIn (w2.alloc (.cells #[.string ⟨#[49, 120]⟩] 9)) (.slice (some ⟨w2.heap.size, 0, none⟩) 1 1) oneR := by
    refine ⟨_, _, rfl, Nat.le_refl _, fun _ => ⟨_, 0, rfl, by simp, fun j hj => ?_⟩⟩
    have : j < 1 := hj
    obtain rfl : j = 0 := by omega
    simp
    rfl
  have hy := h3 _ _ hrow
  have hBa : Below w2.heap.size w2 (w2.alloc (.cells #[.string ⟨#[49, 120]⟩] 9)) := (Below.refl _ _).alloc (Nat.le_refl _) _
  have HA := Lib.hid (HB2.out.trans (hBa.mono HB2.out.size))
  clear hrow h3 hBa
  go_wp2_with fail
  refine hy.mono ?_
  rintro e w3 ⟨⟨x, y, q, hyw, rfl⟩, hB3⟩
  rw [one_yield] at hyw
  injection hyw with hyw
  have e1 := congrArg Array.toList hyw
  simp only [List.cons.injEq, Value.agg.injEq, Value.bool.injEq, and_true] at e1
  obtain ⟨e1, rfl⟩ := e1
  have e2 := congrArg Array.toList e1
  simp only [List.cons.injEq, Value.int.injEq, and_true, true_and] at e2
  obtain ⟨rfl, rfl⟩ := e2
  have HB3 := Lib.hid (HA.out.trans (hB3.mono HA.out.size))
  clear hy hB3 hyw e1
  go_wp2_with fail
  go_ret
  exact ⟨rfl, HB3.out.alloc HB3.out.size _⟩
end Go.Proofs.YtoipgliokelcfaaGreatDoor
/- The walk of SequencesComeBack: it returns true, and turns nothing that was there. -/
namespace Go.Proofs.YtoipgliokelcfaaGreatDoor
open Go.RowKit

set_option maxHeartbeats 1600000 in
set_option maxRecDepth 100000 in
theorem sqlaw_any (a0 : Option Addr) (len cap : Nat) (w : World) (h : RowIn w a0 len) (hT : Tab w) :
    Calls Tryz.prog 5 #[.slice a0 len cap] w fun e w' => e = .returned (.bool true) ∧ Below w.heap.size w w' := by
  have hs := Strm.start (cap := cap) h
  have hTl := hT.lt
  obtain ⟨W0, hW0⟩ : ∃ W0 : World, w.alloc (.cells #[.slice a0 len cap, .int .i64 0] 25) = W0 := ⟨_, rfl⟩
  rw [hW0] at hs
  have hB0 : Below w.heap.size w W0 := by rw [← hW0]; exact (Below.refl _ w).alloc (Nat.le_refl _) _
  have hsz0 : W0.heap.size = w.heap.size + 1 := by rw [← hW0]; simp
  have hgt : w.heap.size ≤ W0.heap.size := by omega
  have h1 : Calls Tryz.prog 20 #[.pointer (some ⟨w.heap.size, 0, none⟩), .int .i64 6] W0 _ := rightPatR_any w.heap.size 0 6 W0 hs (by omega) (by decide)
  have HT := Lib.hid (fun X (hX : Below w.heap.size w X) => ready1_any X (hT.below hX hTl))
  have HB0 := Lib.hid hB0
  clear h hB0 hs hT hTl hsz0
  go_enter Tryz.func5, Tryz.ntmps5
  go_wp2_with fail
  have HW0 := Lib.hid hW0
  clear hW0
  refine h1.mono ?_
  rintro e w1 ⟨z, v, rfl, V, hV, hz11, -, hr1, hE⟩
  obtain ⟨n, rfl, n1, n100, hz, hb⟩ := vecErr_none hE
  have hB := HB0.out.trans (hr1.below (by omega))
  have q1 := sequences_ok V n n1 n100 hz (fun s hs => (hb s hs).1) hE _ w1 _ hV
  have f1 := (cols_right V n hb).1
  have f2 := seq_right V n n1 n100 hz hb
  have f3 := turn_twice V V.length n (rowsB_of hb)
  have f4 := lines_right V n n1 n100 hz hb
  have f5 := read_back V n n1 n100 hz hb
  obtain ⟨a1, c1, rfl, -⟩ := strs_open hV
  have HV := Lib.hid hV
  have HB := Lib.hid hB
  have HF := Lib.hid (⟨f1, f2, f3, f4, f5⟩ : _ ∧ _ ∧ _ ∧ _ ∧ _)
  clear h1 hr1 hE hb hV hB f1 f2 f3 f4 f5
  go_wp2_with fail
  refine q1.mono ?_
  rintro e w2 ⟨v2, rfl, hQ, hy⟩
  have hB := HB.out.trans (hy.mono HB.out.size)
  have q2 := fromSequences_ok (turnL V n) HF.out.2.1.1 _ w2 _ hQ
  rw [HF.out.2.1.2, HF.out.2.2.1] at q2
  obtain ⟨a2, c2, rfl, -⟩ := strs_open hQ
  rw [HF.out.1] at q2 ⊢
  have hv2 := row_later HV.out hy
  have HV2 := Lib.hid hv2
  have HB2 := Lib.hid hB
  clear q1 hQ hy hB hv2
  go_wp2_with fail
  refine q2.mono ?_
  rintro e w3 ⟨v3, rfl, hX, hy⟩
  have hB := HB2.out.trans (hy.mono HB2.out.size)
  have hv3 := row_later HV2.out hy
  have q3 := seqEqual_any V V ⟨by omega, by omega⟩ _ _ _ _ w3 hX hv3
  rw [decide_eq_true rfl] at q3
  obtain ⟨a3, c3, rfl, -⟩ := strs_open hX
  have HV3 := Lib.hid hv3
  have HB3 := Lib.hid hB
  clear q2 hX hy hB hv3
  go_wp2_with fail
  refine q3.mono ?_
  rintro e w4 ⟨rfl, hy⟩
  have hB := HB3.out.trans (hy.mono HB3.out.size)
  have hv4 := row_later HV3.out hy
  have q4 := pText_ok V HF.out.2.2.2.1 _ w4 _ hv4
  have q5 := fun X => pRead_any (textL V) (by have := HF.out.2.2.2.2.1; omega) X
  rw [HF.out.2.2.2.2.2] at q5
  dsimp only at q5
  obtain ⟨tx, htx⟩ : ∃ t : ByteArray, t = ⟨(textL V).toArray⟩ := ⟨_, rfl⟩
  rw [← htx] at q4 q5
  have HV4 := Lib.hid hv4
  have HB4 := Lib.hid hB
  clear q3 hy hB hv4 htx
  go_wp2_with fail
  refine q4.mono ?_
  rintro e w5 ⟨rfl, hy⟩
  have hB := HB4.out.trans (hy.mono HB4.out.size)
  have q5' := q5 w5
  have hv5 := row_later HV4.out hy
  have HV5 := Lib.hid hv5
  have HB5 := Lib.hid hB
  clear q4 q5 hy hB hv5
  go_wp2_with fail
  refine q5'.mono ?_
  rintro e w6 ⟨v6, rfl, hX, hy⟩
  have hB := HB5.out.trans (hy.mono HB5.out.size)
  have hv6 := row_later HV5.out hy
  have q6 := seqEqual_any V V ⟨by omega, by omega⟩ _ _ _ _ w6 hX hv6
  rw [decide_eq_true rfl] at q6
  obtain ⟨a6, c6, rfl, -⟩ := strs_open hX
  have HB6 := Lib.hid hB
  clear q5' hX hy hB hv6
  go_wp2_with fail
  refine q6.mono ?_
  rintro e w7 ⟨rfl, hy⟩
  have HB7 := Lib.hid (HB6.out.trans (hy.mono HB6.out.size))
  have hrd := HT.out w7 HB7.out
  clear q6 hy
  go_wp2_with fail
  refine hrd.mono ?_
  rintro e w8 ⟨rfl, hy⟩
  have HZ := Lib.hid (HB7.out.trans (hy.mono HB7.out.size))
  clear hrd hy
  go_wp2_with fail
  go_ret
  exact ⟨rfl, HZ.out⟩
end Go.Proofs.YtoipgliokelcfaaGreatDoor
/- What the condition on the variables of the card of SequencesComeBack gives the walks: the states' table. -/
namespace Go.Proofs.YtoipgliokelcfaaGreatDoor
open Go.ChangeShapes Go.WideShapes Go.ChangeAt Go.RowKit

theorem Tryz.own : ownKnob Tryz.prog.godebug = none := by kernel_rfl
theorem Tryz.laidOut : laidOutB Tryz.prog = true := by kernel_rfl
theorem Tryz.bytesInt : Tryz.prog.bytesOf 3 = 8 := by kernel_rfl
theorem Tryz.cInt : Tryz.prog.cellsOf 3 = 1 := by kernel_rfl

/-- The name of the table, as the row lists it. -/
def nextName : String := (Rows.sequencesComeBackRow.laid.map (·.1)).getD 4 Rows.sequencesComeBackRow.spec
theorem Tryz.gNext : Tryz.prog.globalNamed nextName = some 0 := by kernel_rfl
theorem Tryz.tNext : (Tryz.prog.globals[0]?).map (·.type) = some 59 := by kernel_rfl
theorem Tryz.cPair : Tryz.prog.cellsOf 58 = 2 := by kernel_rfl
theorem laid_next : (Rows.laid_scanchain_tap_nextStates : DataW Unit) = .agg ((List.range 16).map fun i => Lib.tabData .i64 [((nxL.getD (i * 2) 0 : Nat) : Int), ((nxL.getD (i * 2 + 1) 0 : Nat) : Int)]) := by kernel_rfl

theorem tab_of_reads {W : World} (h : Lib.VarReads Tryz.prog W nextName Rows.laid_scanchain_tap_nextStates) : Tab W := by
  obtain ⟨g, t, cs, fuel, p, hg, ht, hv, hd⟩ := h
  obtain rfl := Option.some.inj (Tryz.gNext.symm.trans hg)
  obtain rfl := Option.some.inj (Tryz.tNext.symm.trans ht)
  rw [laid_next] at hd
  obtain ⟨xs, m, _, ex, _, hl, hel⟩ := DataW.trod_array Tryz.underlying59 hd
  have e3 : xs.map (·.1) = (List.range 16).map fun i => (Lib.tabData .i64 [((nxL.getD (i * 2) 0 : Nat) : Int), ((nxL.getD (i * 2 + 1) 0 : Nat) : Int)] : DataW Unit) := (DataW.agg.inj (Prod.mk.inj ex).1).symm
  intro k hk
  rw [World.var?_cell hg hv k]
  have hi : k / 2 < 16 := by omega
  have h1 := hel (k / 2) hi
  rw [Tryz.cPair, List.getElem?_eq_getElem (by omega)] at h1
  have e4 : (xs[k / 2]'(by omega)).1 = Lib.tabData .i64 [((nxL.getD (k / 2 * 2) 0 : Nat) : Int), ((nxL.getD (k / 2 * 2 + 1) 0 : Nat) : Int)] := by
    have := congrArg (fun l => l[k / 2]?) e3
    simp only [List.getElem?_map, List.getElem?_range hi, Option.map_some] at this
    rw [List.getElem?_eq_getElem (by omega : k / 2 < xs.length)] at this
    simpa using this
  have h2 := Lib.cells_of_tab (p := (xs[k / 2]'(by omega)).2) (zs := [((nxL.getD (k / 2 * 2) 0 : Nat) : Int), ((nxL.getD (k / 2 * 2 + 1) 0 : Nat) : Int)]) Tryz.underlying58 Tryz.underlying3 Tryz.cInt Tryz.cPair (by rw [h1, ← e4])
  have h3 : cs.toList[k]? = ((cs.toList.drop (k / 2 * 2)).take 2)[k % 2]? := by
    rw [List.getElem?_take_of_lt (by omega), List.getElem?_drop]
    congr 1
    omega
  rw [h2] at h3
  have h4 : cs[k]? = cs.toList[k]? := by simp
  rw [h4, h3]
  have : k % 2 = 0 ∨ k % 2 = 1 := by omega
  rcases this with e | e
  · rw [e, show k / 2 * 2 = k from by omega]; rfl
  · rw [e, show k / 2 * 2 + 1 = k from by omega]; rfl

end Go.Proofs.YtoipgliokelcfaaGreatDoor
