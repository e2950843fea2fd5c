/- The walk of FewerDoNotMeet: it returns true, and turns nothing that was there. -/
import Derived.Test.YtoipgliokelcfaaGreatDoorM1
import Derived.Test.YtoipgliokelcfaaGreatDoorM4
import Derived.Test.YtoipgliokelcfaaGreatDoorM9
import Derived.Test.YtoipgliokelcfaaGreatDoorRows
import Derived.ProofKit
import Derived.LaidMore
import Derived.OpenShut
import Derived.Lay
import Derived.Lib.LaidU8
import Derived.Lib.LaidTab
import Derived.Stop.Joined
namespace Go.Proofs.YtoipgliokelcfaaGreatDoor
open Go.RowKit

set_option maxHeartbeats 1600000 in
set_option maxRecDepth 100000 in
theorem fdlaw_any (a0 : Option Addr) (len cap : Nat) (w : World) (h : RowIn w a0 len) (hT : Tab w) :
    Calls Tryz.prog 6 #[.slice a0 len cap] w fun e w' => e = .returned (.bool true) ∧ Below w.heap.size w w' := by
  have hs := Strm.start (cap := cap) h
  have hTl := hT.lt
  obtain ⟨W0, hW0⟩ : ∃ W0 : World, w.alloc (.cells #[.slice a0 len cap, .int .i64 0] 25) = W0 := ⟨_, rfl⟩
  rw [hW0] at hs
  have hB0 : Below w.heap.size w W0 := by rw [← hW0]; exact (Below.refl _ w).alloc (Nat.le_refl _) _
  have hsz0 : W0.heap.size = w.heap.size + 1 := by rw [← hW0]; simp
  have hgt : w.heap.size < W0.heap.size := by omega
  have h1 : Calls Tryz.prog 20 #[.pointer (some ⟨w.heap.size, 0, none⟩), .int .i64 5] W0 _ := rightPatR_any w.heap.size 0 5 W0 hs (by omega) (by decide)
  have HT := Lib.hid (fun X (hX : Below w.heap.size w X) => ready1_any X (hT.below hX hTl))
  have HB0 := Lib.hid hB0
  clear h hB0 hs hT hTl hsz0
  go_enter Tryz.func6, Tryz.ntmps6
  go_wp2_with fail
  have HW0 := Lib.hid hW0
  clear hW0
  refine h1.mono ?_
  rintro e w1 ⟨z0, v, rfl, V, hV, hz11, hz12, hr1, hE⟩
  obtain ⟨n, rfl, n1, n100, hz, hb⟩ := vecErr_none hE
  obtain ⟨t1, ht1, ht1', hs1⟩ := hr1.strm
  have h2 := range_any w.heap.size t1 1 3 w1 hs1 (by omega) (by decide) (by decide) (by decide)
  have HV := Lib.hid (⟨hV, hz11, hz12, hE, hb⟩ : _ ∧ _ ∧ _ ∧ _ ∧ _)
  obtain ⟨a1, c1, rfl, -⟩ := strs_open hV
  have HR1 := Lib.hid hr1
  have hsz1 : W0.heap.size ≤ w1.heap.size := hr1.1.size
  clear h1 hr1 hE hb hV hs1 hz11 hz12
  go_wp2_with fail
  refine h2.mono ?_
  rintro e w2 ⟨⟨z, z1, z2, rfl⟩, hr2⟩
  obtain ⟨z, rfl⟩ : ∃ q : Nat, z = (q : Int) := ⟨z.toNat, by omega⟩
  have hg : z = 1 ∨ z = 2 ∨ z = 3 := by omega
  have hB2 := HB0.out.trans ((HR1.out.then ht1 ht1' hr2).below (by omega))
  have hV2 := row_ran HV.out.1 hr2 hgt
  have q1 := minAny z n hg n1 n100 w2
  have HB2 := Lib.hid hB2
  have HV2 := Lib.hid hV2
  clear h2 hr2 hB2 hV2
  go_wp2_with fail
  refine q1.mono ?_
  rintro e w3 ⟨k, hk9, hle, rfl, hy⟩
  have hB := HB2.out.trans (hy.mono HB2.out.size)
  have hv := row_later HV2.out hy
  have q2 := meets_ok V n n1 n100 hz HV.out.2.2.2.2 HV.out.2.2.2.1 (z : Int) _ w3 _ hv
  have hE0 : meetsE (z : Int) = 0 := by unfold meetsE; rw [if_pos (by omega)]
  have hfew := few_plain V n z k n1 n100 HV.out.2.1 HV.out.2.2.1 HV.out.2.2.2.2 hg hle
  rw [hE0] at q2
  generalize meetsB (turnL V n) n (z : Int) = r at q2 hfew
  generalize V.length = m at q2 hfew ⊢
  have HB3 := Lib.hid hB
  clear q1 hle hy hB hv hE0 HV HV2
  go_wp2_with fail
  refine q2.mono ?_
  rintro e w4 ⟨rfl, hy⟩
  have HB4 := Lib.hid (HB3.out.trans (hy.mono HB3.out.size))
  have hrd := HT.out w4 HB4.out
  clear q2 hy
  cases r with
  | true =>
    have h6 := hfew rfl
    have hx : ¬ m < k := by omega
    clear hfew
    go_wp2_with fail
    refine hrd.mono ?_
    rintro e w5 ⟨rfl, hy⟩
    have HZ := Lib.hid (HB4.out.trans (hy.mono HB4.out.size))
    clear hrd hy
    go_wp2_with fail
    go_ret
    exact ⟨rfl, HZ.out⟩
  | false =>
    clear hfew
    go_wp2_with fail
    refine hrd.mono ?_
    rintro e w5 ⟨rfl, hy⟩
    have HZ := Lib.hid (HB4.out.trans (hy.mono HB4.out.size))
    clear hrd hy
    go_wp2_with fail
    go_ret
    exact ⟨rfl, HZ.out⟩
end Go.Proofs.YtoipgliokelcfaaGreatDoor
/- What the condition on the variables of the card of FewerDoNotMeet gives the walks: the states' table. -/
namespace Go.Proofs.YtoipgliokelcfaaGreatDoor
open Go.ChangeShapes Go.WideShapes Go.ChangeAt Go.RowKit

theorem Tryz.own : ownKnob Tryz.prog.godebug = none := by kernel_rfl
theorem Tryz.laidOut : laidOutB Tryz.prog = true := by kernel_rfl
theorem Tryz.bytesInt : Tryz.prog.bytesOf 3 = 8 := by kernel_rfl
theorem Tryz.cInt : Tryz.prog.cellsOf 3 = 1 := by kernel_rfl

/-- The name of the table, as the row lists it. -/
def nextName : String := (Rows.fewerDoNotMeetRow.laid.map (·.1)).getD 4 Rows.fewerDoNotMeetRow.spec
theorem Tryz.gNext : Tryz.prog.globalNamed nextName = some 0 := by kernel_rfl
theorem Tryz.tNext : (Tryz.prog.globals[0]?).map (·.type) = some 59 := by kernel_rfl
theorem Tryz.cPair : Tryz.prog.cellsOf 58 = 2 := by kernel_rfl
theorem laid_next : (Rows.laid_scanchain_tap_nextStates : DataW Unit) = .agg ((List.range 16).map fun i => Lib.tabData .i64 [((nxL.getD (i * 2) 0 : Nat) : Int), ((nxL.getD (i * 2 + 1) 0 : Nat) : Int)]) := by kernel_rfl

theorem tab_of_reads {W : World} (h : Lib.VarReads Tryz.prog W nextName Rows.laid_scanchain_tap_nextStates) : Tab W := by
  obtain ⟨g, t, cs, fuel, p, hg, ht, hv, hd⟩ := h
  obtain rfl := Option.some.inj (Tryz.gNext.symm.trans hg)
  obtain rfl := Option.some.inj (Tryz.tNext.symm.trans ht)
  rw [laid_next] at hd
  obtain ⟨xs, m, _, ex, _, hl, hel⟩ := DataW.trod_array Tryz.underlying59 hd
  have e3 : xs.map (·.1) = (List.range 16).map fun i => (Lib.tabData .i64 [((nxL.getD (i * 2) 0 : Nat) : Int), ((nxL.getD (i * 2 + 1) 0 : Nat) : Int)] : DataW Unit) := (DataW.agg.inj (Prod.mk.inj ex).1).symm
  intro k hk
  rw [World.var?_cell hg hv k]
  have hi : k / 2 < 16 := by omega
  have h1 := hel (k / 2) hi
  rw [Tryz.cPair, List.getElem?_eq_getElem (by omega)] at h1
  have e4 : (xs[k / 2]'(by omega)).1 = Lib.tabData .i64 [((nxL.getD (k / 2 * 2) 0 : Nat) : Int), ((nxL.getD (k / 2 * 2 + 1) 0 : Nat) : Int)] := by
    have := congrArg (fun l => l[k / 2]?) e3
    simp only [List.getElem?_map, List.getElem?_range hi, Option.map_some] at this
    rw [List.getElem?_eq_getElem (by omega : k / 2 < xs.length)] at this
    simpa using this
  have h2 := Lib.cells_of_tab (p := (xs[k / 2]'(by omega)).2) (zs := [((nxL.getD (k / 2 * 2) 0 : Nat) : Int), ((nxL.getD (k / 2 * 2 + 1) 0 : Nat) : Int)]) Tryz.underlying58 Tryz.underlying3 Tryz.cInt Tryz.cPair (by rw [h1, ← e4])
  have h3 : cs.toList[k]? = ((cs.toList.drop (k / 2 * 2)).take 2)[k % 2]? := by
    rw [List.getElem?_take_of_lt (by omega), List.getElem?_drop]
    congr 1
    omega
  rw [h2] at h3
  have h4 : cs[k]? = cs.toList[k]? := by simp
  rw [h4, h3]
  have : k % 2 = 0 ∨ k % 2 = 1 := by omega
  rcases this with e | e
  · rw [e, show k / 2 * 2 = k from by omega]; rfl
  · rw [e, show k / 2 * 2 + 1 = k from by omega]; rfl

end Go.Proofs.YtoipgliokelcfaaGreatDoor
