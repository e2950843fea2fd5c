/- What the condition on the variables of the card of GeneratedMeet gives the walks: the states' table, utf8's two tables. -/
import Derived.Test.YtoipgliokelcfaaGreatDoorRows
import Derived.Test.YtoipgliokelcfaaGreatDoorGmB
import Derived.ProofKit
import Derived.LaidMore
import Derived.OpenShut
import Derived.Lay
import Derived.Lib.LaidU8
import Derived.Lib.LaidTab
import Derived.Stop.Joined
namespace Go.Proofs.YtoipgliokelcfaaGreatDoor
open Go.ChangeShapes Go.WideShapes Go.ChangeAt Go.RowKit

theorem Tryz.own : ownKnob Tryz.prog.godebug = none := by kernel_rfl
theorem Tryz.laidOut : laidOutB Tryz.prog = true := by kernel_rfl
theorem Tryz.bytesInt : Tryz.prog.bytesOf 3 = 8 := by kernel_rfl
theorem Tryz.cInt : Tryz.prog.cellsOf 3 = 1 := by kernel_rfl

/-- The name of the table, as the row lists it. -/
def nextName : String := (Rows.generatedMeetRow.laid.map (·.1)).getD 4 Rows.generatedMeetRow.spec
theorem Tryz.gNext : Tryz.prog.globalNamed nextName = some 0 := by kernel_rfl
theorem Tryz.tNext : (Tryz.prog.globals[0]?).map (·.type) = some 59 := by kernel_rfl
theorem Tryz.cPair : Tryz.prog.cellsOf 58 = 2 := by kernel_rfl
theorem laid_next : (Rows.laid_scanchain_tap_nextStates : DataW Unit) = .agg ((List.range 16).map fun i => Lib.tabData .i64 [((nxL.getD (i * 2) 0 : Nat) : Int), ((nxL.getD (i * 2 + 1) 0 : Nat) : Int)]) := by kernel_rfl

theorem tab_of_reads {W : World} (h : Lib.VarReads Tryz.prog W nextName Rows.laid_scanchain_tap_nextStates) : Tab W := by
  obtain ⟨g, t, cs, fuel, p, hg, ht, hv, hd⟩ := h
  obtain rfl := Option.some.inj (Tryz.gNext.symm.trans hg)
  obtain rfl := Option.some.inj (Tryz.tNext.symm.trans ht)
  rw [laid_next] at hd
  obtain ⟨xs, m, _, ex, _, hl, hel⟩ := DataW.trod_array Tryz.underlying59 hd
  have e3 : xs.map (·.1) = (List.range 16).map fun i => (Lib.tabData .i64 [((nxL.getD (i * 2) 0 : Nat) : Int), ((nxL.getD (i * 2 + 1) 0 : Nat) : Int)] : DataW Unit) := (DataW.agg.inj (Prod.mk.inj ex).1).symm
  intro k hk
  rw [World.var?_cell hg hv k]
  have hi : k / 2 < 16 := by omega
  have h1 := hel (k / 2) hi
  rw [Tryz.cPair, List.getElem?_eq_getElem (by omega)] at h1
  have e4 : (xs[k / 2]'(by omega)).1 = Lib.tabData .i64 [((nxL.getD (k / 2 * 2) 0 : Nat) : Int), ((nxL.getD (k / 2 * 2 + 1) 0 : Nat) : Int)] := by
    have := congrArg (fun l => l[k / 2]?) e3
    simp only [List.getElem?_map, List.getElem?_range hi, Option.map_some] at this
    rw [List.getElem?_eq_getElem (by omega : k / 2 < xs.length)] at this
    simpa using this
  have h2 := Lib.cells_of_tab (p := (xs[k / 2]'(by omega)).2) (zs := [((nxL.getD (k / 2 * 2) 0 : Nat) : Int), ((nxL.getD (k / 2 * 2 + 1) 0 : Nat) : Int)]) Tryz.underlying58 Tryz.underlying3 Tryz.cInt Tryz.cPair (by rw [h1, ← e4])
  have h3 : cs.toList[k]? = ((cs.toList.drop (k / 2 * 2)).take 2)[k % 2]? := by
    rw [List.getElem?_take_of_lt (by omega), List.getElem?_drop]
    congr 1
    omega
  rw [h2] at h3
  have h4 : cs[k]? = cs.toList[k]? := by simp
  rw [h4, h3]
  have : k % 2 = 0 ∨ k % 2 = 1 := by omega
  rcases this with e | e
  · rw [e, show k / 2 * 2 = k from by omega]; rfl
  · rw [e, show k / 2 * 2 + 1 = k from by omega]; rfl

theorem Tryz.u8Extra : U8Extra Tryz.prog Tryz.lays260_ren := { n3 := by kernel_rfl, y3 := by kernel_rfl, n4 := by kernel_rfl, y4 := by kernel_rfl, c5 := by kernel_rfl, c119 := by kernel_rfl, c138 := by kernel_rfl }
theorem laid_first : Rows.laid_unicode_utf8_first = Lib.firstData := by kernel_rfl
theorem laid_accept : (Rows.laid_unicode_utf8_acceptRanges : DataW Unit) = Lib.acceptData := by kernel_rfl
theorem u8_of_reads {W : World} {n3 n4 : String} (e3 : n3 = "unicode/utf8.first") (e4 : n4 = "unicode/utf8.acceptRanges") (h3 : Lib.VarReads Tryz.prog W n3 Rows.laid_unicode_utf8_first) (h4 : Lib.VarReads Tryz.prog W n4 Rows.laid_unicode_utf8_acceptRanges) : U8T W := by
  subst e3
  subst e4
  rw [laid_first] at h3
  rw [laid_accept] at h4
  exact utf8Tabs_of_reads Tryz.lays260 Tryz.u8Extra h3 h4
end Go.Proofs.YtoipgliokelcfaaGreatDoor
