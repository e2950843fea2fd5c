/- What the condition on the variables of the card of VectorsGenerated gives the walks: the table of trailing zeros, utf8's two tables. -/
import Derived.Test.YtlcknglnpcggaaaGreatDoorRows
import Derived.Test.YtlcknglnpcggaaaGreatDoorVgFmt
import Derived.Test.YtlcknglnpcggaaaGreatDoorVgInv
import Derived.ProofKit
import Derived.LaidMore
import Derived.OpenShut
import Derived.Lay
import Derived.Lib.LaidU8
import Derived.Lib.LaidTab
import Derived.Stop.Joined
namespace Go.Proofs.YtlcknglnpcggaaaGreatDoor
open Go.ChangeShapes Go.WideShapes Go.ChangeAt Go.RowKit

theorem Tryz.own : ownKnob Tryz.prog.godebug = none := by kernel_rfl
theorem Tryz.laidOut : laidOutB Tryz.prog = true := by kernel_rfl
theorem Tryz.bytesInt : Tryz.prog.bytesOf 3 = 8 := by kernel_rfl
theorem Tryz.cInt : Tryz.prog.cellsOf 3 = 1 := by kernel_rfl

/-- The table of trailing zeros, as the row lists it. -/
def tzName : String := (Rows.vectorsGeneratedRow.laid.map (·.1)).getD 1 Rows.vectorsGeneratedRow.spec
def tzL : List Int := [0, 1, 56, 2, 57, 49, 28, 3, 61, 58, 42, 50, 38, 29, 17, 4, 62, 47, 59, 36, 45, 43, 51, 22, 53, 39, 33, 30, 24, 18, 12, 5, 63, 55, 48, 27, 60, 41, 37, 16, 46, 35, 44, 21, 52, 32, 23, 11, 54, 26, 40, 15, 34, 20, 31, 10, 25, 14, 19, 9, 13, 8, 7, 6]
theorem Tryz.gTz : Tryz.prog.globalNamed tzName = some 5 := by kernel_rfl
theorem Tryz.tTz : (Tryz.prog.globals[5]?).map (·.type) = some 116 := by kernel_rfl
theorem Tryz.cU8 : Tryz.prog.cellsOf 5 = 1 := by kernel_rfl
theorem Tryz.c64 : Tryz.prog.cellsOf 116 = 64 := by kernel_rfl
theorem laid_tz : (Rows.laid_math_bits_deBruijn64tab : DataW Unit) = Lib.tabData .u8 tzL := by kernel_rfl
theorem tz_of_reads {W : World} (h : Lib.VarReads Tryz.prog W tzName Rows.laid_math_bits_deBruijn64tab) : Tz W := by
  obtain ⟨g, t, cs, fuel, p, hg, ht, hv, hd⟩ := h
  obtain rfl := Option.some.inj (Tryz.gTz.symm.trans hg)
  obtain rfl := Option.some.inj (Tryz.tTz.symm.trans ht)
  rw [laid_tz] at hd
  have h2 := Lib.cells_of_tab Tryz.underlying116 Tryz.underlying5 Tryz.cU8 Tryz.c64 hd
  unfold Tz
  rw [World.var?_cell hg hv 1]
  have h4 : cs[1]? = cs.toList[1]? := by simp
  rw [h4, h2]
  rfl

theorem Tryz.u8Extra : U8Extra Tryz.prog Tryz.lays260_ren := { n3 := by kernel_rfl, y3 := by kernel_rfl, n4 := by kernel_rfl, y4 := by kernel_rfl, c5 := by kernel_rfl, c119 := by kernel_rfl, c138 := by kernel_rfl }
theorem laid_first : Rows.laid_unicode_utf8_first = Lib.firstData := by kernel_rfl
theorem laid_accept : (Rows.laid_unicode_utf8_acceptRanges : DataW Unit) = Lib.acceptData := by kernel_rfl
theorem u8_of_reads {W : World} {n3 n4 : String} (e3 : n3 = "unicode/utf8.first") (e4 : n4 = "unicode/utf8.acceptRanges") (h3 : Lib.VarReads Tryz.prog W n3 Rows.laid_unicode_utf8_first) (h4 : Lib.VarReads Tryz.prog W n4 Rows.laid_unicode_utf8_acceptRanges) : U8T W := by
  subst e3
  subst e4
  rw [laid_first] at h3
  rw [laid_accept] at h4
  exact utf8Tabs_of_reads Tryz.lays260 Tryz.u8Extra h3 h4
end Go.Proofs.YtlcknglnpcggaaaGreatDoor
