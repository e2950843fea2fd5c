/- The contracts of NearlyBits and Shifted. -/
import Derived.Test.YtkipkkaloiefpaaGreatDoorTms
import Derived.Test.YtkipkkaloiefpaaGreatDoorShelf
import Derived.Laws.IdiomStrings
import Derived.Test.YtkipkkaloiefpaaGreatDoorRows
import Derived.Test.YtkipkkaloiefpaaGreatDoorTap
import Derived.ProofKit
import Derived.LaidMore
import Derived.OpenShut
import Derived.Lay
import Derived.Lib.LaidU8
import Derived.Lib.LaidTab
import Derived.Stop.Joined
import Derived.Test.YtkipkkaloiefpaaGreatDoorInstrs
namespace Go.Proofs.YtkipkkaloiefpaaGreatDoor
open Go.RowKit

theorem nearlyBits_any (sb t n : Nat) (w : World) (hs : Strm w sb t) (ht : t + n ≤ 900000) :
    Calls Tryz.prog 40 #[.pointer (some ⟨sb, 0, none⟩), .int .i64 (n : Int)] w fun e w' => (∃ s : ByteArray, s.size ≤ n + 6 ∧ e = .returned (.string s)) ∧ Ran sb t (n + 4) w w' := by
  go_enter Tryz.func40, Tryz.ntmps40
  go_wp2_with fail
  refine (bits_any sb t n _ hs (by omega)).mono ?_
  rintro e w1 ⟨⟨s, hsz, _, rfl⟩, hr⟩
  obtain ⟨t1, ht1, ht1', hs1⟩ := hr.strm
  go_wp2_with fail
  refine (flip_any sb t1 _ _ hs1 (by omega) (by decide) (by decide)).mono ?_
  rintro e w2 ⟨⟨fl, rfl⟩, hr2⟩
  obtain ⟨t2, ht2, ht2', hs2⟩ := hr2.strm
  have hr12 := hr.then ht1 ht1' hr2
  clear hr hr2
  cases fl with
  | true =>
    go_wp2_with fail
    refine (changed_any sb t2 s ⟨#[50, 120]⟩ _ hs2 (by omega) (by omega) (by decide) (by decide)).mono ?_
    rintro e w3 ⟨⟨r, hrs, rfl⟩, hr3⟩
    go_wp2_with fail
    go_ret
    exact ⟨⟨r, by have : (⟨#[50, 120]⟩ : ByteArray).size = 2 := rfl; omega, rfl⟩, (hr12.then (by omega) (by omega) hr3).mono (by omega)⟩
  | false =>
    go_wp2_with fail
    go_ret
    exact ⟨⟨s, by omega, rfl⟩, hr12.mono (by omega)⟩

theorem Ran.then_below {sb t K : Nat} {w w1 w2 : World} (h : Ran sb t K w w1) (hb : Below w1.heap.size w1 w2) : Ran sb t K w w2 := by
  obtain ⟨hg, t', a, b, hs⟩ := h
  exact ⟨hg.trans ⟨hb.os, hb.tape, hb.output, hb.size, fun k hk _ => hb.block k hk⟩, t', a, b, hs.below hb hs.lt⟩

theorem repeat_any (s : ByteArray) (c : Nat) (w : World) (hc : c ≤ 1000000) (hs : s.size ≤ 1000) :
    Calls Tryz.prog 19 #[.string s, .int .i64 (c : Int)] w fun e w' => (∃ r : ByteArray, r.size = c * s.size ∧ e = .returned (.string r)) ∧ Below w.heap.size w w' := by
  have hm : s.size * c ≤ 1000 * 1000000 := Nat.mul_le_mul hs hc
  refine (Tryz.strings_Repeat s c w (by omega) (by omega)).mono ?_
  rintro e w' ⟨rfl, hB⟩
  refine ⟨⟨_, ?_, rfl⟩, hB⟩
  show (Lib.repeatL s.data.toList c).toArray.size = _
  rw [List.size_toArray, Lib.repeatL_length]
  simp

theorem sizes_at (j : Nat) (hj : j < 6) : ∃ z : Nat, ([32, 32, 32, 40, 31, 5] : List Int).getD j 0 = (z : Int) ∧ z ≤ 40 := by
  have : j = 0 ∨ j = 1 ∨ j = 2 ∨ j = 3 ∨ j = 4 ∨ j = 5 := by omega
  rcases this with rfl | rfl | rfl | rfl | rfl | rfl
  · exact ⟨32, rfl, by decide⟩
  · exact ⟨32, rfl, by decide⟩
  · exact ⟨32, rfl, by decide⟩
  · exact ⟨40, rfl, by decide⟩
  · exact ⟨31, rfl, by decide⟩
  · exact ⟨5, rfl, by decide⟩

end Go.Proofs.YtkipkkaloiefpaaGreatDoor
/- strconv.FormatInt of 0, 1, 2 in base 2. -/
namespace Go.Proofs.YtkipkkaloiefpaaGreatDoor
open Go.RowKit

/-- What the table of trailing zeros holds at the place of 2. -/
def Tz (w : World) : Prop := w.cell? ⟨4, 1, none⟩ = some (.int .u8 1)
theorem Tz.below {w w' : World} {B : Nat} (h : Tz w) (hb : Below B w w') (hB : 4 < B) : Tz w' := (hb.cell (p := ⟨_, 1, none⟩) hB).trans h
theorem Tz.lt {w : World} (h : Tz w) : 4 < w.heap.size := World.block_lt_of_cell? w ⟨_, 1, none⟩ h

theorem tz64_two (w : World) (h : Tz w) : Calls Tryz.prog 143 #[.int .u64 2] w fun e w' => e = .returned (.int .i64 1) ∧ w = w' := by
  unfold Tz at h
  have e1 : bits .and .u64 2 (IntKind.u64.wrap (-2)) = 2 := by kernel_rfl
  have e2 : IntKind.u64.wrap 571740426102707730 = 571740426102707730 := by kernel_rfl
  go_enter Tryz.func143, Tryz.ntmps143
  go_wp2_with fail
  go_ret
  exact ⟨rfl, rfl⟩
set_option maxRecDepth 10000 in
theorem tz_two (w : World) (h : Tz w) : Calls Tryz.prog 127 #[.int .u64 2] w fun e w' => e = .returned (.int .i64 1) ∧ w = w' := by
  go_enter Tryz.func127, Tryz.ntmps127
  go_wp2_with fail
  refine (tz64_two _ h).mono ?_
  rintro e w' ⟨rfl, rfl⟩
  go_wp2_with fail
  go_ret
  exact ⟨rfl, rfl⟩
theorem isPow2_two (w : World) : Calls Tryz.prog 126 #[.int .i64 2] w fun e w' => e = .returned (.bool true) ∧ w = w' := by
  have e1 : bits .and .i64 2 1 = 0 := by kernel_rfl
  go_enter Tryz.func126, Tryz.ntmps126
  go_wp2_with fail
  go_ret
  exact ⟨rfl, rfl⟩

theorem Tryz.zc : (List.range 65).all (fun j => match Tryz.zeroCells162[j]? with | some (.int .u8 0) => true | _ => false) = true := by kernel_rfl
theorem zc_at {j : Nat} (h : j < 65) : Tryz.zeroCells162[j]? = some (.int .u8 0) := by
  have h1 := List.all_eq_true.1 Tryz.zc j (List.mem_range.2 h)
  revert h1
  split
  · intro _; assumption
  · intro e; cases e

/-- The letters from place i on of the row of 65. -/
theorem conv_one {w : World} {ab : Nat} {c : UInt8} (h : w.cell? ⟨ab, 64, none⟩ = some (.int .u8 (c.toNat : Int))) (cap : Nat) : (convert 95 9 (.slice (some ⟨ab, 64, none⟩) 1 cap)).run Tryz.prog w = .ok (.string ⟨#[c]⟩) w :=
  run_convert_bytes_back (P := Tryz.prog) w 95 9 5 ⟨ab, 64, none⟩ cap [c] Tryz.underlying95 Tryz.underlying5 Tryz.underlying9 (fun j hj => by
    obtain rfl : j = 0 := by simpa using hj
    exact h)
theorem conv_two {w : World} {ab : Nat} {c d : UInt8} (h : w.cell? ⟨ab, 63, none⟩ = some (.int .u8 (c.toNat : Int))) (h2 : w.cell? ⟨ab, 64, none⟩ = some (.int .u8 (d.toNat : Int))) (cap : Nat) : (convert 95 9 (.slice (some ⟨ab, 63, none⟩) 2 cap)).run Tryz.prog w = .ok (.string ⟨#[c, d]⟩) w :=
  run_convert_bytes_back (P := Tryz.prog) w 95 9 5 ⟨ab, 63, none⟩ cap [c, d] Tryz.underlying95 Tryz.underlying5 Tryz.underlying9 (fun j hj => by
    have : j = 0 ∨ j = 1 := by simp at hj; omega
    rcases this with rfl | rfl
    · exact h
    · exact h2)

set_option maxRecDepth 100000 in
theorem formatBits_small (k : Nat) (hk : k < 2) (w : World) (h : Tz w) : Calls Tryz.prog 88 #[.slice none 0 0, .int .u64 (k : Int), .int .i64 2, .bool false, .bool false] w fun e w' => (∃ s : ByteArray, 1 ≤ s.size ∧ s.size ≤ 2 ∧ e = .returned (.tuple #[.slice none 0 0, .string s])) ∧ Below w.heap.size w w' := by
  have htz := (h.below ((Below.refl _ w).alloc (Nat.le_refl _) (.cells Tryz.zeroCells162 162)) h.lt)
  have c64 : (w.alloc (.cells Tryz.zeroCells162 162)).cell? ⟨w.heap.size, 64, none⟩ = some (.int .u8 0) := cell_fresh _ _ _ (zc_at (by decide))
  have f64 : (w.alloc (.cells Tryz.zeroCells162 162)).frozen? ⟨w.heap.size, 64, none⟩ = false := frozen_fresh _ _ _ _
  have hB : Below w.heap.size w (w.alloc (.cells Tryz.zeroCells162 162)) := (Below.refl _ w).alloc (Nat.le_refl _) _
  have e1 : IntKind.u64.wrap 2 = 2 := by kernel_rfl
  have e2 : IntKind.u64.wrap 1 = 1 := by kernel_rfl
  have hk2 : k = 0 ∨ k = 1 := by omega
  clear h
  generalize hW : w.alloc (.cells Tryz.zeroCells162 162) = W at htz c64 f64 hB
  rcases hk2 with rfl | rfl
  · go_enter Tryz.func88, Tryz.ntmps88
    go_wp2_with fail
    have HW := Lib.hid hW
    clear hW
    refine (isPow2_two _).mono ?_
    rintro e w' ⟨rfl, rfl⟩
    go_wp2_with fail
    refine (tz_two _ htz).mono ?_
    rintro e w' ⟨rfl, rfl⟩
    go_wp2_with fail
    go_loopw [1, 13] (fun u i wr => u = .int .u64 0 ∧ i = .int .i64 65 ∧ W = wr) (fun _ _ _ => 0)
    case atStart => exact ⟨rfl, rfl, rfl⟩
    case round =>
      obtain ⟨rfl, rfl, rfl⟩ := hrel
      have hcv := fun cap => conv_one (World.cell?_setCell_same W ⟨w.heap.size, 64, none⟩ (.int .u8 ((⟨#[48, 49, 50, 51, 52, 53, 54, 55, 56, 57, 97, 98, 99, 100, 101, 102, 103, 104, 105, 106, 107, 108, 109, 110, 111, 112, 113, 114, 115, 116, 117, 118, 119, 120, 121, 122]⟩ : ByteArray)[0].toNat : Int)) c64) cap
      go_wp2_with fail
      go_ret2
      exact ⟨⟨_, by decide, by decide, rfl⟩, hB.setCell (Nat.le_refl _) _⟩
  · go_enter Tryz.func88, Tryz.ntmps88
    go_wp2_with fail
    have HW := Lib.hid hW
    clear hW
    refine (isPow2_two _).mono ?_
    rintro e w' ⟨rfl, rfl⟩
    go_wp2_with fail
    refine (tz_two _ htz).mono ?_
    rintro e w' ⟨rfl, rfl⟩
    go_wp2_with fail
    go_loopw [1, 13] (fun u i wr => u = .int .u64 1 ∧ i = .int .i64 65 ∧ W = wr) (fun _ _ _ => 0)
    case atStart => exact ⟨rfl, rfl, rfl⟩
    case round =>
      obtain ⟨rfl, rfl, rfl⟩ := hrel
      have hcv := fun cap => conv_one (World.cell?_setCell_same W ⟨w.heap.size, 64, none⟩ (.int .u8 ((⟨#[48, 49, 50, 51, 52, 53, 54, 55, 56, 57, 97, 98, 99, 100, 101, 102, 103, 104, 105, 106, 107, 108, 109, 110, 111, 112, 113, 114, 115, 116, 117, 118, 119, 120, 121, 122]⟩ : ByteArray)[1].toNat : Int)) c64) cap
      go_wp2_with fail
      go_ret2
      exact ⟨⟨_, by decide, by decide, rfl⟩, hB.setCell (Nat.le_refl _) _⟩

set_option maxRecDepth 100000 in
theorem formatBits_2 (w : World) (h : Tz w) : Calls Tryz.prog 88 #[.slice none 0 0, .int .u64 2, .int .i64 2, .bool false, .bool false] w fun e w' => (∃ s : ByteArray, 1 ≤ s.size ∧ s.size ≤ 2 ∧ e = .returned (.tuple #[.slice none 0 0, .string s])) ∧ Below w.heap.size w w' := by
  have htz := (h.below ((Below.refl _ w).alloc (Nat.le_refl _) (.cells Tryz.zeroCells162 162)) h.lt)
  have c64 : (w.alloc (.cells Tryz.zeroCells162 162)).cell? ⟨w.heap.size, 64, none⟩ = some (.int .u8 0) := cell_fresh _ _ _ (zc_at (by decide))
  have f64 : (w.alloc (.cells Tryz.zeroCells162 162)).frozen? ⟨w.heap.size, 64, none⟩ = false := frozen_fresh _ _ _ _
  have c63 : (w.alloc (.cells Tryz.zeroCells162 162)).cell? ⟨w.heap.size, 63, none⟩ = some (.int .u8 0) := cell_fresh _ _ _ (zc_at (by decide))
  have f63 : (w.alloc (.cells Tryz.zeroCells162 162)).frozen? ⟨w.heap.size, 63, none⟩ = false := frozen_fresh _ _ _ _
  have hB : Below w.heap.size w (w.alloc (.cells Tryz.zeroCells162 162)) := (Below.refl _ w).alloc (Nat.le_refl _) _
  have e1 : IntKind.u64.wrap 2 = 2 := by kernel_rfl
  have e2 : IntKind.u64.wrap 1 = 1 := by kernel_rfl
  have e3 : bits .and .u64 2 1 = 0 := by kernel_rfl
  clear h
  generalize hW : w.alloc (.cells Tryz.zeroCells162 162) = W at htz c64 f64 c63 f63 hB
  go_enter Tryz.func88, Tryz.ntmps88
  go_wp2_with fail
  have HW := Lib.hid hW
  clear hW
  refine (isPow2_two _).mono ?_
  rintro e w' ⟨rfl, rfl⟩
  go_wp2_with fail
  refine (tz_two _ htz).mono ?_
  rintro e w' ⟨rfl, rfl⟩
  go_wp2_with fail
  go_loopw [1, 13] (fun u i wr => (u = .int .u64 2 ∧ i = .int .i64 65 ∧ W = wr) ∨ (u = .int .u64 1 ∧ i = .int .i64 64 ∧ W.setCell ⟨w.heap.size, 64, none⟩ (.int .u8 ((⟨#[48, 49, 50, 51, 52, 53, 54, 55, 56, 57, 97, 98, 99, 100, 101, 102, 103, 104, 105, 106, 107, 108, 109, 110, 111, 112, 113, 114, 115, 116, 117, 118, 119, 120, 121, 122]⟩ : ByteArray)[0].toNat : Int)) = wr)) (fun u _ _ => (intOf u).toNat)
  case atStart => exact .inl ⟨rfl, rfl, rfl⟩
  case round =>
    rcases hrel with ⟨rfl, rfl, rfl⟩ | ⟨rfl, rfl, hw⟩
    · go_wp2_with fail
      go_roundw
      case rel => refine .inr ⟨rfl, rfl, ?_⟩; first | rfl | trivial
      case measure => decide
    · have g64 : wr.cell? ⟨w.heap.size, 64, none⟩ = some (.int .u8 ((⟨#[48, 49, 50, 51, 52, 53, 54, 55, 56, 57, 97, 98, 99, 100, 101, 102, 103, 104, 105, 106, 107, 108, 109, 110, 111, 112, 113, 114, 115, 116, 117, 118, 119, 120, 121, 122]⟩ : ByteArray)[0].toNat : Int)) := by rw [← hw]; exact World.cell?_setCell_same _ _ _ c64
      have g63 : wr.cell? ⟨w.heap.size, 63, none⟩ = some (.int .u8 0) := by rw [← hw, World.cell?_setCell_other _ _ _ _ (by simp)]; exact c63
      have k63 : wr.frozen? ⟨w.heap.size, 63, none⟩ = false := by rw [← hw, World.frozen?_setCell]; exact f63
      have hB2 : Below w.heap.size w wr := by rw [← hw]; exact hB.setCell (Nat.le_refl _) _
      clear hw c64 c63 f64 f63
      have hcv := fun cap => conv_two (World.cell?_setCell_same wr ⟨w.heap.size, 63, none⟩ (.int .u8 ((⟨#[48, 49, 50, 51, 52, 53, 54, 55, 56, 57, 97, 98, 99, 100, 101, 102, 103, 104, 105, 106, 107, 108, 109, 110, 111, 112, 113, 114, 115, 116, 117, 118, 119, 120, 121, 122]⟩ : ByteArray)[1].toNat : Int)) g63) ((World.cell?_setCell_other wr ⟨w.heap.size, 63, none⟩ ⟨w.heap.size, 64, none⟩ (.int .u8 ((⟨#[48, 49, 50, 51, 52, 53, 54, 55, 56, 57, 97, 98, 99, 100, 101, 102, 103, 104, 105, 106, 107, 108, 109, 110, 111, 112, 113, 114, 115, 116, 117, 118, 119, 120, 121, 122]⟩ : ByteArray)[1].toNat : Int)) (by simp)).trans g64) cap
      go_wp2_with fail
      go_ret2
      exact ⟨⟨_, by decide, by decide, rfl⟩, hB2.setCell (Nat.le_refl _) _⟩

theorem formatBits_any (k : Nat) (hk : k < 3) (w : World) (h : Tz w) : Calls Tryz.prog 88 #[.slice none 0 0, .int .u64 (k : Int), .int .i64 2, .bool false, .bool false] w fun e w' => (∃ s : ByteArray, 1 ≤ s.size ∧ s.size ≤ 2 ∧ e = .returned (.tuple #[.slice none 0 0, .string s])) ∧ Below w.heap.size w w' := by
  by_cases h2 : k < 2
  · exact formatBits_small k h2 w h
  · obtain rfl : k = 2 := by omega
    exact formatBits_2 w h

theorem wrap3 : ∀ k : Nat, k < 3 → IntKind.u64.wrap (k : Int) = (k : Int) := by decide
theorem iFormatInt_any (k : Nat) (hk : k < 3) (w : World) (h : Tz w) : Calls Tryz.prog 49 #[.int .i64 (k : Int), .int .i64 2] w fun e w' => (∃ s : ByteArray, 1 ≤ s.size ∧ s.size ≤ 2 ∧ e = .returned (.string s)) ∧ Below w.heap.size w w' := by
  have hcon := formatBits_any k hk w h
  have e1 : IntKind.u64.wrap (k : Int) = (k : Int) := wrap3 k hk
  have hk0 : ¬ (k : Int) < 0 := by omega
  go_enter Tryz.func49, Tryz.ntmps49
  go_wp2_with fail
  refine hcon.mono ?_
  rintro e w' ⟨⟨s, h1, h2, rfl⟩, hB⟩
  go_wp2_with fail
  go_ret
  exact ⟨⟨s, h1, h2, rfl⟩, hB⟩

theorem formatInt_any (k : Nat) (hk : k < 3) (w : World) (h : Tz w) : Calls Tryz.prog 18 #[.int .i64 (k : Int), .int .i64 2] w fun e w' => (∃ s : ByteArray, 1 ≤ s.size ∧ s.size ≤ 2 ∧ e = .returned (.string s)) ∧ Below w.heap.size w w' := by
  have hcon := iFormatInt_any k hk w h
  go_enter Tryz.func18, Tryz.ntmps18
  go_wp2_with fail
  refine hcon.mono ?_
  rintro e w' ⟨⟨s, h1, h2, rfl⟩, hB⟩
  go_wp2_with fail
  go_ret
  exact ⟨⟨s, h1, h2, rfl⟩, hB⟩
end Go.Proofs.YtkipkkaloiefpaaGreatDoor
/- What the condition on the variables of the card of ChainsClocked gives the walks: the table of the next states, the table of trailing zeros. -/
namespace Go.Proofs.YtkipkkaloiefpaaGreatDoor
open Go.ChangeShapes Go.WideShapes Go.ChangeAt Go.RowKit

theorem Tryz.own : ownKnob Tryz.prog.godebug = none := by kernel_rfl
theorem Tryz.laidOut : laidOutB Tryz.prog = true := by kernel_rfl
theorem Tryz.bytesInt : Tryz.prog.bytesOf 3 = 8 := by kernel_rfl

/-- The name of the table, as the row lists it. -/
def nextName : String := (Rows.chainsClockedRow.laid.map (·.1)).getD 4 Rows.chainsClockedRow.spec
theorem Tryz.gNext : Tryz.prog.globalNamed nextName = some 0 := by kernel_rfl
theorem Tryz.tNext : (Tryz.prog.globals[0]?).map (·.type) = some 125 := by kernel_rfl
theorem Tryz.cInt : Tryz.prog.cellsOf 3 = 1 := by kernel_rfl
theorem Tryz.cPair : Tryz.prog.cellsOf 124 = 2 := by kernel_rfl
theorem laid_next : (Rows.laid_scanchain_tap_nextStates : DataW Unit) = .agg ((List.range 16).map fun i => Lib.tabData .i64 [((nxL.getD (i * 2) 0 : Nat) : Int), ((nxL.getD (i * 2 + 1) 0 : Nat) : Int)]) := by kernel_rfl

theorem tab_of_reads {W : World} (h : Lib.VarReads Tryz.prog W nextName Rows.laid_scanchain_tap_nextStates) : Tab W := by
  obtain ⟨g, t, cs, fuel, p, hg, ht, hv, hd⟩ := h
  obtain rfl := Option.some.inj (Tryz.gNext.symm.trans hg)
  obtain rfl := Option.some.inj (Tryz.tNext.symm.trans ht)
  rw [laid_next] at hd
  obtain ⟨xs, m, _, ex, _, hl, hel⟩ := DataW.trod_array Tryz.underlying125 hd
  have e3 : xs.map (·.1) = (List.range 16).map fun i => (Lib.tabData .i64 [((nxL.getD (i * 2) 0 : Nat) : Int), ((nxL.getD (i * 2 + 1) 0 : Nat) : Int)] : DataW Unit) := (DataW.agg.inj (Prod.mk.inj ex).1).symm
  intro k hk
  rw [World.var?_cell hg hv k]
  have hi : k / 2 < 16 := by omega
  have h1 := hel (k / 2) hi
  rw [Tryz.cPair, List.getElem?_eq_getElem (by omega)] at h1
  have e4 : (xs[k / 2]'(by omega)).1 = Lib.tabData .i64 [((nxL.getD (k / 2 * 2) 0 : Nat) : Int), ((nxL.getD (k / 2 * 2 + 1) 0 : Nat) : Int)] := by
    have := congrArg (fun l => l[k / 2]?) e3
    simp only [List.getElem?_map, List.getElem?_range hi, Option.map_some] at this
    rw [List.getElem?_eq_getElem (by omega : k / 2 < xs.length)] at this
    simpa using this
  have h2 := Lib.cells_of_tab (p := (xs[k / 2]'(by omega)).2) (zs := [((nxL.getD (k / 2 * 2) 0 : Nat) : Int), ((nxL.getD (k / 2 * 2 + 1) 0 : Nat) : Int)]) Tryz.underlying124 Tryz.underlying3 Tryz.cInt Tryz.cPair (by rw [h1, ← e4])
  have h3 : cs.toList[k]? = ((cs.toList.drop (k / 2 * 2)).take 2)[k % 2]? := by
    rw [List.getElem?_take_of_lt (by omega), List.getElem?_drop]
    congr 1
    omega
  rw [h2] at h3
  have h4 : cs[k]? = cs.toList[k]? := by simp
  rw [h4, h3]
  have : k % 2 = 0 ∨ k % 2 = 1 := by omega
  rcases this with e | e
  · rw [e, show k / 2 * 2 = k from by omega]; rfl
  · rw [e, show k / 2 * 2 + 1 = k from by omega]; rfl

/-- The table of trailing zeros, as the row lists it. -/
def tzName : String := (Rows.chainsClockedRow.laid.map (·.1)).getD 1 Rows.chainsClockedRow.spec
def tzL : List Int := [0, 1, 56, 2, 57, 49, 28, 3, 61, 58, 42, 50, 38, 29, 17, 4, 62, 47, 59, 36, 45, 43, 51, 22, 53, 39, 33, 30, 24, 18, 12, 5, 63, 55, 48, 27, 60, 41, 37, 16, 46, 35, 44, 21, 52, 32, 23, 11, 54, 26, 40, 15, 34, 20, 31, 10, 25, 14, 19, 9, 13, 8, 7, 6]
theorem Tryz.gTz : Tryz.prog.globalNamed tzName = some 4 := by kernel_rfl
theorem Tryz.tTz : (Tryz.prog.globals[4]?).map (·.type) = some 180 := by kernel_rfl
theorem Tryz.cU8 : Tryz.prog.cellsOf 5 = 1 := by kernel_rfl
theorem Tryz.c64 : Tryz.prog.cellsOf 180 = 64 := by kernel_rfl
theorem laid_tz : (Rows.laid_math_bits_deBruijn64tab : DataW Unit) = Lib.tabData .u8 tzL := by kernel_rfl
theorem tz_of_reads {W : World} (h : Lib.VarReads Tryz.prog W tzName Rows.laid_math_bits_deBruijn64tab) : Tz W := by
  obtain ⟨g, t, cs, fuel, p, hg, ht, hv, hd⟩ := h
  obtain rfl := Option.some.inj (Tryz.gTz.symm.trans hg)
  obtain rfl := Option.some.inj (Tryz.tTz.symm.trans ht)
  rw [laid_tz] at hd
  have h2 := Lib.cells_of_tab Tryz.underlying180 Tryz.underlying5 Tryz.cU8 Tryz.c64 hd
  unfold Tz
  rw [World.var?_cell hg hv 1]
  have h4 : cs[1]? = cs.toList[1]? := by simp
  rw [h4, h2]
  rfl
end Go.Proofs.YtkipkkaloiefpaaGreatDoor
/- What is wrong with a device's registers and instructions: the reference's partsFault. -/
namespace Go.Proofs.YtkipkkaloiefpaaGreatDoor
open Go.RowKit Go.Maps

/-- What is wrong with the parts of a device. -/
def partsErr (d : Dev) : Int :=
  if 10 < d.regs.n ∨ 100 < d.ins.n then 2 else if firstErr (regErr d.regs) d.regs.n = 0 then firstErr (insErr d) d.ins.n else firstErr (regErr d.regs) d.regs.n

theorem partsErr_large {d : Dev} (h : 10 < d.regs.n ∨ 100 < d.ins.n) : partsErr d = 2 := by unfold partsErr; rw [if_pos h]
theorem partsErr_reg {d : Dev} (h1 : d.regs.n ≤ 10) (h2 : d.ins.n ≤ 100) {k : Nat} (h : firstErr (regErr d.regs) k = 0) (hk : k < d.regs.n) {e : Int} (he : regErr d.regs k = e) (h0 : e ≠ 0) : partsErr d = e := by
  unfold partsErr
  have h3 := firstErr_at h (by rw [he]; exact h0) _ hk
  rw [if_neg (by omega), h3, he, if_neg h0]
theorem partsErr_ins {d : Dev} (h1 : d.regs.n ≤ 10) (h2 : d.ins.n ≤ 100) (h : firstErr (regErr d.regs) d.regs.n = 0) {k : Nat} (hi : firstErr (insErr d) k = 0) (hk : k < d.ins.n) (h0 : insErr d k ≠ 0) : partsErr d = insErr d k := by
  unfold partsErr
  rw [if_neg (by omega), if_pos h, firstErr_at hi h0 _ hk]
theorem partsErr_none {d : Dev} (h1 : d.regs.n ≤ 10) (h2 : d.ins.n ≤ 100) (h : firstErr (regErr d.regs) d.regs.n = 0) (hi : firstErr (insErr d) d.ins.n = 0) : partsErr d = 0 := by
  unfold partsErr
  rw [if_neg (by omega), if_pos h, hi]

theorem regErr_is (r : Regs) (k : Nat) : regErr r k = if keyS (r.name k) = false then 5 else if ((((r.name k).toList == [98, 121, 112, 97, 115, 115]) || ((r.name k).toList == [105, 100, 99, 111, 100, 101])) || hasName r.name (r.name k) k) = true then 6 else if inB (r.long k) 1 1000 = false then 1 else 0 := by
  unfold regErr
  have e : (before r.name ownL k).contains (r.name k).data.toList = ((((r.name k).toList == [98, 121, 112, 97, 115, 115]) || ((r.name k).toList == [105, 100, 99, 111, 100, 101])) || hasName r.name (r.name k) k) := by
    rw [hasName_before, ByteArray.toList_eq]
    unfold ownL
    rw [List.contains_cons, List.contains_cons, List.contains_nil, Bool.or_false]
    show _ = ((((r.name k).data.toList == bypassS.data.toList) || ((r.name k).data.toList == idcodeS.data.toList)) || hasName r.name (r.name k) k)
    cases ((r.name k).data.toList == bypassS.data.toList) <;> cases ((r.name k).data.toList == idcodeS.data.toList) <;> cases hasName r.name (r.name k) k <;> rfl
  rw [e]

set_option maxRecDepth 100000 in
theorem partsFault_any (d : Dev) (p : Plc) (w : World) (h : DevOk w.heap.size w d p) :
    Calls Tryz.prog 27 #[devV d p] w fun e w' => e = .returned (.int .i64 (partsErr d)) ∧ Below w.heap.size w w' := by
  obtain ⟨ra, rc, ia, ic⟩ := p
  have hcR : d.regs.n ≤ rc := h.capR
  have hn := h.regs.n_le
  have hm := h.ins.n_le
  obtain ⟨W0, hW0⟩ : ∃ W0, W0 = w.alloc (.cells #[.string d.name, .int .i64 d.long, .int .i64 d.id, .slice ra d.regs.n rc, .slice ia d.ins.n ic] 48) := ⟨_, rfl⟩
  have hs0 : W0.heap.size = w.heap.size + 1 := by rw [hW0]; simp
  have hB0 : Below w.heap.size w W0 := by rw [hW0]; exact (Below.refl _ w).alloc (Nat.le_refl _) _
  have hcell : ∀ W, Below W0.heap.size W0 W → W.cell? ⟨w.heap.size, 0, none⟩ = some (.string d.name) ∧ W.cell? ⟨w.heap.size, 1, none⟩ = some (.int .i64 d.long) ∧ W.cell? ⟨w.heap.size, 2, none⟩ = some (.int .i64 d.id) ∧ W.cell? ⟨w.heap.size, 3, none⟩ = some (.slice ra d.regs.n rc) ∧ W.cell? ⟨w.heap.size, 4, none⟩ = some (.slice ia d.ins.n ic) := by
    intro W hB
    refine ⟨(hB.cell (by rw [hs0]; show w.heap.size < _; omega)).trans ?_, (hB.cell (by rw [hs0]; show w.heap.size < _; omega)).trans ?_, (hB.cell (by rw [hs0]; show w.heap.size < _; omega)).trans ?_, (hB.cell (by rw [hs0]; show w.heap.size < _; omega)).trans ?_, (hB.cell (by rw [hs0]; show w.heap.size < _; omega)).trans ?_⟩ <;>
    · rw [hW0]
      exact World.cell?_alloc_at _ _ _ _ rfl
  have hfr : ∀ W, Below W0.heap.size W0 W → Below w.heap.size w W := fun W hB => hB0.trans (hB.mono hB0.size)
  have hdev : ∀ W, Below W0.heap.size W0 W → DevOk W.heap.size W d ⟨ra, rc, ia, ic⟩ := fun W hB => (h.below (hfr W hB) (Nat.le_refl _)).up (hfr W hB).size
  obtain ⟨c0, c1, c2, c3, c4⟩ := hcell W0 (Below.refl _ _)
  clear h
  by_cases hl : 10 < d.regs.n ∨ 100 < d.ins.n
  · have hh := Lib.hid (partsErr_large hl)
    rcases hl with hl | hl
    · go_enter Tryz.func27, Tryz.ntmps27
      go_wp2_with fail
      go_ret
      exact ⟨ret_int hh.out.symm, (Below.refl _ w).alloc (Nat.le_refl _) _⟩
    · by_cases hl2 : 10 < d.regs.n
      · go_enter Tryz.func27, Tryz.ntmps27
        go_wp2_with fail
        go_ret
        exact ⟨ret_int hh.out.symm, (Below.refl _ w).alloc (Nat.le_refl _) _⟩
      · go_enter Tryz.func27, Tryz.ntmps27
        go_wp2_with fail
        go_ret
        exact ⟨ret_int hh.out.symm, (Below.refl _ w).alloc (Nat.le_refl _) _⟩
  · have hl1 : d.regs.n ≤ 10 := by omega
    have hl2 : d.ins.n ≤ 100 := by omega
    clear hl
    go_enter Tryz.func27, Tryz.ntmps27
    go_wp2_with fail
    rw [← hW0]
    clear hW0
    go_loopw [3, 4, 20] (fun _ _ i wr => ∃ k : Nat, k ≤ d.regs.n ∧ i = .int .i64 (k : Int) ∧ firstErr (regErr d.regs) k = 0 ∧ Below W0.heap.size W0 wr) (fun _ _ i _ => d.regs.n - (intOf i).toNat)
    case atStart => exact ⟨0, by omega, rfl, rfl, Below.refl _ _⟩
    case round =>
      obtain ⟨k, hk, rfl, hE, hB⟩ := hrel
      clear c0 c1 c2 c3 c4
      by_cases hlt : k < d.regs.n
      · obtain ⟨b, off, rfl, hbB, hcells⟩ := (hdev wr hB).regs.cells (by omega)
        obtain ⟨hc1, hc2, hsz⟩ := hcells k hlt
        clear hcells
        obtain ⟨Wr, hWr⟩ : ∃ Wr, Wr = wr.alloc (.cells #[.string (d.regs.name k), .int .i64 (d.regs.long k)] 50) := ⟨_, rfl⟩
        have hsr : Wr.heap.size = wr.heap.size + 1 := by rw [hWr]; simp
        have hBr : Below W0.heap.size W0 Wr := by rw [hWr]; exact hB.alloc hB.size _
        have hcr : ∀ W, Below Wr.heap.size Wr W → (W.cell? ⟨wr.heap.size, 0, none⟩ = some (.string (d.regs.name k)) ∧ W.cell? ⟨wr.heap.size, 1, none⟩ = some (.int .i64 (d.regs.long k))) ∧ W.cell? ⟨w.heap.size, 3, none⟩ = some (.slice (some ⟨b, off, none⟩) d.regs.n rc) ∧ Below W0.heap.size W0 W := by
          intro W hBW
          have hBW0 := hBr.trans (hBW.mono hBr.size)
          refine ⟨⟨(hBW.cell (by rw [hsr]; show wr.heap.size < _; omega)).trans ?_, (hBW.cell (by rw [hsr]; show wr.heap.size < _; omega)).trans ?_⟩, (hcell W hBW0).2.2.2.1, hBW0⟩ <;>
          · rw [hWr]
            exact World.cell?_alloc_at _ _ _ _ rfl
        have hkey := fun W => rKey_any (d.regs.name k) W hsz
        have hcon := fun W hBW => containsReg_any W (some ⟨b, off, none⟩) rc k d.regs hk (hdev W (hcr W hBW).2.2).regs wr.heap.size (d.regs.name k) (hcr W hBW).1.1
        have hin := fun W => rin_any (d.regs.long k) 1 1000 W
        have hans := Lib.hid (regErr_is d.regs k)
        have hend := fun (e : Int) (he : regErr d.regs k = e) (h0 : e ≠ 0) => partsErr_reg hl1 hl2 hE hlt he h0
        have hgo := fun (he : regErr d.regs k = 0) => firstErr_succ hE he
        clear hE hcell hdev hBr
        generalize keyS (d.regs.name k) = ky at hkey hans
        generalize hasName d.regs.name (d.regs.name k) k = twi at hcon hans
        generalize inB (d.regs.long k) 1 1000 = inn at hin hans
        generalize regErr d.regs k = ek at hans hend hgo
        cases ky with
        | false =>
          have hh := Lib.hid (hend 5 (by rw [hans.out]; rfl) (by decide))
          clear hans hend hgo
          go_wp2_with fail
          rw [← hWr]
          clear hWr hc1 hc2
          refine (hkey _).mono ?_
          rintro e w1 ⟨rfl, hB1⟩
          obtain ⟨⟨c1, c2⟩, c3, hB0w⟩ := hcr w1 hB1
          go_wp2_with fail
          go_ret
          exact ⟨ret_int hh.out.symm, hfr _ hB0w⟩
        | true =>
          cases hp1 : ((d.regs.name k).toList == [98, 121, 112, 97, 115, 115]) with
          | true =>
            rw [hp1] at hans
            have hh := Lib.hid (hend 6 (by rw [hans.out]; rfl) (by decide))
            clear hans hend hgo
            go_wp2_with fail
            rw [← hWr]
            clear hWr hc1 hc2
            refine (hkey _).mono ?_
            rintro e w1 ⟨rfl, hB1⟩
            obtain ⟨⟨c1, c2⟩, c3, hB0w⟩ := hcr w1 hB1
            go_wp2_with fail
            go_ret
            exact ⟨ret_int hh.out.symm, hfr _ hB0w⟩
          | false =>
            cases hp2 : ((d.regs.name k).toList == [105, 100, 99, 111, 100, 101]) with
            | true =>
              rw [hp1, hp2] at hans
              have hh := Lib.hid (hend 6 (by rw [hans.out]; rfl) (by decide))
              clear hans hend hgo
              go_wp2_with fail
              rw [← hWr]
              clear hWr hc1 hc2
              refine (hkey _).mono ?_
              rintro e w1 ⟨rfl, hB1⟩
              obtain ⟨⟨c1, c2⟩, c3, hB0w⟩ := hcr w1 hB1
              go_wp2_with fail
              go_ret
              exact ⟨ret_int hh.out.symm, hfr _ hB0w⟩
            | false =>
              rw [hp1, hp2] at hans
              cases twi with
              | true =>
                have hh := Lib.hid (hend 6 (by rw [hans.out]; rfl) (by decide))
                clear hans hend hgo
                go_wp2_with fail
                rw [← hWr]
                clear hWr hc1 hc2
                refine (hkey _).mono ?_
                rintro e w1 ⟨rfl, hB1⟩
                obtain ⟨⟨c1, c2⟩, c3, hB0w⟩ := hcr w1 hB1
                go_wp2_with fail
                refine (hcon _ hB1).mono ?_
                rintro e w2 ⟨rfl, hB2⟩
                have hB2 : Below Wr.heap.size Wr w2 := hB1.trans (hB2.mono hB1.size)
                clear c1 c2 c3 hB0w
                obtain ⟨⟨c1, c2⟩, c3, hB0w⟩ := hcr w2 hB2
                go_wp2_with fail
                go_ret
                exact ⟨ret_int hh.out.symm, hfr _ hB0w⟩
              | false =>
                cases inn with
                | false =>
                  have hh := Lib.hid (hend 1 (by rw [hans.out]; rfl) (by decide))
                  clear hans hend hgo
                  go_wp2_with fail
                  rw [← hWr]
                  clear hWr hc1 hc2
                  refine (hkey _).mono ?_
                  rintro e w1 ⟨rfl, hB1⟩
                  obtain ⟨⟨c1, c2⟩, c3, hB0w⟩ := hcr w1 hB1
                  go_wp2_with fail
                  refine (hcon _ hB1).mono ?_
                  rintro e w2 ⟨rfl, hB2⟩
                  have hB2 : Below Wr.heap.size Wr w2 := hB1.trans (hB2.mono hB1.size)
                  clear c1 c2 c3 hB0w
                  obtain ⟨⟨c1, c2⟩, c3, hB0w⟩ := hcr w2 hB2
                  go_wp2_with fail
                  refine (hin _).mono ?_
                  rintro e w3 ⟨rfl, rfl⟩
                  go_wp2_with fail
                  go_ret
                  exact ⟨ret_int hh.out.symm, hfr _ hB0w⟩
                | true =>
                  have hh := Lib.hid (hgo (by rw [hans.out]; rfl))
                  clear hans hend hgo
                  go_wp2_with fail
                  rw [← hWr]
                  clear hWr hc1 hc2
                  refine (hkey _).mono ?_
                  rintro e w1 ⟨rfl, hB1⟩
                  obtain ⟨⟨c1, c2⟩, c3, hB0w⟩ := hcr w1 hB1
                  go_wp2_with fail
                  refine (hcon _ hB1).mono ?_
                  rintro e w2 ⟨rfl, hB2⟩
                  have hB2 : Below Wr.heap.size Wr w2 := hB1.trans (hB2.mono hB1.size)
                  clear c1 c2 c3 hB0w
                  obtain ⟨⟨c1, c2⟩, c3, hB0w⟩ := hcr w2 hB2
                  go_wp2_with fail
                  refine (hin _).mono ?_
                  rintro e w3 ⟨rfl, rfl⟩
                  go_wp2_with fail
                  go_roundw
                  case rel => exact ⟨k + 1, by omega, by go_num, hh.out, hB0w⟩
                  case measure => simp [intOf]; omega
      · obtain rfl : k = d.regs.n := by omega
        clear hcR
        obtain ⟨c0, c1, c2, c3, c4⟩ := hcell wr hB
        go_wp2_with fail
        clear c0 c1 c2 c3 c4
        obtain ⟨wo, hwo⟩ : ∃ wo : World, wo = wr := ⟨_, rfl⟩
        go_loopw [5, 6, 56] (fun _ _ i wr => ∃ k : Nat, k ≤ d.ins.n ∧ i = .int .i64 (k : Int) ∧ firstErr (insErr d) k = 0 ∧ Below W0.heap.size W0 wr) (fun _ _ i _ => d.ins.n - (intOf i).toNat)
        case atStart => exact ⟨0, by omega, rfl, rfl, hB⟩
        case round =>
          clear hB hwo
          obtain ⟨j, hj, rfl, hI, hB⟩ := hrel
          by_cases hlt : j < d.ins.n
          · have hins := instrFault_any d ⟨ra, rc, ia, ic⟩ j wr hlt (hdev wr hB)
            obtain ⟨c0, c1, c2, c3, c4⟩ := hcell wr hB
            by_cases h0 : insErr d j = 0
            · have hh := Lib.hid (firstErr_succ hI h0)
              rw [h0] at hins
              clear hE hI h0 hcell hdev
              go_wp2_with fail
              refine hins.mono ?_
              rintro e w2 ⟨rfl, hB2⟩
              go_wp2_with fail
              go_roundw
              case rel => exact ⟨j + 1, by omega, by go_num, hh.out, hB.trans (hB2.mono hB.size)⟩
              case measure => simp [intOf]; omega
            · have hh := Lib.hid (partsErr_ins hl1 hl2 hE hI hlt h0)
              have h0' : (insErr d j == 0) = false := by simpa using h0
              clear hE hI h0 hcell hdev
              generalize insErr d j = ej at hins hh h0'
              go_wp2_with fail
              refine hins.mono ?_
              rintro e w2 ⟨rfl, hB2⟩
              go_wp2_with fail
              go_ret
              exact ⟨ret_int hh.out.symm, hfr _ (hB.trans (hB2.mono hB.size))⟩
          · obtain rfl : j = d.ins.n := by omega
            have hh := Lib.hid (partsErr_none hl1 hl2 hE hI)
            clear hE hI hcell hdev
            go_wp2_with fail
            go_ret
            exact ⟨ret_int hh.out.symm, hfr _ hB⟩
end Go.Proofs.YtkipkkaloiefpaaGreatDoor
