/- strconv.FormatInt of 0, 1, 2 in base 2. -/
import Derived.Test.YthcakdminnmjoaaGreatDoorMakers
import Derived.Laws.IdiomStrings
namespace Go.Proofs.YthcakdminnmjoaaGreatDoor
open Go.RowKit

/-- What the table of trailing zeros holds at the place of 2. -/
def Tz (w : World) : Prop := w.cell? ⟨4, 1, none⟩ = some (.int .u8 1)
theorem Tz.below {w w' : World} {B : Nat} (h : Tz w) (hb : Below B w w') (hB : 4 < B) : Tz w' := (hb.cell (p := ⟨_, 1, none⟩) hB).trans h
theorem Tz.lt {w : World} (h : Tz w) : 4 < w.heap.size := World.block_lt_of_cell? w ⟨_, 1, none⟩ h

theorem tz64_two (w : World) (h : Tz w) : Calls Tryz.prog 130 #[.int .u64 2] w fun e w' => e = .returned (.int .i64 1) ∧ w = w' := by
  unfold Tz at h
  have e1 : bits .and .u64 2 (IntKind.u64.wrap (-2)) = 2 := by kernel_rfl
  have e2 : IntKind.u64.wrap 571740426102707730 = 571740426102707730 := by kernel_rfl
  go_enter Tryz.func130, Tryz.ntmps130
  go_wp2_with fail
  go_ret
  exact ⟨rfl, rfl⟩
set_option maxRecDepth 10000 in
theorem tz_two (w : World) (h : Tz w) : Calls Tryz.prog 111 #[.int .u64 2] w fun e w' => e = .returned (.int .i64 1) ∧ w = w' := by
  go_enter Tryz.func111, Tryz.ntmps111
  go_wp2_with fail
  refine (tz64_two _ h).mono ?_
  rintro e w' ⟨rfl, rfl⟩
  go_wp2_with fail
  go_ret
  exact ⟨rfl, rfl⟩
theorem isPow2_two (w : World) : Calls Tryz.prog 110 #[.int .i64 2] w fun e w' => e = .returned (.bool true) ∧ w = w' := by
  have e1 : bits .and .i64 2 1 = 0 := by kernel_rfl
  go_enter Tryz.func110, Tryz.ntmps110
  go_wp2_with fail
  go_ret
  exact ⟨rfl, rfl⟩

theorem Tryz.zc : (List.range 65).all (fun j => match Tryz.zeroCells153[j]? with | some (.int .u8 0) => true | _ => false) = true := by kernel_rfl
theorem zc_at {j : Nat} (h : j < 65) : Tryz.zeroCells153[j]? = some (.int .u8 0) := by
  have h1 := List.all_eq_true.1 Tryz.zc j (List.mem_range.2 h)
  revert h1
  split
  · intro _; assumption
  · intro e; cases e

/-- The letters from place i on of the row of 65. -/
theorem conv_one {w : World} {ab : Nat} {c : UInt8} (h : w.cell? ⟨ab, 64, none⟩ = some (.int .u8 (c.toNat : Int))) (cap : Nat) : (convert 65 9 (.slice (some ⟨ab, 64, none⟩) 1 cap)).run Tryz.prog w = .ok (.string ⟨#[c]⟩) w :=
  run_convert_bytes_back (P := Tryz.prog) w 65 9 5 ⟨ab, 64, none⟩ cap [c] Tryz.underlying65 Tryz.underlying5 Tryz.underlying9 (fun j hj => by
    obtain rfl : j = 0 := by simpa using hj
    exact h)
theorem conv_two {w : World} {ab : Nat} {c d : UInt8} (h : w.cell? ⟨ab, 63, none⟩ = some (.int .u8 (c.toNat : Int))) (h2 : w.cell? ⟨ab, 64, none⟩ = some (.int .u8 (d.toNat : Int))) (cap : Nat) : (convert 65 9 (.slice (some ⟨ab, 63, none⟩) 2 cap)).run Tryz.prog w = .ok (.string ⟨#[c, d]⟩) w :=
  run_convert_bytes_back (P := Tryz.prog) w 65 9 5 ⟨ab, 63, none⟩ cap [c, d] Tryz.underlying65 Tryz.underlying5 Tryz.underlying9 (fun j hj => by
    have : j = 0 ∨ j = 1 := by simp at hj; omega
    rcases this with rfl | rfl
    · exact h
    · exact h2)

set_option maxRecDepth 100000 in
theorem formatBits_small (k : Nat) (hk : k < 2) (w : World) (h : Tz w) : Calls Tryz.prog 74 #[.slice none 0 0, .int .u64 (k : Int), .int .i64 2, .bool false, .bool false] w fun e w' => (∃ s : ByteArray, 1 ≤ s.size ∧ s.size ≤ 2 ∧ e = .returned (.tuple #[.slice none 0 0, .string s])) ∧ Below w.heap.size w w' := by
  have htz := (h.below ((Below.refl _ w).alloc (Nat.le_refl _) (.cells Tryz.zeroCells153 153)) h.lt)
  have c64 : (w.alloc (.cells Tryz.zeroCells153 153)).cell? ⟨w.heap.size, 64, none⟩ = some (.int .u8 0) := cell_fresh _ _ _ (zc_at (by decide))
  have f64 : (w.alloc (.cells Tryz.zeroCells153 153)).frozen? ⟨w.heap.size, 64, none⟩ = false := frozen_fresh _ _ _ _
  have hB : Below w.heap.size w (w.alloc (.cells Tryz.zeroCells153 153)) := (Below.refl _ w).alloc (Nat.le_refl _) _
  have e1 : IntKind.u64.wrap 2 = 2 := by kernel_rfl
  have e2 : IntKind.u64.wrap 1 = 1 := by kernel_rfl
  have hk2 : k = 0 ∨ k = 1 := by omega
  clear h
  generalize hW : w.alloc (.cells Tryz.zeroCells153 153) = W at htz c64 f64 hB
  rcases hk2 with rfl | rfl
  · go_enter Tryz.func74, Tryz.ntmps74
    go_wp2_with fail
    have HW := Lib.hid hW
    clear hW
    refine (isPow2_two _).mono ?_
    rintro e w' ⟨rfl, rfl⟩
    go_wp2_with fail
    refine (tz_two _ htz).mono ?_
    rintro e w' ⟨rfl, rfl⟩
    go_wp2_with fail
    go_loopw [1, 13] (fun u i wr => u = .int .u64 0 ∧ i = .int .i64 65 ∧ W = wr) (fun _ _ _ => 0)
    case atStart => exact ⟨rfl, rfl, rfl⟩
    case round =>
      obtain ⟨rfl, rfl, rfl⟩ := hrel
      have hcv := fun cap => conv_one (World.cell?_setCell_same W ⟨w.heap.size, 64, none⟩ (.int .u8 ((⟨#[48, 49, 50, 51, 52, 53, 54, 55, 56, 57, 97, 98, 99, 100, 101, 102, 103, 104, 105, 106, 107, 108, 109, 110, 111, 112, 113, 114, 115, 116, 117, 118, 119, 120, 121, 122]⟩ : ByteArray)[0].toNat : Int)) c64) cap
      go_wp2_with fail
      go_ret2
      exact ⟨⟨_, by decide, by decide, rfl⟩, hB.setCell (Nat.le_refl _) _⟩
  · go_enter Tryz.func74, Tryz.ntmps74
    go_wp2_with fail
    have HW := Lib.hid hW
    clear hW
    refine (isPow2_two _).mono ?_
    rintro e w' ⟨rfl, rfl⟩
    go_wp2_with fail
    refine (tz_two _ htz).mono ?_
    rintro e w' ⟨rfl, rfl⟩
    go_wp2_with fail
    go_loopw [1, 13] (fun u i wr => u = .int .u64 1 ∧ i = .int .i64 65 ∧ W = wr) (fun _ _ _ => 0)
    case atStart => exact ⟨rfl, rfl, rfl⟩
    case round =>
      obtain ⟨rfl, rfl, rfl⟩ := hrel
      have hcv := fun cap => conv_one (World.cell?_setCell_same W ⟨w.heap.size, 64, none⟩ (.int .u8 ((⟨#[48, 49, 50, 51, 52, 53, 54, 55, 56, 57, 97, 98, 99, 100, 101, 102, 103, 104, 105, 106, 107, 108, 109, 110, 111, 112, 113, 114, 115, 116, 117, 118, 119, 120, 121, 122]⟩ : ByteArray)[1].toNat : Int)) c64) cap
      go_wp2_with fail
      go_ret2
      exact ⟨⟨_, by decide, by decide, rfl⟩, hB.setCell (Nat.le_refl _) _⟩

set_option maxRecDepth 100000 in
theorem formatBits_2 (w : World) (h : Tz w) : Calls Tryz.prog 74 #[.slice none 0 0, .int .u64 2, .int .i64 2, .bool false, .bool false] w fun e w' => (∃ s : ByteArray, 1 ≤ s.size ∧ s.size ≤ 2 ∧ e = .returned (.tuple #[.slice none 0 0, .string s])) ∧ Below w.heap.size w w' := by
  have htz := (h.below ((Below.refl _ w).alloc (Nat.le_refl _) (.cells Tryz.zeroCells153 153)) h.lt)
  have c64 : (w.alloc (.cells Tryz.zeroCells153 153)).cell? ⟨w.heap.size, 64, none⟩ = some (.int .u8 0) := cell_fresh _ _ _ (zc_at (by decide))
  have f64 : (w.alloc (.cells Tryz.zeroCells153 153)).frozen? ⟨w.heap.size, 64, none⟩ = false := frozen_fresh _ _ _ _
  have c63 : (w.alloc (.cells Tryz.zeroCells153 153)).cell? ⟨w.heap.size, 63, none⟩ = some (.int .u8 0) := cell_fresh _ _ _ (zc_at (by decide))
  have f63 : (w.alloc (.cells Tryz.zeroCells153 153)).frozen? ⟨w.heap.size, 63, none⟩ = false := frozen_fresh _ _ _ _
  have hB : Below w.heap.size w (w.alloc (.cells Tryz.zeroCells153 153)) := (Below.refl _ w).alloc (Nat.le_refl _) _
  have e1 : IntKind.u64.wrap 2 = 2 := by kernel_rfl
  have e2 : IntKind.u64.wrap 1 = 1 := by kernel_rfl
  have e3 : bits .and .u64 2 1 = 0 := by kernel_rfl
  clear h
  generalize hW : w.alloc (.cells Tryz.zeroCells153 153) = W at htz c64 f64 c63 f63 hB
  go_enter Tryz.func74, Tryz.ntmps74
  go_wp2_with fail
  have HW := Lib.hid hW
  clear hW
  refine (isPow2_two _).mono ?_
  rintro e w' ⟨rfl, rfl⟩
  go_wp2_with fail
  refine (tz_two _ htz).mono ?_
  rintro e w' ⟨rfl, rfl⟩
  go_wp2_with fail
  go_loopw [1, 13] (fun u i wr => (u = .int .u64 2 ∧ i = .int .i64 65 ∧ W = wr) ∨ (u = .int .u64 1 ∧ i = .int .i64 64 ∧ W.setCell ⟨w.heap.size, 64, none⟩ (.int .u8 ((⟨#[48, 49, 50, 51, 52, 53, 54, 55, 56, 57, 97, 98, 99, 100, 101, 102, 103, 104, 105, 106, 107, 108, 109, 110, 111, 112, 113, 114, 115, 116, 117, 118, 119, 120, 121, 122]⟩ : ByteArray)[0].toNat : Int)) = wr)) (fun u _ _ => (intOf u).toNat)
  case atStart => exact .inl ⟨rfl, rfl, rfl⟩
  case round =>
    rcases hrel with ⟨rfl, rfl, rfl⟩ | ⟨rfl, rfl, hw⟩
    · go_wp2_with fail
      go_roundw
      case rel => refine .inr ⟨rfl, rfl, ?_⟩; first | rfl | trivial
      case measure => decide
    · have g64 : wr.cell? ⟨w.heap.size, 64, none⟩ = some (.int .u8 ((⟨#[48, 49, 50, 51, 52, 53, 54, 55, 56, 57, 97, 98, 99, 100, 101, 102, 103, 104, 105, 106, 107, 108, 109, 110, 111, 112, 113, 114, 115, 116, 117, 118, 119, 120, 121, 122]⟩ : ByteArray)[0].toNat : Int)) := by rw [← hw]; exact World.cell?_setCell_same _ _ _ c64
      have g63 : wr.cell? ⟨w.heap.size, 63, none⟩ = some (.int .u8 0) := by rw [← hw, World.cell?_setCell_other _ _ _ _ (by simp)]; exact c63
      have k63 : wr.frozen? ⟨w.heap.size, 63, none⟩ = false := by rw [← hw, World.frozen?_setCell]; exact f63
      have hB2 : Below w.heap.size w wr := by rw [← hw]; exact hB.setCell (Nat.le_refl _) _
      clear hw c64 c63 f64 f63
      have hcv := fun cap => conv_two (World.cell?_setCell_same wr ⟨w.heap.size, 63, none⟩ (.int .u8 ((⟨#[48, 49, 50, 51, 52, 53, 54, 55, 56, 57, 97, 98, 99, 100, 101, 102, 103, 104, 105, 106, 107, 108, 109, 110, 111, 112, 113, 114, 115, 116, 117, 118, 119, 120, 121, 122]⟩ : ByteArray)[1].toNat : Int)) g63) ((World.cell?_setCell_other wr ⟨w.heap.size, 63, none⟩ ⟨w.heap.size, 64, none⟩ (.int .u8 ((⟨#[48, 49, 50, 51, 52, 53, 54, 55, 56, 57, 97, 98, 99, 100, 101, 102, 103, 104, 105, 106, 107, 108, 109, 110, 111, 112, 113, 114, 115, 116, 117, 118, 119, 120, 121, 122]⟩ : ByteArray)[1].toNat : Int)) (by simp)).trans g64) cap
      go_wp2_with fail
      go_ret2
      exact ⟨⟨_, by decide, by decide, rfl⟩, hB2.setCell (Nat.le_refl _) _⟩

theorem formatBits_any (k : Nat) (hk : k < 3) (w : World) (h : Tz w) : Calls Tryz.prog 74 #[.slice none 0 0, .int .u64 (k : Int), .int .i64 2, .bool false, .bool false] w fun e w' => (∃ s : ByteArray, 1 ≤ s.size ∧ s.size ≤ 2 ∧ e = .returned (.tuple #[.slice none 0 0, .string s])) ∧ Below w.heap.size w w' := by
  by_cases h2 : k < 2
  · exact formatBits_small k h2 w h
  · obtain rfl : k = 2 := by omega
    exact formatBits_2 w h

theorem wrap3 : ∀ k : Nat, k < 3 → IntKind.u64.wrap (k : Int) = (k : Int) := by decide
theorem iFormatInt_any (k : Nat) (hk : k < 3) (w : World) (h : Tz w) : Calls Tryz.prog 47 #[.int .i64 (k : Int), .int .i64 2] w fun e w' => (∃ s : ByteArray, 1 ≤ s.size ∧ s.size ≤ 2 ∧ e = .returned (.string s)) ∧ Below w.heap.size w w' := by
  have hcon := formatBits_any k hk w h
  have e1 : IntKind.u64.wrap (k : Int) = (k : Int) := wrap3 k hk
  have hk0 : ¬ (k : Int) < 0 := by omega
  go_enter Tryz.func47, Tryz.ntmps47
  go_wp2_with fail
  refine hcon.mono ?_
  rintro e w' ⟨⟨s, h1, h2, rfl⟩, hB⟩
  go_wp2_with fail
  go_ret
  exact ⟨⟨s, h1, h2, rfl⟩, hB⟩

theorem formatInt_any (k : Nat) (hk : k < 3) (w : World) (h : Tz w) : Calls Tryz.prog 21 #[.int .i64 (k : Int), .int .i64 2] w fun e w' => (∃ s : ByteArray, 1 ≤ s.size ∧ s.size ≤ 2 ∧ e = .returned (.string s)) ∧ Below w.heap.size w w' := by
  have hcon := iFormatInt_any k hk w h
  go_enter Tryz.func21, Tryz.ntmps21
  go_wp2_with fail
  refine hcon.mono ?_
  rintro e w' ⟨⟨s, h1, h2, rfl⟩, hB⟩
  go_wp2_with fail
  go_ret
  exact ⟨⟨s, h1, h2, rfl⟩, hB⟩
end Go.Proofs.YthcakdminnmjoaaGreatDoor
