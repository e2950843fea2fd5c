/- The contracts of package tap's state machine: after, lastState. -/
import Derived.Test.YtoipgliokelcfaaGreatDoorStream
namespace Go.Proofs.YtoipgliokelcfaaGreatDoor
open Go.RowKit

/-- The next states, as the document lists them: state by state, with TMS 0 and with TMS 1. -/
def nxL : List Nat := [1, 0, 1, 2, 3, 9, 4, 5, 4, 5, 6, 8, 6, 7, 4, 8, 1, 2, 10, 0, 11, 12, 11, 12, 13, 15, 13, 14, 11, 15, 1, 2]
/-- The state after a clock. -/
def nx (s : Nat) (c : UInt8) : Nat := nxL.getD (s * 2 + (c.toNat - 48)) 0
/-- The state after a sequence. -/
def nxs (s : Nat) (l : List UInt8) : Nat := l.foldl nx s
def bitB (c : UInt8) : Bool := c == 48 || c == 49
/-- What the program's table holds. -/
def Tab (w : World) : Prop := ∀ k, k < 32 → w.cell? ⟨0, k, none⟩ = some (.int .i64 ((nxL.getD k 0 : Nat) : Int))

theorem Tab.below {w w' : World} {B : Nat} (h : Tab w) (hb : Below B w w') (hB : 0 < B) : Tab w' := fun k hk => (hb.cell (p := ⟨_, k, none⟩) hB).trans (h k hk)
theorem Tab.kept {w w' : World} (h : Tab w) (hb : w'.heap[0]? = w.heap[0]?) : Tab w' := fun k hk => (World.cell?_of_block (a := ⟨_, k, none⟩) hb).trans (h k hk)
theorem Tab.lt {w : World} (h : Tab w) : 0 < w.heap.size := World.block_lt_of_cell? w ⟨_, 0, none⟩ (h 0 (by decide))

theorem nx_lt (s : Nat) (hs : s < 16) (c : UInt8) (hc : bitB c = true) : nx s c < 16 := by
  have h : ∀ s, s < 16 → nxL.getD (s * 2 + 0) 0 < 16 ∧ nxL.getD (s * 2 + 1) 0 < 16 := by decide
  have h2 := h s hs
  unfold nx
  simp [bitB] at hc
  rcases hc with rfl | rfl
  · exact h2.1
  · exact h2.2

theorem nxs_lt (l : List UInt8) : ∀ (s : Nat), s < 16 → l.all bitB = true → nxs s l < 16 := by
  induction l with
  | nil => intro s hs _; exact hs
  | cons c l ih =>
    intro s hs h
    simp only [List.all_cons, Bool.and_eq_true] at h
    exact ih _ (nx_lt s hs c h.1) h.2

theorem Tab.at0 {w : World} (h : Tab w) {s : Nat} (hs : s < 16) : w.cell? ⟨0, s * 2, none⟩ = some (.int .i64 (nx s 48 : Int)) := h (s * 2) (by omega)
theorem Tab.at1 {w : World} (h : Tab w) {s : Nat} (hs : s < 16) : w.cell? ⟨0, s * 2 + 1, none⟩ = some (.int .i64 (nx s 49 : Int)) := h (s * 2 + 1) (by omega)

/-- after: the table's entry. -/
theorem after_any (s : Nat) (c : UInt8) (w : World) (hs : s < 16) (hc : bitB c = true) (hT : Tab w) :
    Calls Tryz.prog 37 #[.int .i64 (s : Int), .int .u8 (c.toNat : Int)] w fun e w' => e = .returned (.int .i64 (nx s c : Int)) ∧ w = w' := by
  have hc' : c = 48 ∨ c = 49 := by simpa [bitB] using hc
  have h0 := hT.at0 hs
  have h1 := hT.at1 hs
  clear hT hc
  rcases hc' with rfl | rfl
  · generalize nx s 48 = v at h0 ⊢
    go_enter Tryz.func37, Tryz.ntmps37
    go_wp2_with fail
    go_ret
    exact ⟨rfl, rfl⟩
  · generalize nx s 49 = v at h1 ⊢
    go_enter Tryz.func37, Tryz.ntmps37
    go_wp2_with fail
    go_ret
    exact ⟨rfl, rfl⟩

theorem ret_int {k : IntKind} {a b : Int} (h : a = b) : Ending.returned (.int k a) = .returned (.int k b) := by rw [h]
theorem take_snoc (s : ByteArray) (k : Nat) (h : k < s.size) : s.data.toList.take (k + 1) = s.data.toList.take k ++ [s[k]] := by
  rw [List.take_succ_eq_append_getElem (by simpa using h)]; rfl
theorem nxs_snoc (s : Nat) (l : List UInt8) (c : UInt8) : nxs s (l ++ [c]) = nx (nxs s l) c := by simp [nxs]
theorem all_take (l : List UInt8) (k : Nat) (h : l.all bitB = true) : (l.take k).all bitB = true := by
  rw [List.all_eq_true] at h ⊢
  exact fun x hx => h x (List.mem_of_mem_take hx)
theorem bit_at (s : ByteArray) (k : Nat) (h : k < s.size) (hc : s.data.toList.all bitB = true) : bitB s[k] = true := by
  rw [List.all_eq_true] at hc
  exact hc _ (by show s.data[k] ∈ s.data.toList; simp)

/-- lastState: the state behind the sequence. -/
theorem lastState_any (s : Nat) (tms : ByteArray) (w : World) (hs : s < 16) (hl : tms.size ≤ 1048576) (hc : tms.data.toList.all bitB = true) (hT : Tab w) :
    Calls Tryz.prog 28 #[.int .i64 (s : Int), .string tms] w fun e w' => e = .returned (.int .i64 (nxs s tms.data.toList : Int)) ∧ w = w' := by
  go_enter Tryz.func28, Tryz.ntmps28
  go_wp2_with fail
  go_loop [0, 5, 8] (fun st _ i => ∃ k : Nat, k ≤ tms.size ∧ i = .int .i64 (k : Int) ∧ st = .int .i64 (nxs s (tms.data.toList.take k) : Int)) (fun _ _ i => tms.size - (intOf i).toNat)
  case atStart => exact ⟨0, Nat.zero_le _, rfl, rfl⟩
  case round =>
    obtain ⟨k, hk, rfl, rfl⟩ := hrel
    by_cases hlt : k < tms.size
    · have hsn : Hid (nxs s (tms.data.toList.take (k + 1)) = nx (nxs s (tms.data.toList.take k)) tms[k]) := Lib.hid (by rw [take_snoc _ _ hlt, nxs_snoc])
      have hcon := fun (W : World) (hW : Tab W) => after_any (nxs s (tms.data.toList.take k)) tms[k] W (nxs_lt _ s hs (all_take _ k hc)) (bit_at tms k hlt hc) hW
      clear hc
      go_wp2_with fail
      refine (hcon _ hT).mono ?_
      rintro e w' ⟨rfl, rfl⟩
      go_wp2_with fail
      go_round
      case rel => exact ⟨k + 1, by omega, by go_num, by rw [hsn.out]⟩
      case measure => simp [intOf]; omega
    · obtain rfl : k = tms.size := by omega
      go_wp2
      go_ret
      have hall : tms.data.toList.take tms.size = tms.data.toList := List.take_of_length_le (by simp)
      exact ⟨ret_int (by rw [hall]), rfl⟩
end Go.Proofs.YtoipgliokelcfaaGreatDoor
