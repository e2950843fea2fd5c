/- Package pattern's turned: columns of rows. -/
import Derived.Test.YtgnkihiibednoaaGreatDoorVgShort
import Derived.Test.YtgnkihiibednoaaGreatDoorDigits
namespace Go.Proofs.YtgnkihiibednoaaGreatDoor
open Go.RowKit

theorem Tryz.infoStrv : (Tryz.prog.info? 9).map (fun i => (i.zero, i.size, i.bytes)) = some (some (.string ⟨#[]⟩), 1, 16) := by kernel_rfl
theorem info_strv : ∃ i, Tryz.prog.info? 9 = some i ∧ i.zero = some (.string ⟨#[]⟩) ∧ i.size = 1 ∧ i.bytes = 16 := by
  have h := Tryz.infoStrv
  cases hi : Tryz.prog.info? 9 with
  | none => rw [hi] at h; simp at h
  | some i =>
    rw [hi] at h
    simp at h
    exact ⟨i, rfl, h.1, h.2.1, h.2.2⟩

abbrev strV (l : List UInt8) : Value := .string ⟨l.toArray⟩
/-- The slice value v has these strings, in a block from B on. -/
def StrsAt (B : Nat) (w : World) (v : Value) (S : List (List UInt8)) : Prop := w.ownsRow B 9 1 v S.length (S.map strV)

/-- make([]string, n). -/
theorem make_strs (n : Nat) (hn : n ≤ 1000) (W : World) : (Instr.makeSlice 26 (.int .i64 (n : Int)) (.int .i64 (n : Int))).run Tryz.prog W = .ok (.slice (some ⟨W.heap.size, 0, none⟩) n n) (W.alloc (.cells (madeCells #[.string ⟨#[]⟩] n) 9)) := by
  obtain ⟨i0, hi, hz0, hz1, hz2⟩ := info_strv
  have := run_makeSlice (P := Tryz.prog) W 26 9 i0 (.string ⟨#[]⟩) Tryz.underlying26 hi hz0 .i64 .i64 n n (by omega) (by omega) (by rw [hz1]; simp; omega) (by rw [hz2]; omega) (by omega)
  rw [hz1, show (Value.string ⟨#[]⟩).cells = #[.string ⟨#[]⟩] from rfl] at this
  simpa using this
/-- make([]byte, n). -/
theorem make_bytes (n : Nat) (hn : n ≤ 1000) (W : World) : (Instr.makeSlice 77 (.int .i64 (n : Int)) (.int .i64 (n : Int))).run Tryz.prog W = .ok (.slice (some ⟨W.heap.size, 0, none⟩) n n) (W.alloc (.cells (madeCells #[.int .u8 0] n) 5)) := by
  obtain ⟨i0, hi, hz0, hz1, hz2⟩ := info_u8
  have := run_makeSlice (P := Tryz.prog) W 77 5 i0 (.int .u8 0) Tryz.underlying77 hi hz0 .i64 .i64 n n (by omega) (by omega) (by rw [hz1]; simp; omega) (by rw [hz2]; omega) (by omega)
  rw [hz1, show (Value.int .u8 0).cells = #[.int .u8 0] from rfl] at this
  simpa using this
theorem made_row (W : World) (z : Value) (n : Nat) (hn : n ≤ 1000) (T : TypeId) (B : Nat) (hB : B ≤ W.heap.size) : (W.alloc (.cells (madeCells #[z] n) T)).ownsRow B T 1 (.slice (some ⟨W.heap.size, 0, none⟩) n n) n (List.replicate n z) := by
  have h := World.ownsRow_lit (base := B) (e := T) (size := 1) W (madeCells #[z] n) n hB (by unfold maxLen; omega) (by
    have := congrArg List.length (toList_madeCells_one z n)
    rw [Array.length_toList, List.length_replicate] at this
    omega)
  rw [toList_madeCells_one] at h
  exact h

/-- A row that is being filled. -/
def partL (f : Nat → Value) (z : Value) (n k : Nat) : List Value := (List.range n).map fun j => if j < k then f j else z
theorem partL_get (f : Nat → Value) (z : Value) (n k i : Nat) : (partL f z n k)[i]? = if i < n then some (if i < k then f i else z) else none := by
  unfold partL
  by_cases h : i < n
  · rw [if_pos h]
    simp [h]
  · rw [if_neg h]
    simp; omega
theorem partL_zero (f : Nat → Value) (z : Value) (n : Nat) : partL f z n 0 = List.replicate n z := by
  apply List.ext_getElem?
  intro i
  rw [partL_get, List.getElem?_replicate]
  simp
theorem partL_set (f : Nat → Value) (z : Value) (n k : Nat) : (partL f z n k).set k (f k) = partL f z n (k + 1) := by
  apply List.ext_getElem?
  intro i
  rw [List.getElem?_set, partL_get, partL_get]
  have hl : (partL f z n k).length = n := by simp [partL]
  rw [hl]
  by_cases e : k = i
  · subst e
    rw [if_pos rfl]
    by_cases h : k < n
    · rw [if_pos h, if_pos h, if_pos (by omega)]
    · rw [if_neg h, if_neg h]
  · rw [if_neg e]
    by_cases h : i < n
    · rw [if_pos h, if_pos h]
      by_cases e2 : i < k
      · rw [if_pos e2, if_pos (by omega)]
      · rw [if_neg e2, if_neg (by omega)]
    · rw [if_neg h, if_neg h]
theorem partL_all (f : Nat → Value) (z : Value) (n : Nat) : partL f z n n = (List.range n).map f := by
  apply List.ext_getElem?
  intro i
  rw [partL_get]
  by_cases h : i < n
  · rw [if_pos h, if_pos h]
    simp [h]
  · rw [if_neg h, List.getElem?_eq_none (by simp; omega)]
theorem partL_len (f : Nat → Value) (z : Value) (n k : Nat) : (partL f z n k).length = n := by simp [partL]

end Go.Proofs.YtgnkihiibednoaaGreatDoor
