/- The program's turned, Sequences, FromSequences; the reference's VectorsOf, SequencesOf: for rows that may be empty. -/
import Derived.Test.YtgnkihiibednoaaGreatDoorPvLin
namespace Go.Proofs.YtgnkihiibednoaaGreatDoor
open Go.RowKit

theorem strs_append (a b : List UInt8) : (⟨a.toArray⟩ : ByteArray) ++ ⟨b.toArray⟩ = ⟨(a ++ b).toArray⟩ := by
  apply ByteArray.ext
  rw [ByteArray.data_append]
  apply Array.ext'
  simp
/-- The first r letters of column c. -/
def colN (S : List (List UInt8)) (c r : Nat) : List UInt8 := (List.range r).map fun i => (S.getD i []).getD c 0
theorem colN_succ (S : List (List UInt8)) (c r : Nat) : colN S c (r + 1) = colN S c r ++ [(S.getD r []).getD c 0] := by
  unfold colN
  rw [List.range_succ, List.map_append]
  rfl
theorem colN_len (S : List (List UInt8)) (c r : Nat) : (colN S c r).length = r := by simp [colN]
/-- A row of which the first k places have the new values. -/
def partG (f g : Nat → Value) (n k : Nat) : List Value := (List.range n).map fun j => if j < k then f j else g j
theorem partG_get (f g : Nat → Value) (n k i : Nat) : (partG f g n k)[i]? = if i < n then some (if i < k then f i else g i) else none := by
  unfold partG
  by_cases h : i < n
  · rw [if_pos h]
    simp [h]
  · rw [if_neg h]
    simp; omega
theorem partG_set (f g : Nat → Value) (n k : Nat) : (partG f g n k).set k (f k) = partG f g n (k + 1) := by
  apply List.ext_getElem?
  intro i
  rw [List.getElem?_set, partG_get, partG_get]
  have hl : (partG f g n k).length = n := by simp [partG]
  rw [hl]
  by_cases e : k = i
  · subst e
    rw [if_pos rfl]
    by_cases h : k < n
    · rw [if_pos h, if_pos h, if_pos (by omega)]
    · rw [if_neg h, if_neg h]
  · rw [if_neg e]
    by_cases h : i < n
    · rw [if_pos h, if_pos h]
      by_cases e2 : i < k
      · rw [if_pos e2, if_pos (by omega)]
      · rw [if_neg e2, if_neg (by omega)]
    · rw [if_neg h, if_neg h]
theorem partG_zero (f g : Nat → Value) (n : Nat) : partG f g n 0 = (List.range n).map g := by
  unfold partG
  simp
theorem partG_all (f g : Nat → Value) (n : Nat) : partG f g n n = (List.range n).map f := by
  apply List.ext_getElem?
  intro i
  rw [partG_get]
  by_cases h : i < n
  · rw [if_pos h, if_pos h]
    simp [h]
  · rw [if_neg h, List.getElem?_eq_none (by simp; omega)]
theorem slice_one (s : List UInt8) (k : Nat) (hk : k < s.length) (hs : s.length ≤ 1000) (W : World) : (Instr.slice 9 (.string ⟨s.toArray⟩) (some (.int .i64 (k : Int))) (some (.int .i64 (IntKind.i64.wrap ((k : Int) + 1)))) none).run Tryz.prog W = .ok (.string ⟨#[s.getD k 0]⟩) W := by
  rw [IntWalk.i64_in _ (by omega)]
  have hz : (⟨s.toArray⟩ : ByteArray).size = s.length := by show s.toArray.size = _; simp
  rw [run_slice_string W 9 ⟨s.toArray⟩ .i64 .i64 (k : Int) ((k : Int) + 1) Tryz.underlying9 (by omega) (by omega) (by rw [hz]; omega)]
  congr 2
  have e1 : ((k : Int) + 1).toNat = k + 1 := by omega
  rw [Int.toNat_natCast, e1]
  apply ByteArray.ext
  rw [ByteArray.data_extract]
  apply Array.ext
  · simp; omega
  · intro i h1 h2
    have : i = 0 := by simpa using h2
    subst this
    simp [List.getD, hk]
end Go.Proofs.YtgnkihiibednoaaGreatDoor
