/- The contract of the reference's WalkOf, and of the closure of its SynchronizedTo. -/
import Derived.Test.YthcakdminnmjoaaGreatDoorOr
import Derived.Laws.IdiomStrings
namespace Go.Proofs.YthcakdminnmjoaaGreatDoor
open Go.RowKit

/-- The states after each clock. -/
def walkL (s : Nat) : List UInt8 → List Nat
  | [] => []
  | c :: l => nx s c :: walkL (nx s c) l
theorem walkL_len : ∀ (l : List UInt8) (s : Nat), (walkL s l).length = l.length
  | [], _ => rfl
  | c :: l, s => by simp [walkL, walkL_len l]
theorem walkL_snoc : ∀ (l : List UInt8) (s : Nat) (c : UInt8), walkL s (l ++ [c]) = walkL s l ++ [nx (nxs s l) c]
  | [], s, c => rfl
  | d :: l, s, c => by simp [walkL, walkL_snoc l, nxs]
theorem walkL_at : ∀ (l : List UInt8) (s k : Nat), k < l.length → (walkL s l)[k]? = some (nxs s (l.take (k + 1)))
  | [], _, _, h => by simp at h
  | c :: l, s, 0, _ => rfl
  | c :: l, s, k + 1, h => by
    have := walkL_at l (nx s c) k (by simpa using h)
    simpa [walkL, nxs] using this

/-- The bytes of a string in a new block. -/
theorem bytes_conv (s : ByteArray) (w : World) : ∃ (cap : Nat) (C : Array Value), (convert 9 65 (.string s)).run Tryz.prog w = .ok (.slice (some ⟨w.heap.size, 0, none⟩) s.size cap) (w.drew.alloc (.cells C 5 (C.size, C.size + 1))) ∧
    ∀ k (h : k < s.size), C[k]? = some (.int .u8 (s[k].toNat : Int)) := by
  refine ⟨_, _, run_bytes_of_string w 9 65 5 s Tryz.underlying9 Tryz.underlying65 Tryz.underlying5, fun k h => ?_⟩
  unfold bytesRow
  rw [Array.getElem?_append_left (by simpa using h)]
  have h' : k < s.data.size := h
  rw [Array.getElem?_map, Array.getElem?_eq_getElem h']
  rfl

theorem cell_bytes (w : World) (C : Array Value) (t : TypeId) (fr : Nat × Nat) {j : Nat} {v : Value} (h : C[j]? = some v) : (w.alloc (.cells C t fr)).cell? ⟨w.heap.size, j, none⟩ = some v := by
  have e : (w.alloc (.cells C t fr)).heap[w.heap.size]? = some (.cells C t fr) := heap_alloc_new w _
  unfold World.cell?
  simp only [e]
  simpa using h

end Go.Proofs.YthcakdminnmjoaaGreatDoor
