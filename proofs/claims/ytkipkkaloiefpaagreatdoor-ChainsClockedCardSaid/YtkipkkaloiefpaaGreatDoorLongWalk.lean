/- The walk of LongSequences: it returns true, and turns nothing that was there. -/
import Derived.Test.YtkipkkaloiefpaaGreatDoorTapped
namespace Go.Proofs.YtkipkkaloiefpaaGreatDoor
open Go.RowKit

/-- So many ones. -/
def ones (c : Nat) : ByteArray := ⟨(Lib.repeatL [49] c).toArray⟩
theorem ones_size (c : Nat) : (ones c).size = c := by
  show (Lib.repeatL [49] c).toArray.size = c
  simp [Lib.repeatL_length]
theorem ones_list (c : Nat) : (ones c).data.toList = Lib.repeatL [49] c := rfl
theorem ones_bits : ∀ c, (Lib.repeatL [49] c).all bitB = true
  | 0 => rfl
  | c + 1 => by
    show ([49] ++ Lib.repeatL [49] c).all bitB = true
    rw [List.all_append, ones_bits c]; rfl
theorem ones_nxs0 : ∀ c, nxs 0 (Lib.repeatL [49] c) = 0
  | 0 => rfl
  | c + 1 => by
    show nxs (nx 0 49) (Lib.repeatL [49] c) = 0
    rw [show nx 0 49 = 0 from by decide]; exact ones_nxs0 c
theorem five : ∀ s, s < 16 → nx (nx (nx (nx (nx s 49) 49) 49) 49) 49 = 0 := by decide
theorem ones_nxs (c s : Nat) (hs : s < 16) : nxs s (Lib.repeatL [49] (c + 5)) = 0 := by
  show nxs (nx (nx (nx (nx (nx s 49) 49) 49) 49) 49) (Lib.repeatL [49] c) = 0
  rw [five s hs]; exact ones_nxs0 c
theorem ones_all (c : Nat) : AllTo (Lib.repeatL [49] (c + 5)) 16 := fun j hj => by rw [ones_nxs c j hj, ones_nxs c 0 (by decide)]
theorem ones_ok {c : Nat} (h : c ≤ 20000) : clockErr (ones c) = 0 := by
  unfold clockErr
  rw [ones_size, if_neg (by omega), ones_list, if_pos (ones_bits c)]
theorem ones_long {c : Nat} (h : 20000 < c) : clockErr (ones c) = 2 := by
  unfold clockErr
  rw [ones_size, if_pos h]

/-- What the law asks of the slice that it is handed. -/
def RowIn (w : World) (a : Option Addr) (len : Nat) : Prop :=
  len ≤ 140737488355328 ∧ (0 < len → ∃ b off, a = some ⟨b, off, none⟩ ∧ b < w.heap.size ∧ ∀ k, k < len → ∃ z : Int, w.cell? ⟨b, off + k, none⟩ = some (.int .i64 z) ∧ -9223372036854775808 ≤ z ∧ z ≤ 9223372036854775807)

theorem cell_fresh (w : World) (cs : Array Value) (t : TypeId) {j : Nat} {v : Value} (h : cs[j]? = some v) : (w.alloc (.cells cs t)).cell? ⟨w.heap.size, j, none⟩ = some v := by
  have e : (w.alloc (.cells cs t)).heap[w.heap.size]? = some (.cells cs t) := heap_alloc_new w _
  unfold World.cell?
  simp only [e]
  simpa using h
theorem frozen_fresh (w : World) (cs : Array Value) (t : TypeId) (j : Nat) : (w.alloc (.cells cs t)).frozen? ⟨w.heap.size, j, none⟩ = false := by
  have e : (w.alloc (.cells cs t)).heap[w.heap.size]? = some (.cells cs t) := heap_alloc_new w _
  unfold World.frozen?
  simp only [e]
  simp
theorem Strm.start {w : World} {a : Option Addr} {len cap : Nat} (h : RowIn w a len) : Strm (w.alloc (.cells #[.slice a len cap, .int .i64 0] 25)) w.heap.size 0 := by
  obtain ⟨hlen, hrow⟩ := h
  refine ⟨cell_fresh _ _ _ rfl, frozen_fresh _ _ _ _, a, len, cap, cell_fresh _ _ _ rfl, hlen, fun h0 => ?_⟩
  obtain ⟨b, off, e, hb, hz⟩ := hrow h0
  refine ⟨b, off, e, hb, fun k hk => ?_⟩
  obtain ⟨z, hz1, hz2⟩ := hz k hk
  exact ⟨z, by rw [World.cell?_alloc_lt _ _ _ hb]; exact hz1, hz2⟩

theorem pick01 {w : World} (lb : Nat) (hl : lb = w.heap.size) (t : TypeId) : ∀ k, k < 2 → (w.alloc (.cells #[.int .i64 0, .int .i64 1] t)).cell? ⟨lb, 0 + k, none⟩ = some (.int .i64 (k : Int)) := by
  intro k hk
  subst hl
  have : k = 0 ∨ k = 1 := by omega
  rcases this with rfl | rfl <;> exact cell_fresh _ _ _ rfl

end Go.Proofs.YtkipkkaloiefpaaGreatDoor
