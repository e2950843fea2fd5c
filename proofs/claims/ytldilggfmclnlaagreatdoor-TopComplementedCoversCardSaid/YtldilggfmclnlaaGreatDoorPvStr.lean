/- The stream's makers: Odd, Bits, Changed, NearlyBits; the readers of bit strings on both sides. -/
import Derived.Test.YtldilggfmclnlaaGreatDoorTapped
import Derived.Test.YtldilggfmclnlaaGreatDoorVgCnt
import Derived.Shelf.Strings.SlTrimAscii
namespace Go.Proofs.YtldilggfmclnlaaGreatDoor
open Go.RowKit

/-- What the law asks of the slice that it is handed. -/
def RowIn (w : World) (a : Option Addr) (len : Nat) : Prop :=
  len ≤ 140737488355328 ∧ (0 < len → ∃ b off, a = some ⟨b, off, none⟩ ∧ b < w.heap.size ∧ ∀ k, k < len → ∃ z : Int, w.cell? ⟨b, off + k, none⟩ = some (.int .i64 z) ∧ -9223372036854775808 ≤ z ∧ z ≤ 9223372036854775807)
theorem cell_fresh (w : World) (cs : Array Value) (t : TypeId) {j : Nat} {v : Value} (h : cs[j]? = some v) : (w.alloc (.cells cs t)).cell? ⟨w.heap.size, j, none⟩ = some v := by
  have e : (w.alloc (.cells cs t)).heap[w.heap.size]? = some (.cells cs t) := heap_alloc_new w _
  unfold World.cell?
  simp only [e]
  simpa using h
theorem frozen_fresh (w : World) (cs : Array Value) (t : TypeId) (j : Nat) : (w.alloc (.cells cs t)).frozen? ⟨w.heap.size, j, none⟩ = false := by
  have e : (w.alloc (.cells cs t)).heap[w.heap.size]? = some (.cells cs t) := heap_alloc_new w _
  unfold World.frozen?
  simp only [e]
  simp
theorem Strm.start {w : World} {a : Option Addr} {len cap : Nat} (h : RowIn w a len) : Strm (w.alloc (.cells #[.slice a len cap, .int .i64 0] 25)) w.heap.size 0 := by
  obtain ⟨hlen, hrow⟩ := h
  refine ⟨cell_fresh _ _ _ rfl, frozen_fresh _ _ _ _, a, len, cap, cell_fresh _ _ _ rfl, hlen, fun h0 => ?_⟩
  obtain ⟨b, off, e, hb, hz⟩ := hrow h0
  refine ⟨b, off, e, hb, fun k hk => ?_⟩
  obtain ⟨z, hz1, hz2⟩ := hz k hk
  exact ⟨z, by rw [World.cell?_alloc_lt _ _ _ hb]; exact hz1, hz2⟩
theorem Ran.later {sb t K K' : Nat} {a b c : World} (h : Ran sb t K a b) (k : ∀ t', t ≤ t' → t' ≤ t + K → Strm b sb t' → Ran sb t' K' b c) : Ran sb t (K + K') a c := by
  obtain ⟨h1, t', x, y, z⟩ := h
  exact Ran.trans h1 x y (k t' x y z)
theorem Ran.then {sb t t' K K' : Nat} {a b c : World} (h : Ran sb t K a b) (ht : t ≤ t') (ht' : t' ≤ t + K) (k : Ran sb t' K' b c) : Ran sb t (K + K') a c := Ran.trans h.1 ht ht' k
/-- Numbers that lie in a new block. -/
theorem ints_fresh (w : World) (l : List Int) (ty : TypeId) : ∀ k, k < l.length → (w.alloc (.cells (l.map (Value.int .i64)).toArray ty)).cell? ⟨w.heap.size, 0 + k, none⟩ = some (.int .i64 (l.getD k 0)) := by
  intro k hk
  rw [Nat.zero_add]
  refine cell_fresh _ _ _ ?_
  simp [List.getD, hk]
theorem strs_fresh (w : World) (l : List ByteArray) (ty : TypeId) : ∀ k, k < l.length → (w.alloc (.cells (l.map Value.string).toArray ty)).cell? ⟨w.heap.size, 0 + k, none⟩ = some (.string (l.getD k ⟨#[]⟩)) := by
  intro k hk
  rw [Nat.zero_add]
  refine cell_fresh _ _ _ ?_
  simp [List.getD, hk]
theorem empty_of_size {s : ByteArray} (h : s.size = 0) : s.toList.isEmpty = true := by
  rw [ByteArray.toList_eq]
  have : s.data.toList.length = 0 := by simpa using h
  rw [List.isEmpty_iff, ← List.length_eq_zero_iff]; exact this
theorem not_empty_of_size {s : ByteArray} (h : 0 < s.size) : s.toList.isEmpty = false := by
  rw [ByteArray.toList_eq]
  have : 0 < s.data.toList.length := by simpa using h
  rw [List.isEmpty_eq_false_iff]; intro e; rw [e] at this; simp at this
theorem Ran.then_below {sb t K : Nat} {w w1 w2 : World} (h : Ran sb t K w w1) (hb : Below w1.heap.size w1 w2) : Ran sb t K w w2 := by
  obtain ⟨hg, t', a, b, hs⟩ := h
  exact ⟨hg.trans ⟨hb.os, hb.tape, hb.output, hb.size, fun k hk _ => hb.block k hk⟩, t', a, b, hs.below hb hs.lt⟩
end Go.Proofs.YtldilggfmclnlaaGreatDoor
