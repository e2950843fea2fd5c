/- The stream's Odd, and its start. -/
import Derived.Test.YtlcknglnpcggaaaGreatDoorVgWo
namespace Go.Proofs.YtlcknglnpcggaaaGreatDoor
open Go.RowKit

/-- What the law asks of the slice that it is handed. -/
def RowIn (w : World) (a : Option Addr) (len : Nat) : Prop :=
  len ≤ 140737488355328 ∧ (0 < len → ∃ b off, a = some ⟨b, off, none⟩ ∧ b < w.heap.size ∧ ∀ k, k < len → ∃ z : Int, w.cell? ⟨b, off + k, none⟩ = some (.int .i64 z) ∧ -9223372036854775808 ≤ z ∧ z ≤ 9223372036854775807)

theorem cell_fresh (w : World) (cs : Array Value) (t : TypeId) {j : Nat} {v : Value} (h : cs[j]? = some v) : (w.alloc (.cells cs t)).cell? ⟨w.heap.size, j, none⟩ = some v := by
  have e : (w.alloc (.cells cs t)).heap[w.heap.size]? = some (.cells cs t) := heap_alloc_new w _
  unfold World.cell?
  simp only [e]
  simpa using h
theorem frozen_fresh (w : World) (cs : Array Value) (t : TypeId) (j : Nat) : (w.alloc (.cells cs t)).frozen? ⟨w.heap.size, j, none⟩ = false := by
  have e : (w.alloc (.cells cs t)).heap[w.heap.size]? = some (.cells cs t) := heap_alloc_new w _
  unfold World.frozen?
  simp only [e]
  simp
theorem Strm.start {w : World} {a : Option Addr} {len cap : Nat} (h : RowIn w a len) : Strm (w.alloc (.cells #[.slice a len cap, .int .i64 0] 25)) w.heap.size 0 := by
  obtain ⟨hlen, hrow⟩ := h
  refine ⟨cell_fresh _ _ _ rfl, frozen_fresh _ _ _ _, a, len, cap, cell_fresh _ _ _ rfl, hlen, fun h0 => ?_⟩
  obtain ⟨b, off, e, hb, hz⟩ := hrow h0
  refine ⟨b, off, e, hb, fun k hk => ?_⟩
  obtain ⟨z, hz1, hz2⟩ := hz k hk
  exact ⟨z, by rw [World.cell?_alloc_lt _ _ _ hb]; exact hz1, hz2⟩
theorem Ran.later {sb t K K' : Nat} {a b c : World} (h : Ran sb t K a b) (k : ∀ t', t ≤ t' → t' ≤ t + K → Strm b sb t' → Ran sb t' K' b c) : Ran sb t (K + K') a c := by
  obtain ⟨h1, t', x, y, z⟩ := h
  exact Ran.trans h1 x y (k t' x y z)
theorem Ran.then {sb t t' K K' : Nat} {a b c : World} (h : Ran sb t K a b) (ht : t ≤ t') (ht' : t' ≤ t + K) (k : Ran sb t' K' b c) : Ran sb t (K + K') a c := Ran.trans h.1 ht ht' k

/-- Numbers that lie in a new block. -/
theorem ints_fresh (w : World) (l : List Int) (ty : TypeId) : ∀ k, k < l.length → (w.alloc (.cells (l.map (Value.int .i64)).toArray ty)).cell? ⟨w.heap.size, 0 + k, none⟩ = some (.int .i64 (l.getD k 0)) := by
  intro k hk
  rw [Nat.zero_add]
  refine cell_fresh _ _ _ ?_
  simp [List.getD, hk]
theorem odd_any (sb t : Nat) (low high : Int) (w : World) (hs : Strm w sb t) (ht : t ≤ 1000000) (h0 : -1048576 ≤ low) (h1 : low ≤ high) (h2 : high ≤ 1048576) :
    Calls Tryz.prog 4 #[.pointer (some ⟨sb, 0, none⟩), .int .i64 low, .int .i64 high] w fun e w' => (∃ r : Int, -1099511627776 ≤ r ∧ r ≤ 1099511627776 ∧ e = .returned (.int .i64 r)) ∧ Ran sb t 2 w w' := by
  go_enter Tryz.func4, Tryz.ntmps4
  go_wp2_with fail
  refine (flip_any sb t _ _ hs (by omega) (by decide) (by decide)).mono ?_
  rintro e w1 ⟨⟨b, rfl⟩, hr⟩
  obtain ⟨t1, ht1, ht1', hs1⟩ := hr.strm
  have hlt := hs1.lt
  cases b with
  | true =>
    go_wp2_with fail
    refine (pick_any sb t1 w1.heap.size 0 6 6 (fun k => [low - 1, high + 1, low, high, -1099511627776, 1099511627776].getD k 0) _ (hs1.alloc _) (by omega) (by decide) (by decide) (by omega) (ints_fresh w1 [low - 1, high + 1, low, high, -1099511627776, 1099511627776] _)).mono ?_
    rintro e w2 ⟨⟨k, hk, rfl⟩, hr2⟩
    have hb : -1099511627776 ≤ [low - 1, high + 1, low, high, -1099511627776, 1099511627776].getD k 0 ∧ [low - 1, high + 1, low, high, -1099511627776, 1099511627776].getD k 0 ≤ 1099511627776 := by
      have : k = 0 ∨ k = 1 ∨ k = 2 ∨ k = 3 ∨ k = 4 ∨ k = 5 := by omega
      rcases this with rfl | rfl | rfl | rfl | rfl | rfl <;> simp <;> omega
    have hr3 := hr2.after_alloc
    generalize [low - 1, high + 1, low, high, -1099511627776, 1099511627776].getD k 0 = r at hb ⊢
    go_wp2_with fail
    go_ret
    exact ⟨⟨r, hb.1, hb.2, rfl⟩, (hr.then ht1 ht1' hr3).mono (by decide)⟩
  | false =>
    go_wp2_with fail
    refine (range_any sb t1 low high _ hs1 (by omega) h0 h1 h2).mono ?_
    rintro e w2 ⟨⟨r, h3, h4, rfl⟩, hr2⟩
    go_wp2_with fail
    go_ret
    exact ⟨⟨r, by omega, by omega, rfl⟩, (hr.then ht1 ht1' hr2).mono (by decide)⟩


end Go.Proofs.YtlcknglnpcggaaaGreatDoor
