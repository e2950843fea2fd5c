/- The stream's start, its Odd. -/
import Derived.Test.YtdejjplkignaoaaMkW
namespace Go.Proofs.Ytdejjplkignaoaa
open Go.RowKit

/-- What the law asks of the slice that it is handed. -/
def RowIn (w : World) (a : Option Addr) (len : Nat) : Prop :=
  len ≤ 140737488355328 ∧ (0 < len → ∃ b off, a = some ⟨b, off, none⟩ ∧ b < w.heap.size ∧ ∀ k, k < len → ∃ z : Int, w.cell? ⟨b, off + k, none⟩ = some (.int .i64 z) ∧ -9223372036854775808 ≤ z ∧ z ≤ 9223372036854775807)

theorem Strm.start {w : World} {a : Option Addr} {len cap : Nat} (h : RowIn w a len) : Strm (w.alloc (.cells #[.slice a len cap, .int .i64 0] 25)) w.heap.size 0 := by
  obtain ⟨hlen, hrow⟩ := h
  refine ⟨cell_new1 _ _ _ rfl, ?_, a, len, cap, cell_new1 _ _ _ rfl, hlen, fun h0 => ?_⟩
  · simp
  · obtain ⟨b, off, e, hb, hz⟩ := hrow h0
    refine ⟨b, off, e, hb, fun k hk => ?_⟩
    obtain ⟨z, hz1, hz2⟩ := hz k hk
    exact ⟨z, by rw [World.cell?_alloc_lt _ _ _ hb]; exact hz1, hz2⟩
theorem odd_any (sb t : Nat) (low high : Int) (w : World) (hs : Strm w sb t) (ht : t ≤ 1000000) (h0 : -1048576 ≤ low) (h1 : low ≤ high) (h2 : high ≤ 1048576) :
    Calls Try.prog 47 #[.pointer (some ⟨sb, 0, none⟩), .int .i64 low, .int .i64 high] w fun e w' => (∃ r : Int, -1099511627776 ≤ r ∧ r ≤ 1099511627776 ∧ e = .returned (.int .i64 r)) ∧ Ran sb t 2 w w' := by
  go_enter Try.func47, Try.ntmps47
  go_wp2_with fail
  refine (flip_any sb t _ _ hs (by omega) (by decide) (by decide)).mono ?_
  rintro e w1 ⟨⟨b, rfl⟩, hr⟩
  obtain ⟨t1, ht1, ht1', hs1⟩ := hr.strm
  have hlt := hs1.lt
  cases b with
  | true =>
    go_wp2_with fail
    refine (pick_any sb t1 w1.heap.size 0 6 6 (fun k => [low - 1, high + 1, low, high, -1099511627776, 1099511627776].getD k 0) _ (hs1.alloc _) (by omega) (by decide) (by decide) (by omega) (cells_fresh w1 [low - 1, high + 1, low, high, -1099511627776, 1099511627776] _)).mono ?_
    rintro e w2 ⟨⟨k, hk, rfl⟩, hr2⟩
    have hb : -1099511627776 ≤ [low - 1, high + 1, low, high, -1099511627776, 1099511627776].getD k 0 ∧ [low - 1, high + 1, low, high, -1099511627776, 1099511627776].getD k 0 ≤ 1099511627776 := by
      have : k = 0 ∨ k = 1 ∨ k = 2 ∨ k = 3 ∨ k = 4 ∨ k = 5 := by omega
      rcases this with rfl | rfl | rfl | rfl | rfl | rfl <;> simp <;> omega
    have hr3 := hr2.after_alloc
    generalize [low - 1, high + 1, low, high, -1099511627776, 1099511627776].getD k 0 = r at hb ⊢
    go_wp2_with fail
    go_ret
    exact ⟨⟨r, hb.1, hb.2, rfl⟩, (hr.then ht1 ht1' hr3).mono (by decide)⟩
  | false =>
    go_wp2_with fail
    refine (range_any sb t1 low high _ hs1 (by omega) h0 h1 h2).mono ?_
    rintro e w2 ⟨⟨r, h3, h4, rfl⟩, hr2⟩
    go_wp2_with fail
    go_ret
    exact ⟨⟨r, by omega, by omega, rfl⟩, (hr.then ht1 ht1' hr2).mono (by decide)⟩
end Go.Proofs.Ytdejjplkignaoaa
