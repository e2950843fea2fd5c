/- The contracts of the stream of numbers that the statements draw their inputs from: Below and Next. -/
import Derived.Test.YtoipgliokelcfaaGreatDoorProg
import Derived.WalkKit
import Derived.WalkLawsBesides
import Derived.WalkSpells
import Derived.Deep.QuietTactic
import Derived.BigQuiet
import Derived.Outline
import Derived.Handy
import Derived.Lib.Hide
namespace Go.Proofs.YtoipgliokelcfaaGreatDoor
open Go.RowKit

theorem tmod_lt (x n : Int) (hn : 1 ≤ n) : x.tmod n < n ∧ - n < x.tmod n := by
  have h1 := Int.tmod_lt_of_pos x (by omega : 0 < n)
  have h2 : -n < x.tmod n := by
    have := Int.tmod_lt_of_pos (-x) (by omega : 0 < n)
    rw [Int.neg_tmod] at this
    omega
  exact ⟨h1, h2⟩

/-- Below: a number from 0 to n - 1. -/
theorem below_any (x n : Int) (w : World) (hn : 1 ≤ n) (hn' : n ≤ 4611686018427387904) :
    Calls Tryz.prog 64 #[.int .i64 x, .int .i64 n] w fun e w' => (∃ r : Int, 0 ≤ r ∧ r < n ∧ e = .returned (.int .i64 r)) ∧ w = w' := by
  have ht := tmod_lt x n hn
  go_enter Tryz.func64, Tryz.ntmps64
  go_wp2
  · have h : x.tmod n < 0 := by assumption
    go_ret
    refine ⟨⟨x.tmod n + n, by omega, by omega, ?_⟩, rfl⟩
    first | rfl | rw [show wrap64 (x.tmod n + n) = x.tmod n + n from by unfold wrap64; omega]
  · have h : 0 ≤ x.tmod n := by assumption
    go_ret
    exact ⟨⟨x.tmod n, by omega, by omega, rfl⟩, rfl⟩

/-- The stream at block sb, of which t numbers have been taken: what its two cells hold, and that its numbers can be read. -/
structure Strm (w : World) (sb : Nat) (t : Nat) : Prop where
  c1 : w.cell? ⟨sb, 1, none⟩ = some (.int .i64 (t : Int))
  f1 : w.frozen? ⟨sb, 1, none⟩ = false
  c0 : ∃ (a : Option Addr) (len cap : Nat), w.cell? ⟨sb, 0, none⟩ = some (.slice a len cap) ∧ len ≤ 140737488355328 ∧
    (0 < len → ∃ b off, a = some ⟨b, off, none⟩ ∧ b < sb ∧ ∀ k, k < len → ∃ z : Int, w.cell? ⟨b, off + k, none⟩ = some (.int .i64 z) ∧ -9223372036854775808 ≤ z ∧ z ≤ 9223372036854775807)

theorem Strm.kept {w w' : World} {sb t : Nat} (h : Strm w sb t) (hk : ∀ b, b ≤ sb → w'.heap[b]? = w.heap[b]?) : Strm w' sb t := by
  obtain ⟨c1, f1, a, len, cap, c0, hlen, hrow⟩ := h
  refine ⟨(World.cell?_of_block (hk sb (Nat.le_refl _))).trans c1, (World.frozen?_of_block (a := ⟨sb, 1, none⟩) (hk sb (Nat.le_refl _))).trans f1, a, len, cap, (World.cell?_of_block (hk sb (Nat.le_refl _))).trans c0, hlen, fun h0 => ?_⟩
  obtain ⟨b, off, e, hb, hz⟩ := hrow h0
  refine ⟨b, off, e, hb, fun k hk' => ?_⟩
  obtain ⟨z, hz1, hz2⟩ := hz k hk'
  exact ⟨z, (World.cell?_of_block (a := ⟨b, off + k, none⟩) (hk b (by omega))).trans hz1, hz2⟩

theorem Strm.lt {w : World} {sb t : Nat} (h : Strm w sb t) : sb < w.heap.size := World.block_lt_of_cell? w ⟨sb, 1, none⟩ h.c1

theorem Strm.below {w w' : World} {sb t B : Nat} (h : Strm w sb t) (hb : Below B w w') (hB : sb < B) : Strm w' sb t := h.kept fun b hb' => hb.block b (by omega)

theorem Strm.alloc {w : World} {sb t : Nat} (h : Strm w sb t) (o : Obj) : Strm (w.alloc o) sb t := h.kept fun b hb => Below.heap_alloc w o b (by have := h.lt; omega)

/-- The stream at sb has gone on from t, by at most K; all other blocks are as they were. -/
def Ran (sb t K : Nat) (w w' : World) : Prop := w.grownBy w' (some sb) ∧ ∃ t', t ≤ t' ∧ t' ≤ t + K ∧ Strm w' sb t'

theorem Ran.strm {sb t K : Nat} {w w' : World} (h : Ran sb t K w w') : ∃ t', t ≤ t' ∧ t' ≤ t + K ∧ Strm w' sb t' := h.2
theorem Ran.mono {sb t K K' : Nat} {w w' : World} (h : Ran sb t K w w') (hK : K ≤ K') : Ran sb t K' w w' := by
  obtain ⟨h1, t', a, b, c⟩ := h
  exact ⟨h1, t', a, by omega, c⟩
theorem Ran.below {sb t K : Nat} {w w' : World} (h : Ran sb t K w w') (hlt : sb ≤ w.heap.size) : Below sb w w' :=
  ⟨h.1.os, h.1.tape, h.1.output, h.1.size, fun k hk => h.1.block k (by omega) (fun e => by have := Option.some.inj e; omega)⟩
theorem Ran.cell {sb t K : Nat} {w w' : World} (h : Ran sb t K w w') {a : Addr} {v : Value} (hc : w.cell? a = some v) (hne : a.block ≠ sb) : w'.cell? a = some v :=
  h.1.cell hc (fun e => hne (Option.some.inj e))
theorem Ran.refl {sb t : Nat} {w : World} (h : Strm w sb t) : Ran sb t 0 w w := ⟨World.grownBy.refl _ _, t, Nat.le_refl _, by omega, h⟩
theorem Ran.trans {sb t t' K K' : Nat} {a b c : World} (h : a.grownBy b (some sb)) (ht : t ≤ t') (ht' : t' ≤ t + K) (k : Ran sb t' K' b c) : Ran sb t (K + K') a c := by
  obtain ⟨k1, t2, x, y, z⟩ := k
  exact ⟨h.trans k1, t2, by omega, by omega, z⟩
theorem Ran.alloc {sb t K : Nat} {w w' : World} (h : Ran sb t K w w') (o : Obj) : Ran sb t K w (w'.alloc o) := by
  obtain ⟨h1, t', x, y, z⟩ := h
  exact ⟨h1.trans (World.grownBy_alloc _ _ _), t', x, y, z.alloc o⟩
theorem Ran.after_alloc {sb t K : Nat} {w w' : World} {o : Obj} (h : Ran sb t K (w.alloc o) w') : Ran sb t K w w' := by
  obtain ⟨h1, t', x, y, z⟩ := h
  exact ⟨(World.grownBy_alloc _ _ _).trans h1, t', x, y, z⟩

theorem Ran.tick {sb t : Nat} {w : World} (h : Strm w sb t) (q : Nat) : Ran sb t 1 w ((w.setCell ⟨sb, 1, none⟩ (.int .i64 ((t : Int) + 1))).drewN q) := by
  refine ⟨⟨rfl, rfl, rfl, by simp [World.setCell, World.drewN], fun k hk hne => ?_⟩, t + 1, by omega, by omega, ?_⟩
  · exact Below.heap_setCell w ⟨sb, 1, none⟩ _ k (fun e => hne (by rw [e]))
  · obtain ⟨c1, f1, a, len, cap, c0, hlen, hrow⟩ := h
    refine ⟨?_, ?_, a, len, cap, ?_, hlen, fun h0 => ?_⟩
    · rw [World.cell?_drewN, World.cell?_setCell_same _ _ _ c1]; rfl
    · rw [World.frozen?_drewN, World.frozen?_setCell]; exact f1
    · rw [World.cell?_drewN, World.cell?_setCell_other _ _ _ _ (by simp)]; exact c0
    · obtain ⟨b, off, e, hb, hz⟩ := hrow h0
      refine ⟨b, off, e, hb, fun k hk => ?_⟩
      obtain ⟨z, hz1, hz2⟩ := hz k hk
      exact ⟨z, by rw [World.cell?_drewN, World.cell?_setCell_other _ _ _ _ (by simp; try omega)]; exact hz1, hz2⟩

theorem next_raw (sb t : Nat) (n : Int) (w : World) (hs : Strm w sb t) (ht : t ≤ 1048576) (hn : 1 ≤ n) (hn' : n ≤ 4611686018427387904) :
    Calls Tryz.prog 26 #[.pointer (some ⟨sb, 0, none⟩), .int .i64 n] w fun e w' => (∃ r : Int, 0 ≤ r ∧ r < n ∧ e = .returned (.int .i64 r)) ∧ ∃ q, w' = (w.setCell ⟨sb, 1, none⟩ (.int .i64 ((t : Int) + 1))).drewN q := by
  obtain ⟨c1, f1, a, len, cap, c0, hlen, hrow⟩ := hs
  by_cases h0 : len = 0
  · subst h0
    go_enter Tryz.func26, Tryz.ntmps26
    go_wp2_with fail
    refine (below_any _ _ _ hn hn').mono ?_
    rintro e w' ⟨⟨r, h1, h2, rfl⟩, rfl⟩
    go_wp2
    go_ret
    exact ⟨⟨r, h1, h2, rfl⟩, 0, rfl⟩
  · obtain ⟨b, off, rfl, hb, hz⟩ := hrow (by omega)
    have hbs : b ≠ sb := by omega
    have hl0 : ((len : Int) == 0) = false := by simpa using h0
    have hm1 : 0 ≤ (t : Int) % (len : Int) := Int.emod_nonneg _ (by omega)
    have hm2 : (t : Int) % (len : Int) < (len : Int) := Int.emod_lt_of_pos _ (by omega)
    obtain ⟨z, hcell, _, _⟩ := hz (t % len) (Nat.mod_lt _ (by omega))
    clear hz hrow
    go_enter Tryz.func26, Tryz.ntmps26
    go_wp2_with fail
    go_quiet (fail)
    go_wp2_with fail
    go_quiet (fail)
    go_wp2_with fail
    refine (below_any _ 1073741824 _ (by decide) (by decide)).mono ?_
    rintro e w' ⟨⟨r1, h1, h2, rfl⟩, rfl⟩
    go_wp2_with fail
    refine (below_any _ _ _ hn hn').mono ?_
    rintro e w' ⟨⟨r, h3, h4, rfl⟩, rfl⟩
    go_wp2
    go_ret
    exact ⟨⟨r, h3, h4, rfl⟩, _, rfl⟩

/-- Next: a number from 0 to n - 1; the stream has gone on by one. -/
theorem next_any (sb t : Nat) (n : Int) (w : World) (hs : Strm w sb t) (ht : t ≤ 1048576) (hn : 1 ≤ n) (hn' : n ≤ 4611686018427387904) :
    Calls Tryz.prog 26 #[.pointer (some ⟨sb, 0, none⟩), .int .i64 n] w fun e w' => (∃ r : Int, 0 ≤ r ∧ r < n ∧ e = .returned (.int .i64 r)) ∧ Ran sb t 1 w w' :=
  (next_raw sb t n w hs ht hn hn').mono fun _ _ ⟨h1, q, h2⟩ => ⟨h1, h2 ▸ Ran.tick hs q⟩

/-- Pick: one of the numbers. -/
theorem pick_any (sb t lb lo n cap : Nat) (xs : Nat → Int) (w : World) (hs : Strm w sb t) (ht : t ≤ 1048576) (hn : 1 ≤ n) (hn' : n ≤ 1048576) (hlb : lb ≠ sb) (hx : ∀ k, k < n → w.cell? ⟨lb, lo + k, none⟩ = some (.int .i64 (xs k))) :
    Calls Tryz.prog 14 #[.pointer (some ⟨sb, 0, none⟩), .slice (some ⟨lb, lo, none⟩) n cap] w fun e w' => (∃ k, k < n ∧ e = .returned (.int .i64 (xs k))) ∧ Ran sb t 1 w w' := by
  go_enter Tryz.func14, Tryz.ntmps14
  go_wp2_with fail
  refine (next_any sb t _ _ hs ht (by omega) (by omega)).mono ?_
  rintro e w1 ⟨⟨r, h1, h2, rfl⟩, hr⟩
  have hc := hr.cell (hx r.toNat (by omega)) hlb
  clear hx
  go_wp2_with fail
  go_ret
  exact ⟨⟨r.toNat, by omega, rfl⟩, hr⟩

/-- Some: one of the strings. -/
theorem some_any (sb t lb lo n cap : Nat) (xs : Nat → ByteArray) (w : World) (hs : Strm w sb t) (ht : t ≤ 1048576) (hn : 1 ≤ n) (hn' : n ≤ 1048576) (hlb : lb ≠ sb) (hx : ∀ k, k < n → w.cell? ⟨lb, lo + k, none⟩ = some (.string (xs k))) :
    Calls Tryz.prog 92 #[.pointer (some ⟨sb, 0, none⟩), .slice (some ⟨lb, lo, none⟩) n cap] w fun e w' => (∃ k, k < n ∧ e = .returned (.string (xs k))) ∧ Ran sb t 1 w w' := by
  go_enter Tryz.func92, Tryz.ntmps92
  go_wp2_with fail
  refine (next_any sb t _ _ hs ht (by omega) (by omega)).mono ?_
  rintro e w1 ⟨⟨r, h1, h2, rfl⟩, hr⟩
  have hc := hr.cell (hx r.toNat (by omega)) hlb
  clear hx
  go_wp2_with fail
  go_ret
  exact ⟨⟨r.toNat, by omega, rfl⟩, hr⟩

/-- Flip: a truth value. -/
theorem flip_any (sb t : Nat) (n : Int) (w : World) (hs : Strm w sb t) (ht : t ≤ 1048576) (hn : 1 ≤ n) (hn' : n ≤ 4611686018427387904) :
    Calls Tryz.prog 91 #[.pointer (some ⟨sb, 0, none⟩), .int .i64 n] w fun e w' => (∃ b : Bool, e = .returned (.bool b)) ∧ Ran sb t 1 w w' := by
  go_enter Tryz.func91, Tryz.ntmps91
  go_wp2_with fail
  refine (next_any sb t _ _ hs ht hn hn').mono ?_
  rintro e w1 ⟨⟨r, h1, h2, rfl⟩, hr⟩
  go_wp2_with fail
  go_ret
  exact ⟨⟨_, rfl⟩, hr⟩

/-- Range: a number from low to high. -/
theorem range_any (sb t : Nat) (low high : Int) (w : World) (hs : Strm w sb t) (ht : t ≤ 1048576) (h0 : -1048576 ≤ low) (h1 : low ≤ high) (h2 : high ≤ 1048576) :
    Calls Tryz.prog 7 #[.pointer (some ⟨sb, 0, none⟩), .int .i64 low, .int .i64 high] w fun e w' => (∃ r : Int, low ≤ r ∧ r ≤ high ∧ e = .returned (.int .i64 r)) ∧ Ran sb t 1 w w' := by
  go_enter Tryz.func7, Tryz.ntmps7
  go_wp2_with fail
  refine (next_any sb t _ _ hs ht (by omega) (by omega)).mono ?_
  rintro e w1 ⟨⟨r, h3, h4, rfl⟩, hr⟩
  go_wp2_with fail
  go_ret
  exact ⟨⟨low + r, by omega, by omega, rfl⟩, hr⟩
end Go.Proofs.YtoipgliokelcfaaGreatDoor
