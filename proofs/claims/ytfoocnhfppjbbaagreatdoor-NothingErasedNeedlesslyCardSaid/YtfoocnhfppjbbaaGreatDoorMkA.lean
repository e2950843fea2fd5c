/- Makers of numbers: what a stream leaves, rows of numbers. -/
import Derived.Test.YtfoocnhfppjbbaaGreatDoorM8
import Derived.Deep.RegionLaw
import Derived.Deep.AppendLies
import Derived.Deep.RegionHeld3
namespace Go.Proofs.YtfoocnhfppjbbaaGreatDoor
open Go.RowKit

theorem Ran.then {sb t t' K K' : Nat} {a b c : World} (h : Ran sb t K a b) (ht : t ≤ t') (ht' : t' ≤ t + K) (k : Ran sb t' K' b c) : Ran sb t (K + K') a c := Ran.trans h.1 ht ht' k
theorem Ran.then_below {sb t K : Nat} {w w1 w2 : World} (h : Ran sb t K w w1) (hb : Below w1.heap.size w1 w2) : Ran sb t K w w2 := by
  obtain ⟨hg, t', a, b, hs⟩ := h
  exact ⟨hg.trans ⟨hb.os, hb.tape, hb.output, hb.size, fun k hk _ => hb.block k hk⟩, t', a, b, hs.below hb hs.lt⟩
theorem Ran.setCell {sb t K : Nat} {w w' : World} (h : Ran sb t K w w') {a : Addr} (ha : w.heap.size ≤ a.block) (hlt : sb < w.heap.size) (v : Value) : Ran sb t K w (w'.setCell a v) := by
  obtain ⟨hg, t', h1, h2, hs⟩ := h
  refine ⟨⟨hg.os, hg.tape, hg.output, ?_, fun k hk hne => ?_⟩, t', h1, h2, hs.kept fun b hb => Below.heap_setCell _ _ _ b (by omega)⟩
  · simpa [World.setCell] using hg.size
  · exact (Below.heap_setCell _ _ _ k (by omega)).trans (hg.block k hk hne)
theorem Ran.grown {sb t K : Nat} {w w' w2 : World} (h : Ran sb t K w w') {row : Option Nat} (hg : w'.grownBy w2 row) (hr : ∀ g, row = some g → w.heap.size ≤ g) (hlt : sb < w.heap.size) : Ran sb t K w w2 := by
  obtain ⟨hg1, t', h1, h2, hs⟩ := h
  have hl := hs.lt
  refine ⟨⟨hg.os.trans hg1.os, hg.tape.trans hg1.tape, hg.output.trans hg1.output, Nat.le_trans hg1.size hg.size, fun k hk hne => ?_⟩, t', h1, h2, hs.kept fun b hb => hg.block b (by omega) (fun e => by have := hr b e.symm; omega)⟩
  exact (hg.block k (Nat.lt_of_lt_of_le hk hg1.size) (fun e => by have := hr k e.symm; omega)).trans (hg1.block k hk hne)
theorem Ran.undrew {sb t K : Nat} {w w' : World} (h : Ran sb t K w.drew w') : Ran sb t K w w' := ⟨⟨h.1.os, h.1.tape, h.1.output, h.1.size, h.1.block⟩, h.2⟩
theorem Ran.drew {sb t K : Nat} {w w' : World} (h : Ran sb t K w w') : Ran sb t K w w'.drew := by
  obtain ⟨g, t', x, y, z⟩ := h
  exact ⟨⟨g.os, g.tape, g.output, g.size, g.block⟩, t', x, y, z.kept fun _ _ => rfl⟩
theorem ran_frozen {sb t K : Nat} {w w' : World} (h : Ran sb t K w w') {b : Nat} (hb : b ≠ sb) (hl : b < w.heap.size) (j : Nat) {v : Bool} (hf : w.frozen? ⟨b, j, none⟩ = v) : w'.frozen? ⟨b, j, none⟩ = v := (World.frozen?_of_block (a := ⟨b, j, none⟩) (h.1.block b hl (fun e => hb (Option.some.inj e)))).trans hf
theorem Ran.size {sb t K : Nat} {w w' : World} (h : Ran sb t K w w') : w.heap.size ≤ w'.heap.size := h.1.size
theorem row_hold {w w' : World} {B : Nat} {e : TypeId} {size : Nat} {v : Value} {n : Nat} {xs : List Value} (h : w.ownsRow B e size v n xs) (hk : ∀ g, B ≤ g → g < w.heap.size → v.ownBlock = some g → w'.heap[g]? = w.heap[g]?) : w'.ownsRow B e size v n xs := by
  obtain ⟨h1, h2 | ⟨g, cap, cur, e1, e2, e3, e4⟩⟩ := h
  · exact ⟨h1, .inl h2⟩
  · exact ⟨h1, .inr ⟨g, cap, cur, e1, e2, (hk g e2 (Array.getElem?_eq_some_iff.1 e3).1 (by rw [e1]; rfl)).trans e3, e4⟩⟩
theorem row_ran {sb t K : Nat} {w w' : World} {B : Nat} {e : TypeId} {size : Nat} {v : Value} {n : Nat} {xs : List Value} (h : w.ownsRow B e size v n xs) (hr : Ran sb t K w w') (hB : sb < B) : w'.ownsRow B e size v n xs :=
  row_hold h fun g hg hlt _ => hr.1.block g hlt (fun e => by have := Option.some.inj e; omega)
/-- A row of n numbers that lies at or beyond B. -/
def IRow (B n : Nat) (w : World) (v : Value) : Prop := ∃ l : List Int, l.length = n ∧ w.ownsRow B 3 1 v n (l.map (Value.int .i64))
theorem IRow.nil (B : Nat) (w : World) : IRow B 0 w (.slice none 0 0) := ⟨[], rfl, World.ownsRow_nil _ _ _ _⟩
theorem IRow.form {B n : Nat} {w : World} {v : Value} (h : IRow B n w v) : ∃ a c, v = .slice a n c := by
  obtain ⟨l, -, -, ⟨e, h0⟩ | ⟨g, cap, cur, e, -⟩⟩ := h
  · exact ⟨Option.none, 0, by rw [e, h0]⟩
  · exact ⟨_, _, e⟩
theorem IRow.block {B n : Nat} {w : World} {v : Value} (h : IRow B n w v) (hn : 0 < n) : ∃ g c, v = .slice (some ⟨g, 0, none⟩) n c ∧ B ≤ g ∧ g < w.heap.size := by
  obtain ⟨l, -, hr⟩ := h
  obtain ⟨-, ⟨e, h0⟩ | ⟨g, cap, cur, e, h1, h2, -⟩⟩ := hr
  · omega
  · exact ⟨g, cap, e, h1, (Array.getElem?_eq_some_iff.1 h2).1⟩
theorem IRow.hold {B n : Nat} {w w' : World} {v : Value} (h : IRow B n w v) (hk : ∀ g, B ≤ g → g < w.heap.size → v.ownBlock = some g → w'.heap[g]? = w.heap[g]?) : IRow B n w' v := by
  obtain ⟨l, hl, hr⟩ := h
  exact ⟨l, hl, row_hold hr hk⟩
theorem IRow.ran {sb t K B n : Nat} {w w' : World} {v : Value} (h : IRow B n w v) (hr : Ran sb t K w w') (hB : sb < B) : IRow B n w' v := by
  obtain ⟨l, hl, hrow⟩ := h
  exact ⟨l, hl, row_ran hrow hr hB⟩
theorem IRow.below {B n : Nat} {w w' : World} {v : Value} (h : IRow B n w v) (hb : Below w.heap.size w w') : IRow B n w' v := h.hold fun g _ hl _ => hb.block g hl
theorem IRow.far {B n : Nat} {w : World} {v : Value} (h : IRow B n w v) {p : Addr} (hp : p.block < B) (z : Value) : IRow B n (w.setCell p z) v := h.hold fun g hg _ _ => Below.heap_setCell _ _ _ _ (by omega)
theorem IRow.mono {B B' n : Nat} {w : World} {v : Value} (h : IRow B n w v) (hB : B' ≤ B) : IRow B' n w v := by
  obtain ⟨l, hl, h1, h2 | ⟨g, cap, cur, e1, e2, e3⟩⟩ := h
  · exact ⟨l, hl, h1, .inl h2⟩
  · exact ⟨l, hl, h1, .inr ⟨g, cap, cur, e1, Nat.le_trans hB e2, e3⟩⟩
theorem IRow.put {B g c n i : Nat} {w : World} (h : IRow B n w (.slice (some ⟨g, 0, none⟩) n c)) (z : Int) : IRow B n (w.setCell ⟨g, i, none⟩ (.int .i64 z)) (.slice (some ⟨g, 0, none⟩) n c) := by
  obtain ⟨l, hl, hrow⟩ := h
  refine ⟨l.set i z, by simpa using hl, ?_⟩
  rw [List.map_set]
  exact (World.ownsRow.stored hrow i (.int .i64 z)).1
theorem IRow.cell {B g c n : Nat} {w : World} (h : IRow B n w (.slice (some ⟨g, 0, none⟩) n c)) {i : Nat} (hi : i < n) : ∃ x : Int, w.cell? ⟨g, i, none⟩ = some (.int .i64 x) ∧ w.frozen? ⟨g, i, none⟩ = false := by
  obtain ⟨l, hl, hrow⟩ := h
  refine ⟨l.getD i 0, ?_, hrow.frozenAt i⟩
  rw [hrow.cellAt i (by omega)]
  simp [show i < l.length by omega]
theorem IRow.nums {B n : Nat} {w : World} {v : Value} (h : IRow B n w v) : ∃ l : List Int, l.length = n ∧ NumsAt w v l ∧ Ahead B v := by
  obtain ⟨l, hl, h1, ⟨h2, h3⟩ | ⟨g, cap, cur, e1, e2, e3, e4, e5⟩⟩ := h
  · exact ⟨l, hl, ⟨none, 0, by rw [h2, hl, h3], by omega, fun h0 => by omega⟩, fun a n c hh => by rw [h2] at hh; cases hh⟩
  · have hrow : w.ownsRow B 3 1 (.slice (some ⟨g, 0, none⟩) n cap) n (l.map (Value.int .i64)) := ⟨h1, .inr ⟨g, cap, cur, rfl, e2, e3, e4, e5⟩⟩
    refine ⟨l, hl, ⟨some ⟨g, 0, none⟩, cap, by rw [e1, hl], by omega, fun _ => ⟨g, 0, rfl, (Array.getElem?_eq_some_iff.1 e3).1, fun j hj => ?_⟩⟩, fun a n' c hh => ?_⟩
    · rw [Nat.zero_add, hrow.cellAt j (by omega)]
      simp [hj]
    · rw [e1] at hh
      injection hh with x1
      injection x1 with x1
      rw [← x1]
      exact e2
theorem NumsAt.ran {sb t K B : Nat} {w w' : World} {v : Value} {l : List Int} (h : NumsAt w v l) (ha : Ahead B v) (hr : Ran sb t K w w') (hB : sb < B) : NumsAt w' v l := by
  obtain ⟨a, c, h1, h2, h3⟩ := h
  refine ⟨a, c, h1, h2, fun h0 => ?_⟩
  obtain ⟨g, o, rfl, h5, h6⟩ := h3 h0
  have hg : B ≤ g := ha _ _ _ h1
  exact ⟨g, o, rfl, Nat.lt_of_lt_of_le h5 hr.size, fun j hj => hr.cell (h6 j hj) (by show g ≠ sb; omega)⟩
theorem Tryz.infoInt1 : (Tryz.prog.info? 3).map (fun i => (i.zero, i.size, i.bytes)) = some (some (.int .i64 0), 1, 8) := by kernel_rfl
theorem cells_fresh (w : World) (l : List Int) (ty : TypeId) : ∀ k, k < l.length → (w.alloc (.cells (l.map (Value.int .i64)).toArray ty)).cell? ⟨w.heap.size, 0 + k, none⟩ = some (.int .i64 (l.getD k 0)) := by
  intro k hk
  rw [Nat.zero_add]
  refine cell_new1 _ _ _ ?_
  simp [hk]
end Go.Proofs.YtfoocnhfppjbbaaGreatDoor
