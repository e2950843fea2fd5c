/- Devices that the stream makes: what lies in memory while they are made. -/
import Derived.Test.YthcakdminnmjoaaGreatDoorFmt
import Derived.Test.YthcakdminnmjoaaGreatDoorDevsFault
import Derived.Laws.OwnMore
import Derived.Deep.AppendLies
namespace Go.Proofs.YthcakdminnmjoaaGreatDoor
open Go.RowKit Go.Maps

/-- Cells of registers: names and numbers in turn. -/
def RegL (xs : List Value) : Prop := ∀ j, j < xs.length → (j % 2 = 0 → ∃ s : ByteArray, xs[j]? = some (.string s) ∧ s.size ≤ 1048576) ∧ (j % 2 = 1 → ∃ z : Int, xs[j]? = some (.int .i64 z))
/-- Cells of instructions. -/
def InsL (xs : List Value) : Prop := ∀ j, j < xs.length → ∃ s : ByteArray, xs[j]? = some (.string s) ∧ s.size ≤ 1048576
theorem RegL.nil : RegL [] := fun j hj => absurd hj (Nat.not_lt_zero j)
theorem InsL.nil : InsL [] := fun j hj => absurd hj (Nat.not_lt_zero j)
theorem RegL.push {xs : List Value} (h : RegL xs) (he : xs.length % 2 = 0) {s : ByteArray} (hs : s.size ≤ 1048576) (z : Int) : RegL (xs ++ [.string s, .int .i64 z]) := by
  intro j hj
  simp at hj
  by_cases h1 : j < xs.length
  · rw [List.getElem?_append_left h1]
    exact h j h1
  · rw [List.getElem?_append_right (by omega)]
    by_cases e : j = xs.length
    · rw [e, Nat.sub_self]
      exact ⟨fun _ => ⟨s, rfl, hs⟩, fun h2 => by omega⟩
    · have e2 : j - xs.length = 1 := by omega
      rw [e2]
      exact ⟨fun h2 => by omega, fun _ => ⟨z, rfl⟩⟩
theorem InsL.push {xs : List Value} (h : InsL xs) {s s2 : ByteArray} (hs : s.size ≤ 1048576) (hs2 : s2.size ≤ 1048576) : InsL (xs ++ [.string s, .string s2]) := by
  intro j hj
  simp at hj
  by_cases h1 : j < xs.length
  · rw [List.getElem?_append_left h1]
    exact h j h1
  · rw [List.getElem?_append_right (by omega)]
    by_cases e : j = xs.length
    · rw [e, Nat.sub_self]
      exact ⟨s, rfl, hs⟩
    · have e2 : j - xs.length = 1 := by omega
      rw [e2]
      exact ⟨s2, rfl, hs2⟩

def txtOf : Value → ByteArray
  | .string s => s
  | _ => ⟨#[]⟩
def nrOf : Value → Int
  | .int _ z => z
  | _ => 0
def regsOf (xs : List Value) (n : Nat) : Regs := ⟨n, fun k => txtOf (xs.getD (k * 2) (.bool false)), fun k => nrOf (xs.getD (k * 2 + 1) (.bool false))⟩
def inssOf (xs : List Value) (n : Nat) : Inss := ⟨n, fun k => txtOf (xs.getD (k * 2) (.bool false)), fun k => txtOf (xs.getD (k * 2 + 1) (.bool false))⟩

theorem regs_at {w : World} {base n : Nat} {a : Option Addr} {cap : Nat} {xs : List Value} (h : w.ownsRow base 51 2 (.slice a n cap) n xs) (hx : RegL xs) (hn : n ≤ 1000) : RegsAt w.heap.size w a (regsOf xs n) := by
  refine ⟨hn, fun h0 => ?_⟩
  obtain ⟨g, cap', e, hg, hl⟩ := h.form h0
  cases e
  refine ⟨g, 0, rfl, hl, fun k hk => ?_⟩
  have hk : k < n := hk
  have hlen := h.1
  obtain ⟨s, hs, hz⟩ := (hx (k * 2) (by omega)).1 (by omega)
  obtain ⟨z, hz2⟩ := (hx (k * 2 + 1) (by omega)).2 (by omega)
  have e1 : (regsOf xs n).name k = s := by
    show txtOf (xs.getD (k * 2) _) = s
    rw [List.getD_eq_getElem?_getD, hs]
    rfl
  have e2 : (regsOf xs n).long k = z := by
    show nrOf (xs.getD (k * 2 + 1) _) = z
    rw [List.getD_eq_getElem?_getD, hz2]
    rfl
  rw [e1, e2, Nat.zero_add]
  exact ⟨(h.cellAt (k * 2) (by omega)).trans hs, (h.cellAt (k * 2 + 1) (by omega)).trans hz2, hz⟩
theorem inss_at {w : World} {base n : Nat} {a : Option Addr} {cap : Nat} {xs : List Value} (h : w.ownsRow base 56 2 (.slice a n cap) n xs) (hx : InsL xs) (hn : n ≤ 1000) : InsAt w.heap.size w a (inssOf xs n) := by
  refine ⟨hn, fun h0 => ?_⟩
  obtain ⟨g, cap', e, hg, hl⟩ := h.form h0
  cases e
  refine ⟨g, 0, rfl, hl, fun k hk => ?_⟩
  have hk : k < n := hk
  have hlen := h.1
  obtain ⟨s, hs, hz⟩ := hx (k * 2) (by omega)
  obtain ⟨s2, hs2, hz2⟩ := hx (k * 2 + 1) (by omega)
  have e1 : (inssOf xs n).code k = s := by
    show txtOf (xs.getD (k * 2) _) = s
    rw [List.getD_eq_getElem?_getD, hs]
    rfl
  have e2 : (inssOf xs n).reg k = s2 := by
    show txtOf (xs.getD (k * 2 + 1) _) = s2
    rw [List.getD_eq_getElem?_getD, hs2]
    rfl
  rw [e1, e2, Nat.zero_add]
  exact ⟨(h.cellAt (k * 2) (by omega)).trans hs, (h.cellAt (k * 2 + 1) (by omega)).trans hs2, hz, hz2⟩

/-- A block that is told whole. -/
theorem cell_of {w : World} {b : Nat} {cs : Array Value} {t : TypeId} (h : w.heap[b]? = some (.cells cs t)) {j : Nat} {u : Value} (hj : cs[j]? = some u) : w.cell? ⟨b, j, none⟩ = some u := by
  unfold World.cell?
  simp only [h]
  simpa using hj
theorem frozen_of {w : World} {b : Nat} {cs : Array Value} {t : TypeId} (h : w.heap[b]? = some (.cells cs t)) (j : Nat) : w.frozen? ⟨b, j, none⟩ = false := by
  unfold World.frozen?
  simp only [h]
  simp
theorem blk_lt {w : World} {b : Nat} {o : Obj} (h : w.heap[b]? = some o) : b < w.heap.size := (Array.getElem?_eq_some_iff.1 h).1
theorem blk_set {w : World} {b j : Nat} {cs : Array Value} {t : TypeId} (h : w.heap[b]? = some (.cells cs t)) (u : Value) : (w.setCell ⟨b, j, none⟩ u).heap[b]? = some (.cells (cs.setIfInBounds j u) t) := by
  have hl := blk_lt h
  have e : w.heap[b] = .cells cs t := by
    have := Array.getElem?_eq_getElem hl
    rw [h] at this
    exact (Option.some.inj this).symm
  unfold World.setCell
  simp [Array.getElem_modify, hl, e]
/-- A row's block is none of another type. -/
theorem row_ne {w : World} {base e size n b : Nat} {v : Value} {xs : List Value} {cs : Array Value} {t : TypeId} (h : w.ownsRow base e size v n xs) (hb : w.heap[b]? = some (.cells cs t)) (hne : t ≠ e) : v.ownBlock ≠ some b := by
  intro e1
  obtain ⟨_, ⟨rfl, _⟩ | ⟨g, cap, cur, rfl, hg, hh, _⟩⟩ := h
  · simp [Value.ownBlock] at e1
  · have e2 : g = b := by simpa [Value.ownBlock] using e1
    subst e2
    rw [hb] at hh
    simp at hh
    exact hne hh.2
theorem row_any {w w' : World} {base e size n : Nat} {v : Value} {xs : List Value} (h : w.ownsRow base e size v n xs) (hb : ∀ g, v.ownBlock = some g → w'.heap[g]? = w.heap[g]?) : w'.ownsRow base e size v n xs := by
  obtain ⟨hl, h2⟩ := h
  refine ⟨hl, ?_⟩
  rcases h2 with h2 | ⟨g, cap, cur, rfl, hg, hh, r⟩
  · exact .inl h2
  · exact .inr ⟨g, cap, cur, rfl, hg, by rw [hb g rfl]; exact hh, r⟩
theorem Ran.setCell {sb t K : Nat} {w w' : World} (h : Ran sb t K w w') {a : Addr} (ha : w.heap.size ≤ a.block) (hlt : sb < w.heap.size) (v : Value) : Ran sb t K w (w'.setCell a v) := by
  obtain ⟨hg, t', h1, h2, hs⟩ := h
  refine ⟨⟨hg.os, hg.tape, hg.output, ?_, fun k hk hne => ?_⟩, t', h1, h2, hs.kept fun b hb => Below.heap_setCell _ _ _ b (by omega)⟩
  · simpa [World.setCell] using hg.size
  · exact (Below.heap_setCell _ _ _ k (by omega)).trans (hg.block k hk hne)
theorem Ran.grown {sb t K : Nat} {w w' w2 : World} (h : Ran sb t K w w') {row : Option Nat} (hg : w'.grownBy w2 row) (hr : ∀ g, row = some g → w.heap.size ≤ g) (hlt : sb < w.heap.size) : Ran sb t K w w2 := by
  obtain ⟨hg1, t', h1, h2, hs⟩ := h
  have hl := hs.lt
  refine ⟨⟨hg.os.trans hg1.os, hg.tape.trans hg1.tape, hg.output.trans hg1.output, Nat.le_trans hg1.size hg.size, fun k hk hne => ?_⟩, t', h1, h2, hs.kept fun b hb => hg.block b (by omega) (fun e => by have := hr b e.symm; omega)⟩
  exact (hg.block k (Nat.lt_of_lt_of_le hk hg1.size) (fun e => by have := hr k e.symm; omega)).trans (hg1.block k hk hne)

/-- The variable of a device that is being made. -/
structure DVar (sb t K : Nat) (Wk : World) (db : Nat) (name : ByteArray) (long id : Int) (v u : Value) (rn inn : Nat) (W : World) : Prop where
  lt : sb < Wk.heap.size
  ran : Ran sb t K Wk W
  up : Wk.heap.size ≤ db
  blk : W.heap[db]? = some (.cells #[.string name, .int .i64 long, .int .i64 id, v, u] 49)
  nz : name.size ≤ 1048576
  regs : ∃ xs, W.ownsRow Wk.heap.size 51 2 v rn xs ∧ RegL xs
  ins : ∃ ys, W.ownsRow Wk.heap.size 56 2 u inn ys ∧ InsL ys

section
variable {sb t K : Nat} {Wk : World} {db : Nat} {name : ByteArray} {long id : Int} {v u : Value} {rn inn : Nat} {W : World}
theorem DVar.cells (h : DVar sb t K Wk db name long id v u rn inn W) : W.cell? ⟨db, 0, none⟩ = some (.string name) ∧ W.cell? ⟨db, 1, none⟩ = some (.int .i64 long) ∧ W.cell? ⟨db, 2, none⟩ = some (.int .i64 id) ∧ W.cell? ⟨db, 3, none⟩ = some v ∧ W.cell? ⟨db, 4, none⟩ = some u ∧ ∀ j, W.frozen? ⟨db, j, none⟩ = false :=
  ⟨cell_of h.blk rfl, cell_of h.blk rfl, cell_of h.blk rfl, cell_of h.blk rfl, cell_of h.blk rfl, frozen_of h.blk⟩
theorem DVar.kept {K' : Nat} {W' : World} (h : DVar sb t K Wk db name long id v u rn inn W) (hr : Ran sb t K' Wk W') (hb : ∀ b, b < W.heap.size → b ≠ sb → W'.heap[b]? = W.heap[b]?) : DVar sb t K' Wk db name long id v u rn inn W' := by
  obtain ⟨xs, h1, h2⟩ := h.regs
  obtain ⟨ys, h3, h4⟩ := h.ins
  have hlt := h.lt
  have hup := h.up
  exact { h with
    ran := hr
    blk := (hb db (blk_lt h.blk) (by omega)).trans h.blk
    regs := ⟨xs, row_any h1 (fun g hg => hb g (h1.lt g hg).2 (by have := (h1.lt g hg).1; omega)), h2⟩
    ins := ⟨ys, row_any h3 (fun g hg => hb g (h3.lt g hg).2 (by have := (h3.lt g hg).1; omega)), h4⟩ }
theorem DVar.later {t' K' : Nat} {W' : World} (h : DVar sb t K Wk db name long id v u rn inn W) (ht : t ≤ t') (ht' : t' ≤ t + K) (hr : Ran sb t' K' W W') : DVar sb t (K + K') Wk db name long id v u rn inn W' :=
  h.kept (h.ran.then ht ht' hr) (fun b hb hne => hr.1.block b hb (fun e => hne (Option.some.inj e)))
theorem DVar.alloc (h : DVar sb t K Wk db name long id v u rn inn W) (o : Obj) : DVar sb t K Wk db name long id v u rn inn (W.alloc o) := h.kept (h.ran.alloc o) (fun b hb _ => Below.heap_alloc W o b hb)
theorem DVar.below {W' : World} (h : DVar sb t K Wk db name long id v u rn inn W) (hB : Below W.heap.size W W') : DVar sb t K Wk db name long id v u rn inn W' := h.kept (h.ran.then_below hB) (fun b hb _ => hB.block b hb)
theorem DVar.mono {K' : Nat} (h : DVar sb t K Wk db name long id v u rn inn W) (hK : K ≤ K') : DVar sb t K' Wk db name long id v u rn inn W := { h with ran := h.ran.mono hK }
theorem DVar.drew (h : DVar sb t K Wk db name long id v u rn inn W) : DVar sb t K Wk db name long id v u rn inn W.drew := by
  have hlt := h.lt
  exact h.kept (by
    obtain ⟨hg, t', h1, h2, hs⟩ := h.ran
    exact ⟨⟨hg.os, hg.tape, hg.output, hg.size, hg.block⟩, t', h1, h2, hs.kept fun _ _ => rfl⟩) (fun _ _ _ => rfl)
/-- A register more. -/
theorem DVar.pushR {w4 : World} {xs : List Value} {g cap : Nat} {s : ByteArray} {z : Int} (h : DVar sb t K Wk db name long id v u rn inn W) (h1 : W.ownsRow Wk.heap.size 51 2 v rn xs) (h2 : RegL xs) (hs : s.size ≤ 1048576) (hown : w4.ownsRow Wk.heap.size 51 2 (.slice (some ⟨g, 0, none⟩) (rn + 1) cap) (rn + 1) (xs ++ [.string s, .int .i64 z])) (hg : W.grownBy w4 v.ownBlock) : DVar sb t K Wk db name long id (.slice (some ⟨g, 0, none⟩) (rn + 1) cap) u (rn + 1) inn (w4.setCell ⟨db, 3, none⟩ (.slice (some ⟨g, 0, none⟩) (rn + 1) cap)) := by
  have hlt := h.lt
  have hup := h.up
  obtain ⟨ys, h3, h4⟩ := h.ins
  have hvb := fun x hx => (h1.lt x hx).1
  have hne := row_ne h1 h.blk (by decide)
  have hb4 : w4.heap[db]? = some (.cells #[.string name, .int .i64 long, .int .i64 id, v, u] 49) := (hg.block db (blk_lt h.blk) (Ne.symm hne)).trans h.blk
  have hu : ∀ x, u.ownBlock = some x → w4.heap[x]? = W.heap[x]? := fun x hx => hg.block x (h3.lt x hx).2 (fun e => by
    obtain ⟨_, ⟨rfl, _⟩ | ⟨g2, cap2, cur2, rfl, _, hh2, _⟩⟩ := h3
    · simp [Value.ownBlock] at hx
    · have e2 : g2 = x := by simpa [Value.ownBlock] using hx
      subst e2
      exact row_ne h1 hh2 (by decide) e.symm)
  have hg2 : g ≠ db := fun e => row_ne hown hb4 (by decide) (by rw [← e]; rfl)
  exact { h with
    ran := (h.ran.grown hg hvb hlt).setCell hup hlt _
    blk := (blk_set hb4 _).trans rfl
    regs := ⟨_, row_any hown (fun g' hg' => Below.heap_setCell _ _ _ g' (by
      have e : g = g' := by simpa [Value.ownBlock] using hg'
      rw [← e]
      exact hg2)), h2.push (by have := h1.1; omega) hs z⟩
    ins := ⟨ys, row_any h3 (fun g' hg' => (Below.heap_setCell _ _ _ g' (fun e => row_ne h3 h.blk (by decide) (by rw [hg', e]))).trans (hu g' hg')), h4⟩ }
/-- An instruction more. -/
theorem DVar.pushI {w4 : World} {ys : List Value} {g cap : Nat} {s s2 : ByteArray} (h : DVar sb t K Wk db name long id v u rn inn W) (h1 : W.ownsRow Wk.heap.size 56 2 u inn ys) (h2 : InsL ys) (hs : s.size ≤ 1048576) (hs2 : s2.size ≤ 1048576) (hown : w4.ownsRow Wk.heap.size 56 2 (.slice (some ⟨g, 0, none⟩) (inn + 1) cap) (inn + 1) (ys ++ [.string s, .string s2])) (hg : W.grownBy w4 u.ownBlock) : DVar sb t K Wk db name long id v (.slice (some ⟨g, 0, none⟩) (inn + 1) cap) rn (inn + 1) (w4.setCell ⟨db, 4, none⟩ (.slice (some ⟨g, 0, none⟩) (inn + 1) cap)) := by
  have hlt := h.lt
  have hup := h.up
  obtain ⟨xs, h3, h4⟩ := h.regs
  have hvb := fun x hx => (h1.lt x hx).1
  have hne := row_ne h1 h.blk (by decide)
  have hb4 : w4.heap[db]? = some (.cells #[.string name, .int .i64 long, .int .i64 id, v, u] 49) := (hg.block db (blk_lt h.blk) (Ne.symm hne)).trans h.blk
  have hu : ∀ x, v.ownBlock = some x → w4.heap[x]? = W.heap[x]? := fun x hx => hg.block x (h3.lt x hx).2 (fun e => by
    obtain ⟨_, ⟨rfl, _⟩ | ⟨g2, cap2, cur2, rfl, _, hh2, _⟩⟩ := h3
    · simp [Value.ownBlock] at hx
    · have e2 : g2 = x := by simpa [Value.ownBlock] using hx
      subst e2
      exact row_ne h1 hh2 (by decide) e.symm)
  have hg2 : g ≠ db := fun e => row_ne hown hb4 (by decide) (by rw [← e]; rfl)
  exact { h with
    ran := (h.ran.grown hg hvb hlt).setCell hup hlt _
    blk := (blk_set hb4 _).trans rfl
    ins := ⟨_, row_any hown (fun g' hg' => Below.heap_setCell _ _ _ g' (by
      have e : g = g' := by simpa [Value.ownBlock] using hg'
      rw [← e]
      exact hg2)), h2.push hs hs2⟩
    regs := ⟨xs, row_any h3 (fun g' hg' => (Below.heap_setCell _ _ _ g' (fun e => row_ne h3 h.blk (by decide) (by rw [hg', e]))).trans (hu g' hg')), h4⟩ }
end
end Go.Proofs.YthcakdminnmjoaaGreatDoor
