/- Devices whose cells turn: what is changed in place is a name or a number as before. -/
import Derived.Test.YthcakdminnmjoaaGreatDoorDvsA
namespace Go.Proofs.YthcakdminnmjoaaGreatDoor
open Go.RowKit Go.Maps

/-- A cell's value, and what may lie there later. -/
def SoftV (x y : Value) : Prop := y = x ∨ (∃ s s' : ByteArray, x = .string s ∧ y = .string s' ∧ (s.size ≤ 1048576 → s'.size ≤ 1048576)) ∨ ∃ z z' : Int, x = .int .i64 z ∧ y = .int .i64 z'
theorem SoftV.trans {x y z : Value} (h : SoftV x y) (k : SoftV y z) : SoftV x z := by
  rcases h with rfl | ⟨s, s', rfl, rfl, h1⟩ | ⟨a, b, rfl, rfl⟩
  · exact k
  · rcases k with rfl | ⟨u, u', e, rfl, h2⟩ | ⟨c, d, e, _⟩
    · exact .inr (.inl ⟨s, s', rfl, rfl, h1⟩)
    · cases e
      exact .inr (.inl ⟨s, u', rfl, rfl, fun h => h2 (h1 h)⟩)
    · cases e
  · rcases k with rfl | ⟨u, u', e, _, _⟩ | ⟨c, d, e, rfl⟩
    · exact .inr (.inr ⟨a, b, rfl, rfl⟩)
    · cases e
    · cases e
      exact .inr (.inr ⟨a, d, rfl, rfl⟩)
/-- The cells of all blocks but the stream's hold what they held, or another name or number. -/
def Soft (sb : Nat) (w w' : World) : Prop := w.heap.size ≤ w'.heap.size ∧ ∀ (b j : Nat) (x : Value), b ≠ sb → w.cell? ⟨b, j, none⟩ = some x → ∃ y, w'.cell? ⟨b, j, none⟩ = some y ∧ SoftV x y
theorem Soft.refl (sb : Nat) (w : World) : Soft sb w w := ⟨Nat.le_refl _, fun _ _ x _ h => ⟨x, h, .inl rfl⟩⟩
theorem Soft.trans {sb : Nat} {a b c : World} (h : Soft sb a b) (k : Soft sb b c) : Soft sb a c := ⟨Nat.le_trans h.1 k.1, fun p j x hp hx => by
  obtain ⟨y, h1, h2⟩ := h.2 p j x hp hx
  obtain ⟨z, h3, h4⟩ := k.2 p j y hp h1
  exact ⟨z, h3, h2.trans h4⟩⟩
theorem Soft.ran {sb t K : Nat} {w w' : World} (h : Ran sb t K w w') : Soft sb w w' := ⟨h.1.size, fun _ _ x hb hx => ⟨x, h.cell hx hb, .inl rfl⟩⟩
theorem Soft.alloc {sb : Nat} (w : World) (o : Obj) : Soft sb w (w.alloc o) := ⟨by simp, fun b j x _ hx => ⟨x, (World.cell?_of_block (a := ⟨b, j, none⟩) (Below.heap_alloc w o b (World.block_lt_of_cell? w _ hx))).trans hx, .inl rfl⟩⟩
theorem Soft.below {sb : Nat} {w w' : World} (h : Below w.heap.size w w') : Soft sb w w' := ⟨h.size, fun b j x _ hx => ⟨x, (World.cell?_of_block (a := ⟨b, j, none⟩) (h.block b (World.block_lt_of_cell? w _ hx))).trans hx, .inl rfl⟩⟩
theorem Soft.drew {sb : Nat} (w : World) : Soft sb w w.drew := ⟨Nat.le_refl _, fun _ _ x _ h => ⟨x, h, .inl rfl⟩⟩
theorem Soft.set {sb : Nat} {w : World} {b j : Nat} {x y : Value} (hx : w.cell? ⟨b, j, none⟩ = some x) (hy : SoftV x y) : Soft sb w (w.setCell ⟨b, j, none⟩ y) := ⟨by simp [World.setCell], fun b' j' x' _ hx' => by
  by_cases e : b' = b ∧ j' = j
  · obtain ⟨rfl, rfl⟩ := e
    rw [hx] at hx'
    cases hx'
    exact ⟨y, World.cell?_setCell_same _ _ _ hx, hy⟩
  · refine ⟨x', ?_, .inl rfl⟩
    rw [World.cell?_setCell_other _ _ _ _ (by simp; omega)]
    exact hx'⟩
theorem Soft.setS {sb : Nat} {w : World} {b j : Nat} {s s' : ByteArray} (hx : w.cell? ⟨b, j, none⟩ = some (.string s)) (hs : s'.size ≤ 1048576) : Soft sb w (w.setCell ⟨b, j, none⟩ (.string s')) := Soft.set hx (.inr (.inl ⟨s, s', rfl, rfl, fun _ => hs⟩))
theorem Soft.setI {sb : Nat} {w : World} {b j : Nat} {z z' : Int} (hx : w.cell? ⟨b, j, none⟩ = some (.int .i64 z)) : Soft sb w (w.setCell ⟨b, j, none⟩ (.int .i64 z')) := Soft.set hx (.inr (.inr ⟨z, z', rfl, rfl⟩))
theorem Soft.str {sb : Nat} {w w' : World} (h : Soft sb w w') {b j : Nat} {s : ByteArray} (hb : b ≠ sb) (hx : w.cell? ⟨b, j, none⟩ = some (.string s)) (hs : s.size ≤ 1048576) : ∃ s' : ByteArray, w'.cell? ⟨b, j, none⟩ = some (.string s') ∧ s'.size ≤ 1048576 := by
  obtain ⟨y, h1, rfl | ⟨u, u', e, rfl, h2⟩ | ⟨_, _, e, _⟩⟩ := h.2 b j _ hb hx
  · exact ⟨s, h1, hs⟩
  · cases e
    exact ⟨u', h1, h2 hs⟩
  · cases e
theorem Soft.int {sb : Nat} {w w' : World} (h : Soft sb w w') {b j : Nat} {z : Int} (hb : b ≠ sb) (hx : w.cell? ⟨b, j, none⟩ = some (.int .i64 z)) : ∃ z' : Int, w'.cell? ⟨b, j, none⟩ = some (.int .i64 z') := by
  obtain ⟨y, h1, rfl | ⟨u, u', e, rfl, h2⟩ | ⟨c, d, e, rfl⟩⟩ := h.2 b j _ hb hx
  · exact ⟨z, h1⟩
  · cases e
  · cases e
    exact ⟨d, h1⟩
theorem Soft.slice {sb : Nat} {w w' : World} (h : Soft sb w w') {b j : Nat} {a : Option Addr} {n c : Nat} (hb : b ≠ sb) (hx : w.cell? ⟨b, j, none⟩ = some (.slice a n c)) : w'.cell? ⟨b, j, none⟩ = some (.slice a n c) := by
  obtain ⟨y, h1, rfl | ⟨u, u', e, rfl, h2⟩ | ⟨c, d, e, rfl⟩⟩ := h.2 b j _ hb hx
  · exact h1
  · cases e
  · cases e

/-- No part of the stream. -/
def FarA (sb : Nat) (a : Option Addr) : Prop := ∀ x, a = some x → x.block ≠ sb
def cv (w : World) (b j : Nat) : Value := (w.cell? ⟨b, j, none⟩).getD (.bool false)
def regsIn (w : World) (a : Option Addr) (n : Nat) : Regs := match a with
  | some x => ⟨n, fun k => txtOf (cv w x.block (x.off + k * 2)), fun k => nrOf (cv w x.block (x.off + k * 2 + 1))⟩
  | none => ⟨n, fun _ => ⟨#[]⟩, fun _ => 0⟩
def inssIn (w : World) (a : Option Addr) (n : Nat) : Inss := match a with
  | some x => ⟨n, fun k => txtOf (cv w x.block (x.off + k * 2)), fun k => txtOf (cv w x.block (x.off + k * 2 + 1))⟩
  | none => ⟨n, fun _ => ⟨#[]⟩, fun _ => ⟨#[]⟩⟩
theorem regsIn_n (w : World) (a : Option Addr) (n : Nat) : (regsIn w a n).n = n := by cases a <;> rfl
theorem inssIn_n (w : World) (a : Option Addr) (n : Nat) : (inssIn w a n).n = n := by cases a <;> rfl
theorem cv_str {w : World} {b j : Nat} {s : ByteArray} (h : w.cell? ⟨b, j, none⟩ = some (.string s)) : txtOf (cv w b j) = s := by unfold cv; rw [h]; rfl
theorem cv_num {w : World} {b j : Nat} {z : Int} (h : w.cell? ⟨b, j, none⟩ = some (.int .i64 z)) : nrOf (cv w b j) = z := by unfold cv; rw [h]; rfl

theorem RegsAt.soft {sb B : Nat} {w w' : World} {a : Option Addr} {r : Regs} (h : RegsAt B w a r) (hf : FarA sb a) (hs : Soft sb w w') : RegsAt B w' a (regsIn w' a r.n) := by
  refine ⟨by rw [regsIn_n]; exact h.n_le, fun h0 => ?_⟩
  rw [regsIn_n] at h0
  obtain ⟨b, off, rfl, hb, hc⟩ := h.cells h0
  have hne : b ≠ sb := hf _ rfl
  refine ⟨b, off, rfl, hb, fun k hk => ?_⟩
  rw [regsIn_n] at hk
  obtain ⟨c1, c2, c3⟩ := hc k hk
  obtain ⟨s', d1, d2⟩ := hs.str hne c1 c3
  obtain ⟨z', d3⟩ := hs.int hne c2
  show w'.cell? ⟨b, off + k * 2, none⟩ = some (.string (txtOf (cv w' b (off + k * 2)))) ∧ w'.cell? ⟨b, off + k * 2 + 1, none⟩ = some (.int .i64 (nrOf (cv w' b (off + k * 2 + 1)))) ∧ (txtOf (cv w' b (off + k * 2))).size ≤ 1048576
  rw [cv_str d1, cv_num d3]
  exact ⟨d1, d3, d2⟩
theorem InsAt.soft {sb B : Nat} {w w' : World} {a : Option Addr} {r : Inss} (h : InsAt B w a r) (hf : FarA sb a) (hs : Soft sb w w') : InsAt B w' a (inssIn w' a r.n) := by
  refine ⟨by rw [inssIn_n]; exact h.n_le, fun h0 => ?_⟩
  rw [inssIn_n] at h0
  obtain ⟨b, off, rfl, hb, hc⟩ := h.cells h0
  have hne : b ≠ sb := hf _ rfl
  refine ⟨b, off, rfl, hb, fun k hk => ?_⟩
  rw [inssIn_n] at hk
  obtain ⟨c1, c2, c3, c4⟩ := hc k hk
  obtain ⟨s', d1, d2⟩ := hs.str hne c1 c3
  obtain ⟨s2, d3, d4⟩ := hs.str hne c2 c4
  show w'.cell? ⟨b, off + k * 2, none⟩ = some (.string (txtOf (cv w' b (off + k * 2)))) ∧ w'.cell? ⟨b, off + k * 2 + 1, none⟩ = some (.string (txtOf (cv w' b (off + k * 2 + 1)))) ∧ (txtOf (cv w' b (off + k * 2))).size ≤ 1048576 ∧ (txtOf (cv w' b (off + k * 2 + 1))).size ≤ 1048576
  rw [cv_str d1, cv_str d3]
  exact ⟨d1, d3, d2, d4⟩
/-- The devices that lie there now. -/
def devsIn (w : World) (b off : Nat) (r : Devs) : Devs := ⟨r.n, fun k => ⟨txtOf (cv w b (off + k * 5)), nrOf (cv w b (off + k * 5 + 1)), nrOf (cv w b (off + k * 5 + 2)), regsIn w (r.plc k).ra (r.dev k).regs.n, inssIn w (r.plc k).ia (r.dev k).ins.n⟩, r.plc⟩
theorem DevsAt.soft {sb B : Nat} {w w' : World} {a : Option Addr} {r : Devs} (h : DevsAt B w a r) (hf : FarA sb a) (hp : ∀ k, k < r.n → FarA sb (r.plc k).ra ∧ FarA sb (r.plc k).ia) (hs : Soft sb w w') : ∃ r' : Devs, r'.n = r.n ∧ DevsAt B w' a r' := by
  by_cases h0 : r.n = 0
  · exact ⟨r, rfl, h.n_le, fun h1 => by omega⟩
  obtain ⟨b, off, rfl, hb, hc⟩ := h.cells (by omega)
  have hne : b ≠ sb := hf _ rfl
  refine ⟨devsIn w' b off r, rfl, h.n_le, fun _ => ⟨b, off, rfl, hb, fun k hk => ?_⟩⟩
  have hk : k < r.n := hk
  obtain ⟨⟨c1, c2, c3, c4, c5⟩, hok⟩ := hc k hk
  obtain ⟨s', d1, d2⟩ := hs.str hne c1 hok.name
  obtain ⟨z1, d3⟩ := hs.int hne c2
  obtain ⟨z2, d4⟩ := hs.int hne c3
  have d5 := hs.slice hne c4
  have d6 := hs.slice hne c5
  show (w'.cell? ⟨b, off + k * 5, none⟩ = some (.string (txtOf (cv w' b (off + k * 5)))) ∧ w'.cell? ⟨b, off + k * 5 + 1, none⟩ = some (.int .i64 (nrOf (cv w' b (off + k * 5 + 1)))) ∧ w'.cell? ⟨b, off + k * 5 + 2, none⟩ = some (.int .i64 (nrOf (cv w' b (off + k * 5 + 2)))) ∧
    w'.cell? ⟨b, off + k * 5 + 3, none⟩ = some (.slice (r.plc k).ra (regsIn w' (r.plc k).ra (r.dev k).regs.n).n (r.plc k).rc) ∧ w'.cell? ⟨b, off + k * 5 + 4, none⟩ = some (.slice (r.plc k).ia (inssIn w' (r.plc k).ia (r.dev k).ins.n).n (r.plc k).ic)) ∧ DevOk B w' ⟨txtOf (cv w' b (off + k * 5)), nrOf (cv w' b (off + k * 5 + 1)), nrOf (cv w' b (off + k * 5 + 2)), regsIn w' (r.plc k).ra (r.dev k).regs.n, inssIn w' (r.plc k).ia (r.dev k).ins.n⟩ (r.plc k)
  rw [cv_str d1, cv_num d3, cv_num d4, regsIn_n, inssIn_n]
  exact ⟨⟨d1, d3, d4, d5, d6⟩, hok.regs.soft (hp k hk).1 hs, hok.ins.soft (hp k hk).2 hs, d2, by rw [regsIn_n]; exact hok.capR, by rw [inssIn_n]; exact hok.capI⟩
end Go.Proofs.YthcakdminnmjoaaGreatDoor
