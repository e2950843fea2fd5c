/- The region in which a device gets an instruction more: what is so in whatever order its operations come. -/
import Derived.Test.YthcakdminnmjoaaGreatDoorDvsE
import Derived.Test.YthcakdminnmjoaaGreatDoorNewQ
namespace Go.Proofs.YthcakdminnmjoaaGreatDoor
open Go.RowKit Go.Maps

/-- What waits for what. -/
def d20 : List (Nat × Nat) := [(3, 2), (8, 5), (8, 7), (9, 3), (9, 8), (10, 9), (12, 10), (12, 11), (14, 12), (14, 13), (15, 14), (16, 1), (16, 15), (18, 17), (18, 16)]
/-- The values. -/
def v20 (db : Nat) (u : Value) (long : Int) (sc zs sx : ByteArray) (c : Nat) : Nat → Value → Prop
  | 0, v | 17, v => v = .pointer (some ⟨db, 4, none⟩)
  | 2, v | 4, v => v = .pointer (some ⟨db, 1, none⟩)
  | 1, v => v = u
  | 3, v | 5, v => v = .int .i64 long
  | 6, v | 11, v => v = .string sc
  | 7, v | 8, v => v = .int .i64 (sc.size : Int)
  | 9, v => v = .int .i64 (c : Int)
  | 10, v => v = .string zs
  | 12, v => v = .string (zs ++ sc)
  | 13, v => v = .string sx
  | 14, v => v = .agg #[.string (zs ++ sc), .string sx]
  | _, _ => True
/-- Appended, not yet stored. -/
def App20 (sb t K : Nat) (Wk : World) (db : Nat) (name : ByteArray) (long id : Int) (v u : Value) (rn inn : Nat) (tx sx : ByteArray) (w : World) (x : Value) : Prop :=
  ∃ (g cap : Nat) (ys : List Value) (w0 : World), x = .slice (some ⟨g, 0, none⟩) (inn + 1) cap ∧ DVar sb t K Wk db name long id v u rn inn w0 ∧ w0.ownsRow Wk.heap.size 56 2 u inn ys ∧ InsL ys ∧
    w.ownsRow Wk.heap.size 56 2 (.slice (some ⟨g, 0, none⟩) (inn + 1) cap) (inn + 1) (ys ++ [.string tx, .string sx]) ∧ w0.grownBy w u.ownBlock
structure S20 (sb t K : Nat) (Wk : World) (db : Nat) (name : ByteArray) (long id : Int) (v u : Value) (rn inn : Nat) (sc zs sx : ByteArray) (c : Nat) (l : Array Bool) (sv : Nat → Value) (w : World) : Prop where
  n : l.size = 19
  vals : ∀ k, k < 19 → l[k]?.getD false = true → v20 db u long sc zs sx c k (sv k)
  dep : ∀ i j, (i, j) ∈ d20 → l[i]?.getD false = true → l[j]?.getD false = true
  a0 : l[16]?.getD false = false → DVar sb t K Wk db name long id v u rn inn w
  a15 : l[15]?.getD false = true → l[16]?.getD false = false → ∃ nb, sv 15 = .slice (some ⟨nb, 0, none⟩) 1 1 ∧ w.heap[nb]? = some (.cells #[.string (zs ++ sc), .string sx] 56)
  a1 : l[16]?.getD false = true → l[18]?.getD false = false → App20 sb t K Wk db name long id v u rn inn (zs ++ sc) sx w (sv 16)
  a2 : l[18]?.getD false = true → ∃ x, DVar sb t K Wk db name long id v x rn (inn + 1) w

theorem fl_set {l : Array Bool} {i k : Nat} (hi : i < l.size) (h : l[k]?.getD false = true) : (l.setIfInBounds i true)[k]?.getD false = true := by
  by_cases e : k = i
  · subst e
    rw [Array.getElem?_setIfInBounds_self_of_lt hi]
    rfl
  · rw [flag_other l i k e]
    exact h
theorem fl_off {l : Array Bool} {k : Nat} (h : ¬ l[k]?.getD false = true) : l[k]?.getD false = false := by simpa using h

section
variable {sb t K : Nat} {Wk : World} {db : Nat} {name : ByteArray} {long id : Int} {v u : Value} {rn inn : Nat} {sc zs sx : ByteArray} {c : Nat} {l : Array Bool} {sv : Nat → Value} {w : World}
theorem S20.vals_set (h : S20 sb t K Wk db name long id v u rn inn sc zs sx c l sv w) (i : Nat) (x : Value) (hx : v20 db u long sc zs sx c i x) : ∀ k, k < 19 → (l.setIfInBounds i true)[k]?.getD false = true → v20 db u long sc zs sx c k (if k = i then x else sv k) := fun k hk hl => by
  by_cases e : k = i
  · subst e
    rw [if_pos rfl]
    exact hx
  · rw [if_neg e]
    rw [flag_other l i k e] at hl
    exact h.vals k hk hl
theorem S20.dep_set (h : S20 sb t K Wk db name long id v u rn inn sc zs sx c l sv w) (i : Nat) (hi : i < 19) (hd : ∀ j, (i, j) ∈ d20 → l[j]?.getD false = true) : ∀ a b, (a, b) ∈ d20 → (l.setIfInBounds i true)[a]?.getD false = true → (l.setIfInBounds i true)[b]?.getD false = true := fun a b hab hl => by
  have hn := h.n
  by_cases e : a = i
  · subst e
    exact fl_set (by omega) (hd b hab)
  · rw [flag_other l i a e] at hl
    exact fl_set (by omega) (h.dep a b hab hl)
/-- An operation that turns nothing. -/
theorem S20.pure (h : S20 sb t K Wk db name long id v u rn inn sc zs sx c l sv w) (i : Nat) (hi : i < 15 ∨ i = 17) (x : Value) (hx : v20 db u long sc zs sx c i x) (hd : ∀ j, (i, j) ∈ d20 → l[j]?.getD false = true) : S20 sb t K Wk db name long id v u rn inn sc zs sx c (l.setIfInBounds i true) (fun k => if k = i then x else sv k) w := by
  have e16 := flag_other l i 16 (by omega)
  have e15 := flag_other l i 15 (by omega)
  have e18 := flag_other l i 18 (by omega)
  refine ⟨Array.size_setIfInBounds.trans h.n, h.vals_set i x hx, h.dep_set i (by omega) hd, fun e => h.a0 (e16.symm.trans e), fun e1 e2 => ?_, fun e1 e2 => ?_, fun e => h.a2 (e18.symm.trans e)⟩
  · show ∃ nb, (if 15 = i then x else sv 15) = _ ∧ _
    rw [if_neg (by omega)]
    exact h.a15 (e15.symm.trans e1) (e16.symm.trans e2)
  · show App20 _ _ _ _ _ _ _ _ _ _ _ _ _ _ _ (if 16 = i then x else sv 16)
    rw [if_neg (by omega)]
    exact h.a1 (e16.symm.trans e1) (e18.symm.trans e2)
/-- Behind what is not yet done. -/
theorem S20.no16 (h : S20 sb t K Wk db name long id v u rn inn sc zs sx c l sv w) (hx : ¬ l[1]?.getD false = true ∨ ¬ l[3]?.getD false = true ∨ ¬ l[5]?.getD false = true ∨ ¬ l[10]?.getD false = true ∨ ¬ l[15]?.getD false = true) : l[16]?.getD false = false := by
  refine fl_off fun e => ?_
  have h1 := h.dep 16 1 (by decide) e
  have h15 := h.dep 16 15 (by decide) e
  have h10 := h.dep 12 10 (by decide) (h.dep 14 12 (by decide) (h.dep 15 14 (by decide) h15))
  have h9 := h.dep 10 9 (by decide) h10
  have h3 := h.dep 9 3 (by decide) h9
  have h5 := h.dep 8 5 (by decide) (h.dep 9 8 (by decide) h9)
  rcases hx with hx | hx | hx | hx | hx
  · exact hx h1
  · exact hx h3
  · exact hx h5
  · exact hx h10
  · exact hx h15
theorem S20.no18 (h : S20 sb t K Wk db name long id v u rn inn sc zs sx c l sv w) (hx : l[16]?.getD false = false) : l[18]?.getD false = false := fl_off fun e => by
  have := h.dep 18 16 (by decide) e
  rw [hx] at this
  cases this
/-- Repeat. -/
theorem S20.rep (h : S20 sb t K Wk db name long id v u rn inn sc zs sx c l sv w) (hoff : ¬ l[10]?.getD false = true) {w2 : World} (hB : Below w.heap.size w w2) (hd : ∀ j, (10, j) ∈ d20 → l[j]?.getD false = true) : S20 sb t K Wk db name long id v u rn inn sc zs sx c (l.setIfInBounds 10 true) (fun k => if k = 10 then .string zs else sv k) w2 := by
  have e16 := h.no16 (.inr (.inr (.inr (.inl hoff))))
  have e18 := h.no18 e16
  have e15 : l[15]?.getD false = false := fl_off fun e => hoff (h.dep 12 10 (by decide) (h.dep 14 12 (by decide) (h.dep 15 14 (by decide) e)))
  refine ⟨Array.size_setIfInBounds.trans h.n, h.vals_set 10 _ rfl, h.dep_set 10 (by decide) hd, fun _ => (h.a0 e16).below hB, fun e1 _ => ?_, fun e1 _ => ?_, fun e => ?_⟩
  · rw [flag_other l 10 15 (by decide), e15] at e1
    cases e1
  · rw [flag_other l 10 16 (by decide), e16] at e1
    cases e1
  · rw [flag_other l 10 18 (by decide), e18] at e
    cases e
/-- The element's own block. -/
theorem S20.lay (h : S20 sb t K Wk db name long id v u rn inn sc zs sx c l sv w) (hoff : ¬ l[15]?.getD false = true) (hd : ∀ j, (15, j) ∈ d20 → l[j]?.getD false = true) : S20 sb t K Wk db name long id v u rn inn sc zs sx c (l.setIfInBounds 15 true) (fun k => if k = 15 then .slice (some ⟨w.heap.size, 0, none⟩) 1 1 else sv k) (w.alloc (.cells #[.string (zs ++ sc), .string sx] 56)) := by
  have e16 := h.no16 (.inr (.inr (.inr (.inr hoff))))
  have e18 := h.no18 e16
  refine ⟨Array.size_setIfInBounds.trans h.n, h.vals_set 15 _ trivial, h.dep_set 15 (by decide) hd, fun _ => (h.a0 e16).alloc _, fun _ _ => ⟨w.heap.size, rfl, heap_alloc_new w _⟩, fun e1 _ => ?_, fun e => ?_⟩
  · rw [flag_other l 15 16 (by decide), e16] at e1
    cases e1
  · rw [flag_other l 15 18 (by decide), e18] at e
    cases e
/-- The append. -/
theorem S20.app (h : S20 sb t K Wk db name long id v u rn inn sc zs sx c l sv w) (hoff : ¬ l[16]?.getD false = true) (hd : ∀ j, (16, j) ∈ d20 → l[j]?.getD false = true) {w4 : World} {g cap : Nat} {ys : List Value} (hown : w.ownsRow Wk.heap.size 56 2 u inn ys) (hys : InsL ys) (hown4 : w4.ownsRow Wk.heap.size 56 2 (.slice (some ⟨g, 0, none⟩) (inn + 1) cap) (inn + 1) (ys ++ [.string (zs ++ sc), .string sx])) (hg : w.grownBy w4 u.ownBlock) : S20 sb t K Wk db name long id v u rn inn sc zs sx c (l.setIfInBounds 16 true) (fun k => if k = 16 then .slice (some ⟨g, 0, none⟩) (inn + 1) cap else sv k) w4 := by
  have hn := h.n
  have e16 := fl_off hoff
  have e18 := h.no18 e16
  have on : (l.setIfInBounds 16 true)[16]?.getD false = true := by rw [Array.getElem?_setIfInBounds_self_of_lt (by omega)]; rfl
  refine ⟨Array.size_setIfInBounds.trans hn, h.vals_set 16 _ trivial, h.dep_set 16 (by decide) hd, fun e => ?_, fun _ e => ?_, fun _ _ => ⟨g, cap, ys, w, rfl, h.a0 e16, hown, hys, hown4, hg⟩, fun e => ?_⟩
  · rw [on] at e
    cases e
  · rw [on] at e
    cases e
  · rw [flag_other l 16 18 (by decide), e18] at e
    cases e
/-- The store. -/
theorem S20.sto (h : S20 sb t K Wk db name long id v u rn inn sc zs sx c l sv w) (hoff : ¬ l[18]?.getD false = true) (hd : ∀ j, (18, j) ∈ d20 → l[j]?.getD false = true) (hz1 : (zs ++ sc).size ≤ 1048576) (hz2 : sx.size ≤ 1048576) (x : Value) : S20 sb t K Wk db name long id v u rn inn sc zs sx c (l.setIfInBounds 18 true) (fun k => if k = 18 then x else sv k) (w.setCell ⟨db, 4, none⟩ (sv 16)) := by
  have hn := h.n
  have e16 := hd 16 (by decide)
  obtain ⟨g, cap, ys, w0, hv, hD, hown, hys, hown4, hg⟩ := h.a1 e16 (fl_off hoff)
  have on : (l.setIfInBounds 18 true)[18]?.getD false = true := by rw [Array.getElem?_setIfInBounds_self_of_lt (by omega)]; rfl
  have on16 := flag_other l 18 16 (by decide)
  refine ⟨Array.size_setIfInBounds.trans hn, h.vals_set 18 _ trivial, h.dep_set 18 (by decide) hd, fun e => ?_, fun _ e => ?_, fun _ e => ?_, fun _ => ?_⟩
  · rw [on16, e16] at e
    cases e
  · rw [on16, e16] at e
    cases e
  · rw [on] at e
    cases e
  · rw [hv]
    exact ⟨_, hD.pushI hown hys hz1 hz2 hown4 hg⟩
/-- What stands where the store goes. -/
theorem S20.cell4 (h : S20 sb t K Wk db name long id v u rn inn sc zs sx c l sv w) (hoff : ¬ l[18]?.getD false = true) (e16 : l[16]?.getD false = true) : w.cell? ⟨db, 4, none⟩ = some u ∧ w.frozen? ⟨db, 4, none⟩ = false := by
  obtain ⟨g, cap, ys, w0, hv, hD, hown, hys, hown4, hg⟩ := h.a1 e16 (fl_off hoff)
  have hb := hg.block db (blk_lt hD.blk) (Ne.symm (row_ne hown hD.blk (by decide)))
  exact ⟨(World.cell?_of_block (a := ⟨db, 4, none⟩) hb).trans hD.cells.2.2.2.2.1, (World.frozen?_of_block (a := ⟨db, 4, none⟩) hb).trans (frozen_of hD.blk 4)⟩
/-- At the end. -/
theorem S20.done (h : S20 sb t K Wk db name long id v u rn inn sc zs sx c l sv w) (hl : ∀ i, i < 19 → l.getD i true = true) : ∃ x, DVar sb t K Wk db name long id v x rn (inn + 1) w := h.a2 (flag_on (by rw [h.n]; decide) (hl 18 (by decide)))
end
end Go.Proofs.YthcakdminnmjoaaGreatDoor
