/- The last region of spoil: what is so in whatever order its operations come. -/
import Derived.Test.YthcakdminnmjoaaGreatDoorDvsB
import Derived.Test.YthcakdminnmjoaaGreatDoorNewQ
import Derived.Deep.RegionHeld3
namespace Go.Proofs.YthcakdminnmjoaaGreatDoor
open Go.RowKit Go.Maps

/-- The stream ran on, and what lies in memory is softly as it was. -/
def Mid (sb T : Nat) (W0 w wx : World) : Prop := Ran sb 0 T W0 wx ∧ Soft sb w wx
theorem Mid.ran {sb T t' K : Nat} {W0 w wx wy : World} (h : Mid sb T W0 w wx) (ht : t' ≤ T) (hr : Ran sb t' K wx wy) : Mid sb (T + K) W0 w wy := ⟨h.1.then (Nat.zero_le _) (by omega) hr, h.2.trans (Soft.ran hr)⟩
theorem Mid.below {sb T : Nat} {W0 w wx wy : World} (h : Mid sb T W0 w wx) (hB : Below wx.heap.size wx wy) : Mid sb T W0 w wy := ⟨h.1.then_below hB, h.2.trans (Soft.below hB)⟩
theorem Mid.drew {sb T : Nat} {W0 w wx : World} (h : Mid sb T W0 w wx) : Mid sb T W0 w wx.drew := by
  obtain ⟨⟨hg, t', a, b, hs⟩, h2⟩ := h
  exact ⟨⟨⟨hg.os, hg.tape, hg.output, hg.size, hg.block⟩, t', a, b, hs.kept fun _ _ => rfl⟩, h2.trans (Soft.drew wx)⟩
theorem Mid.setS {sb T : Nat} {W0 w wx : World} (h : Mid sb T W0 w wx) (hlt : sb < W0.heap.size) {b j : Nat} {s s' : ByteArray} (hb : W0.heap.size ≤ b) (hx : wx.cell? ⟨b, j, none⟩ = some (.string s)) (hs : s'.size ≤ 1048576) : Mid sb T W0 w (wx.setCell ⟨b, j, none⟩ (.string s')) := ⟨h.1.setCell hb hlt _, h.2.trans (Soft.setS hx hs)⟩
theorem Mid.setI {sb T : Nat} {W0 w wx : World} (h : Mid sb T W0 w wx) (hlt : sb < W0.heap.size) {b j : Nat} {z z' : Int} (hb : W0.heap.size ≤ b) (hx : wx.cell? ⟨b, j, none⟩ = some (.int .i64 z)) : Mid sb T W0 w (wx.setCell ⟨b, j, none⟩ (.int .i64 z')) := ⟨h.1.setCell hb hlt _, h.2.trans (Soft.setI hx)⟩
theorem ran_frozen {sb t K : Nat} {w w' : World} (h : Ran sb t K w w') {b : Nat} (hb : b ≠ sb) (hl : b < w.heap.size) (j : Nat) {v : Bool} (hf : w.frozen? ⟨b, j, none⟩ = v) : w'.frozen? ⟨b, j, none⟩ = v := (World.frozen?_of_block (a := ⟨b, j, none⟩) (h.1.block b hl (fun e => hb (Option.some.inj e)))).trans hf
theorem Ran.undrew {sb t K : Nat} {w w' : World} (h : Ran sb t K w.drew w') : Ran sb t K w w' := ⟨⟨h.1.os, h.1.tape, h.1.output, h.1.size, h.1.block⟩, h.2⟩

/-- The frame. -/
def spF (sb g p rb o : Nat) (y0 y1 y2 y3 : Value) (sv : Nat → Value) : Array Value := ((.pointer (some ⟨sb, 0, none⟩)) :: (.pointer (some ⟨g, p, none⟩)) :: undef :: undef :: undef :: (.pointer (some ⟨rb, o, none⟩)) :: (.pointer (some ⟨sb, 0, none⟩)) :: (.int .i64 3) :: (.pointer (some ⟨g, p, none⟩)) :: (.pointer (some ⟨g, p, none⟩)) :: (.pointer (some ⟨g, p + 4, none⟩)) :: y0 :: y1 :: (.bool true) :: (.pointer (some ⟨g, p, none⟩)) :: (.pointer (some ⟨g, p, none⟩)) :: (.pointer (some ⟨g, p + 4, none⟩)) :: y2 :: (.pointer (some ⟨sb, 0, none⟩)) :: (.pointer (some ⟨g, p, none⟩)) :: (.pointer (some ⟨g, p, none⟩)) :: (.pointer (some ⟨g, p + 4, none⟩)) :: y2 :: y1 :: y3 :: (.pointer (some ⟨rb, o, none⟩)) :: (sv 0) :: (sv 1) :: (sv 2) :: (sv 3) :: (sv 4) :: (sv 5) :: (sv 6) :: (sv 7) :: (sv 8) :: (sv 9) :: (sv 10) :: (sv 11) :: (sv 12) :: (sv 13) :: (sv 14) :: (sv 15) :: (sv 16) :: (sv 17) :: (sv 18) :: (sv 19) :: (sv 20) :: (sv 21) :: (sv 22) :: (sv 24) :: (sv 25) :: (.bool false) :: (.bool false) :: undef :: undef :: undef :: undef :: undef :: undef :: undef :: undef :: undef :: undef :: undef :: undef :: undef :: undef :: undef :: (.bool false) :: (.bool false) :: undef :: undef :: undef :: undef :: undef :: undef :: undef :: undef :: undef :: undef :: (.bool false) :: (.bool false) :: undef :: undef :: undef :: undef :: undef :: undef :: undef :: undef :: undef :: undef :: undef :: undef :: undef :: undef :: undef :: undef :: undef :: undef :: undef :: undef :: undef :: undef :: undef :: undef :: undef :: undef :: undef :: undef :: undef :: undef :: undef :: undef :: undef :: []).toArray
/-- What the operations' values are. -/
def spV (W : World) (sb g p rb o : Nat) (long : Int) (code reg : ByteArray) (w : World) : Nat → Value → Prop
  | 0, v | 1, v | 3, v | 4, v | 5, v | 15, v | 16, v | 21, v | 22, v | 24, v => v = .pointer (some ⟨rb, o, none⟩)
  | 2, v | 14, v => v = .pointer (some ⟨sb, 0, none⟩)
  | 7, v | 8, v => v = .pointer (some ⟨g, p, none⟩)
  | 9, v => v = .pointer (some ⟨g, p + 1, none⟩)
  | 17, v | 25, v => v = .pointer (some ⟨rb, o + 1, none⟩)
  | 6, v => v = .string code
  | 18, v => v = .string reg
  | 10, v => v = .int .i64 long
  | 11, v => ∃ s : ByteArray, v = .string s ∧ s.size ≤ 1000
  | 12, v => ∃ (lb : Nat) (s : ByteArray), v = .slice (some ⟨lb, 0, none⟩) 4 4 ∧ W.heap.size ≤ lb ∧ s.size ≤ 1000 ∧ w.heap[lb]? = some (.cells #[.string code, .string s, .string ⟨#[48]⟩, .string ⟨#[48, 120]⟩] 9)
  | 13, v | 20, v => ∃ s : ByteArray, v = .string s ∧ s.size ≤ 1048576
  | 19, v => ∃ lb : Nat, v = .slice (some ⟨lb, 0, none⟩) 3 3 ∧ W.heap.size ≤ lb ∧ w.heap[lb]? = some (.cells #[.string reg, .string ⟨#[105, 100, 99, 111, 100, 101]⟩, .string ⟨#[122, 122]⟩] 9)
  | _, _ => True
theorem spV.new {W : World} {sb g p rb o : Nat} {long : Int} {code reg : ByteArray} {w w' : World} (hn : ∀ b, W.heap.size ≤ b → b < w.heap.size → w'.heap[b]? = w.heap[b]?) : ∀ k v, spV W sb g p rb o long code reg w k v → spV W sb g p rb o long code reg w' k v
  | 12, _, ⟨lb, s, h1, h2, h3, h4⟩ => ⟨lb, s, h1, h2, h3, (hn lb h2 (blk_lt h4)).trans h4⟩
  | 19, _, ⟨lb, h1, h2, h3⟩ => ⟨lb, h1, h2, (hn lb h2 (blk_lt h3)).trans h3⟩
  | 0, _, h => h
  | 1, _, h => h
  | 2, _, h => h
  | 3, _, h => h
  | 4, _, h => h
  | 5, _, h => h
  | 6, _, h => h
  | 7, _, h => h
  | 8, _, h => h
  | 9, _, h => h
  | 10, _, h => h
  | 11, _, h => h
  | 13, _, h => h
  | 14, _, h => h
  | 15, _, h => h
  | 16, _, h => h
  | 17, _, h => h
  | 18, _, h => h
  | 20, _, h => h
  | 21, _, h => h
  | 22, _, h => h
  | 23, _, h => h
  | 24, _, h => h
  | 25, _, h => h
  | _ + 26, _, _ => trivial
def cnt1 (l : Array Bool) (k : Nat) : Nat := if l[k]?.getD false = true then 1 else 0
theorem cnt1_le (l : Array Bool) (i k : Nat) (hs : i < l.size) : cnt1 l k ≤ cnt1 (l.setIfInBounds i true) k := by
  unfold cnt1
  by_cases e : k = i
  · subst e
    rw [Array.getElem?_setIfInBounds_self_of_lt hs]
    simp
    split <;> omega
  · rw [flag_other l i k e]
    exact Nat.le_refl _
theorem cnt1_up (l : Array Bool) (i : Nat) (hs : i < l.size) (h : l[i]?.getD true = false) : cnt1 (l.setIfInBounds i true) i = cnt1 l i + 1 := by
  unfold cnt1
  rw [Array.getElem?_setIfInBounds_self_of_lt hs, if_neg (flag_off h)]
  rfl
/-- What the world holds. -/
structure SpW (sb t : Nat) (W0 w W : World) (g p rb o : Nat) (long : Int) (code reg : ByteArray) (l : Array Bool) (w' : World) : Prop where
  mid : ∃ T, T ≤ t + cnt1 l 13 + cnt1 l 20 ∧ Mid sb T W0 w w'
  size : W.heap.size ≤ w'.heap.size
  cl : w'.cell? ⟨g, p + 1, none⟩ = some (.int .i64 long)
  c0 : l[23]?.getD false = false → w'.cell? ⟨rb, o, none⟩ = some (.string code)
  c1 : l[26]?.getD false = false → w'.cell? ⟨rb, o + 1, none⟩ = some (.string reg)
  f0 : w'.frozen? ⟨rb, o, none⟩ = false
  f1 : w'.frozen? ⟨rb, o + 1, none⟩ = false
section
variable {sb t : Nat} {W0 w W : World} {g p rb o : Nat} {long : Int} {code reg : ByteArray} {l : Array Bool} {w' w2 : World}
theorem flag_stays {l : Array Bool} {i k : Nat} (hs : i < l.size) (h : (l.setIfInBounds i true)[k]?.getD false = false) : l[k]?.getD false = false := by
  by_cases e : k = i
  · subst e
    rw [Array.getElem?_setIfInBounds_self_of_lt hs] at h
    cases h
  · rw [flag_other l i k e] at h
    exact h
theorem SpW.flag (h : SpW sb t W0 w W g p rb o long code reg l w') (i : Nat) (hs : i < l.size) : SpW sb t W0 w W g p rb o long code reg (l.setIfInBounds i true) w' := by
  obtain ⟨T, hT, hM⟩ := h.mid
  have h1 := cnt1_le l i 13 hs
  have h2 := cnt1_le l i 20 hs
  exact { h with mid := ⟨T, by omega, hM⟩, c0 := fun e => h.c0 (flag_stays hs e), c1 := fun e => h.c1 (flag_stays hs e) }
theorem SpW.below (h : SpW sb t W0 w W g p rb o long code reg l w') (hB : Below w'.heap.size w' w2) (hW : g < W.heap.size ∧ rb < W.heap.size) : SpW sb t W0 w W g p rb o long code reg l w2 := by
  obtain ⟨T, hT, hM⟩ := h.mid
  have hs := h.size
  have hc : ∀ b j, b < W.heap.size → w2.cell? ⟨b, j, none⟩ = w'.cell? ⟨b, j, none⟩ := fun b j hb => World.cell?_of_block (a := ⟨b, j, none⟩) (hB.block b (by omega))
  have hf : ∀ b j, b < W.heap.size → w2.frozen? ⟨b, j, none⟩ = w'.frozen? ⟨b, j, none⟩ := fun b j hb => World.frozen?_of_block (a := ⟨b, j, none⟩) (hB.block b (by omega))
  exact ⟨⟨T, hT, hM.below hB⟩, Nat.le_trans hs hB.size, (hc _ _ hW.1).trans h.cl, fun e => (hc _ _ hW.2).trans (h.c0 e), fun e => (hc _ _ hW.2).trans (h.c1 e), (hf _ _ hW.2).trans h.f0, (hf _ _ hW.2).trans h.f1⟩
theorem SpW.ran {i t' T : Nat} (h : SpW sb t W0 w W g p rb o long code reg l w') (hT : T ≤ t + cnt1 l 13 + cnt1 l 20) (hM : Mid sb T W0 w w') (hle : t' ≤ T) (hi : i = 13 ∨ i = 20) (hs : l.size = 27) (hoff : l[i]?.getD true = false) (hr : Ran sb t' 1 w' w2) (hgs : g ≠ sb) (hrs : rb ≠ sb) (hW : g < W.heap.size ∧ rb < W.heap.size) : SpW sb t W0 w W g p rb o long code reg (l.setIfInBounds i true) w2 := by
  have h0 := h.size
  have h1 := cnt1_le l i 13 (by omega)
  have h2 := cnt1_le l i 20 (by omega)
  have h3 := cnt1_up l i (by omega) hoff
  refine ⟨⟨T + 1, by rcases hi with rfl | rfl <;> omega, hM.ran hle hr⟩, Nat.le_trans h0 hr.1.size, hr.cell h.cl hgs, fun e => hr.cell (h.c0 (flag_stays (by omega) e)) hrs, fun e => hr.cell (h.c1 (flag_stays (by omega) e)) hrs, ran_frozen hr hrs (by omega) _ h.f0, ran_frozen hr hrs (by omega) _ h.f1⟩
theorem SpW.set0 {s : ByteArray} (h : SpW sb t W0 w W g p rb o long code reg l w') (hs : l.size = 27) (hoff : l[23]?.getD true = false) (hlt : sb < W0.heap.size) (hup : W0.heap.size ≤ rb) (hz : s.size ≤ 1048576) : SpW sb t W0 w W g p rb o long code reg (l.setIfInBounds 23 true) (w'.setCell ⟨rb, o, none⟩ (.string s)) := by
  obtain ⟨T, hT, hM⟩ := h.mid
  have h1 := cnt1_le l 23 13 (by omega)
  have h2 := cnt1_le l 23 20 (by omega)
  have hc0 := h.c0 (by have := flag_off hoff; simpa using this)
  have hne : (⟨rb, o, none⟩ : Addr) ≠ ⟨g, p + 1, none⟩ := fun e => by
    rw [e, h.cl] at hc0
    cases hc0
  refine ⟨⟨T, by omega, hM.setS hlt hup hc0 hz⟩, ?_, ?_, fun e => ?_, fun e => ?_, ?_, ?_⟩
  · simpa [World.setCell] using h.size
  · rw [World.cell?_setCell_other _ _ _ _ hne]
    exact h.cl
  · rw [Array.getElem?_setIfInBounds_self_of_lt (by omega)] at e
    cases e
  · rw [World.cell?_setCell_other _ _ _ _ (by simp)]
    exact h.c1 (flag_stays (by omega) e)
  · rw [World.frozen?_setCell]
    exact h.f0
  · rw [World.frozen?_setCell]
    exact h.f1
theorem SpW.set1 {s : ByteArray} (h : SpW sb t W0 w W g p rb o long code reg l w') (hs : l.size = 27) (hoff : l[26]?.getD true = false) (hlt : sb < W0.heap.size) (hup : W0.heap.size ≤ rb) (hz : s.size ≤ 1048576) : SpW sb t W0 w W g p rb o long code reg (l.setIfInBounds 26 true) (w'.setCell ⟨rb, o + 1, none⟩ (.string s)) := by
  obtain ⟨T, hT, hM⟩ := h.mid
  have h1 := cnt1_le l 26 13 (by omega)
  have h2 := cnt1_le l 26 20 (by omega)
  have hc1 := h.c1 (by have := flag_off hoff; simpa using this)
  have hne : (⟨rb, o + 1, none⟩ : Addr) ≠ ⟨g, p + 1, none⟩ := fun e => by
    rw [e, h.cl] at hc1
    cases hc1
  refine ⟨⟨T, by omega, hM.setS hlt hup hc1 hz⟩, ?_, ?_, fun e => ?_, fun e => ?_, ?_, ?_⟩
  · simpa [World.setCell] using h.size
  · rw [World.cell?_setCell_other _ _ _ _ hne]
    exact h.cl
  · rw [World.cell?_setCell_other _ _ _ _ (by simp)]
    exact h.c0 (flag_stays (by omega) e)
  · rw [Array.getElem?_setIfInBounds_self_of_lt (by omega)] at e
    cases e
  · rw [World.frozen?_setCell]
    exact h.f0
  · rw [World.frozen?_setCell]
    exact h.f1
end
theorem flag_set {l : Array Bool} {i k : Nat} (hs : l.size = 27) (hi : i < 27) (h : l[k]?.getD false = true) : (l.setIfInBounds i true)[k]?.getD false = true := by
  by_cases e : k = i
  · subst e
    rw [Array.getElem?_setIfInBounds_self_of_lt (by omega)]
    rfl
  · rw [flag_other l i k e]
    exact h
/-- The state of the region. -/
structure SpS (sb t : Nat) (W0 w W : World) (g p rb o : Nat) (long : Int) (code reg : ByteArray) (l : Array Bool) (sv : Nat → Value) (w' : World) : Prop where
  n : l.size = 27
  vals : ∀ k, k < 27 → l[k]?.getD false = true → spV W sb g p rb o long code reg w' k (sv k)
  world : SpW sb t W0 w W g p rb o long code reg l w'
  d23 : l[23]?.getD false = true → l[6]?.getD false = true
  d26 : l[26]?.getD false = true → l[18]?.getD false = true
def spI (sb t : Nat) (W0 w W : World) (g p rb o : Nat) (long : Int) (code reg : ByteArray) (y0 y1 y2 y3 : Value) (l : Array Bool) (a : Act) (w' : World) : Prop :=
  ∃ sv : Nat → Value, a = ⟨spF sb g p rb o y0 y1 y2 y3 sv, []⟩ ∧ SpS sb t W0 w W g p rb o long code reg l sv w'
theorem SpS.step {sb t : Nat} {W0 w W : World} {g p rb o : Nat} {long : Int} {code reg : ByteArray} {l : Array Bool} {sv : Nat → Value} {w' w2 : World} (h : SpS sb t W0 w W g p rb o long code reg l sv w') (i : Nat) (hi : i < 27) (x : Value) (hx : spV W sb g p rb o long code reg w2 i x) (hn : ∀ b, W.heap.size ≤ b → b < w'.heap.size → w2.heap[b]? = w'.heap[b]?) (hw : SpW sb t W0 w W g p rb o long code reg (l.setIfInBounds i true) w2) (h23 : i = 23 → l[6]?.getD false = true := by intro h; cases h) (h26 : i = 26 → l[18]?.getD false = true := by intro h; cases h) : SpS sb t W0 w W g p rb o long code reg (l.setIfInBounds i true) (fun k => if k = i then x else sv k) w2 :=
  ⟨Array.size_setIfInBounds.trans h.n, fun k hk hl => by
    by_cases e : k = i
    · subst e
      rw [if_pos rfl]
      exact hx
    · rw [if_neg e]
      rw [flag_other l i k e] at hl
      exact spV.new hn k _ (h.vals k hk hl), hw, fun e => by
    by_cases e2 : i = 23
    · exact flag_set h.n hi (h23 e2)
    · exact flag_set h.n hi (h.d23 ((flag_other l i 23 (Ne.symm e2)).symm.trans e)), fun e => by
    by_cases e2 : i = 26
    · exact flag_set h.n hi (h26 e2)
    · exact flag_set h.n hi (h.d26 ((flag_other l i 26 (Ne.symm e2)).symm.trans e))⟩
end Go.Proofs.YthcakdminnmjoaaGreatDoor
