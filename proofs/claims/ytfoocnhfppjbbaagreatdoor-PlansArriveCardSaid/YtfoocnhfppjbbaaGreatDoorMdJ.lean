/- Package flash: what a cycle does, plain; what the driver's memory holds. -/
import Derived.Test.YtfoocnhfppjbbaaGreatDoorMdI
namespace Go.Proofs.YtfoocnhfppjbbaaGreatDoor
open Go.RowKit

/-- A cycle: the cycles of a sequence that has begun, the words, whether the cycle is not ignored. -/
def stepC (S : List Int) (row : List Cyc) (W : List Int) (c : Cyc) : List Cyc × List Int × Bool :=
  if row = progKey then ([], wordTo W c.1 c.2, decide (c.1 < (W.length : Int)))
  else if c.2 = 240 then ([], W, true)
  else if row = eraseKey then ([], eraseTo S W c.1 c.2, decide (0 ≤ secI S c.1 ∧ c.2 = 48))
  else if (isPre (row ++ [c]) progKey || isPre (row ++ [c]) eraseKey) = true then (row ++ [c], W, true) else ([], W, false)
theorem isPre_len {A B : List Cyc} (h : isPre A B = true) : A.length ≤ B.length := by
  unfold isPre at h
  have h2 := congrArg List.length (of_decide_eq_true h)
  rw [List.length_take] at h2
  omega
theorem stepC_len (S : List Int) (row : List Cyc) (W : List Int) (c : Cyc) : (stepC S row W c).1.length ≤ 5 := by
  unfold stepC
  split
  · exact Nat.zero_le _
  split
  · exact Nat.zero_le _
  split
  · exact Nat.zero_le _
  split
  · rename_i h
    rw [Bool.or_eq_true] at h
    rcases h with h | h
    · exact Nat.le_trans (isPre_len h) (by decide)
    · exact isPre_len h
  · exact Nat.zero_le _
/-- Where the driver's things lie: M ≤ the words' block gW and the variable's b; all below R. -/
structure DLay (M R gW b p m e gp ge : Nat) (vS : Value) : Prop where
  lgW : M ≤ gW ∧ gW < R
  lb : M ≤ b ∧ b < R ∧ b ≠ gW
  lp : p < R ∧ p ≠ gW ∧ p ≠ b
  lm : m < R ∧ m ≠ gW ∧ m ≠ b
  le : e < R ∧ e ≠ gW ∧ e ≠ b
  lgp : gp < R ∧ gp ≠ gW ∧ gp ≠ b
  lge : ge < R ∧ ge ≠ gW ∧ ge ≠ b
  lvS : Behind M vS
/-- What the driver's memory holds, but the variable itself. -/
structure DrvM (M R gW p m e gp ge nW cW : Nat) (vS : Value) (S W : List Int) (w : World) : Prop where
  hp : w.cell? ⟨p, 0, none⟩ = some (.slice (some ⟨gp, 0, none⟩) 3 3)
  m0 : w.cell? ⟨m, 0, none⟩ = some vS
  m1 : w.cell? ⟨m, 1, none⟩ = some (.slice (some ⟨gW, 0, none⟩) nW cW)
  he : w.cell? ⟨e, 0, none⟩ = some (.slice (some ⟨ge, 0, none⟩) 5 5)
  kp : CycsAt w (.slice (some ⟨gp, 0, none⟩) 3 3) progKey
  ke : CycsAt w (.slice (some ⟨ge, 0, none⟩) 5 5) eraseKey
  sp : SpansAt w vS S
  wo : WordsAt M w (.slice (some ⟨gW, 0, none⟩) nW cW) W
  sz : R ≤ w.heap.size
/-- All old blocks are kept but the words', the variable's and the row's own. -/
def Kept (gW b : Nat) (vb : Value) (w w' : World) : Prop := w.heap.size ≤ w'.heap.size ∧ ∀ k, k < w.heap.size → k ≠ gW → k ≠ b → some k ≠ vb.ownBlock → w'.heap[k]? = w.heap[k]?
theorem Kept.of_below {gW b : Nat} {vb : Value} {w w' : World} (h : Below w.heap.size w w') : Kept gW b vb w w' := ⟨h.size, fun k hk _ _ _ => h.block k hk⟩
theorem Kept.trans {gW b : Nat} {vb : Value} {w w' w2 : World} (h : Kept gW b vb w w') (h2 : Kept gW b vb w' w2) : Kept gW b vb w w2 :=
  ⟨Nat.le_trans h.1 h2.1, fun k hk h3 h4 h5 => (h2.2 k (Nat.lt_of_lt_of_le hk h.1) h3 h4 h5).trans (h.2 k hk h3 h4 h5)⟩
theorem Kept.of_keeps {gW b : Nat} {vb : Value} {w w' : World} (h : Keeps gW w w') : Kept gW b vb w w' := ⟨h.1, fun k hk h3 _ _ => h.2 k h3 hk⟩
theorem Kept.setB {gW b : Nat} {vb : Value} (w : World) (x : Value) : Kept gW b vb w (w.setCell ⟨b, 0, none⟩ x) := ⟨by simp, fun k _ _ h4 _ => Below.heap_setCell _ _ _ _ h4⟩
theorem CycsAt.blocks {w w' : World} {g n c : Nat} {C : List Cyc} (h : CycsAt w (.slice (some ⟨g, 0, none⟩) n c) C) (hn : n = C.length) (h0 : 0 < n) (hs : w.heap.size ≤ w'.heap.size) (hk : w'.heap[g]? = w.heap[g]?) : CycsAt w' (.slice (some ⟨g, 0, none⟩) n c) C := by
  obtain ⟨a, c', h1, h2, h3⟩ := h
  obtain ⟨g', o', h4, h5, h6⟩ := h3 (by omega)
  injection h1 with e1 e2 e3
  subst e1
  injection h4 with h4
  injection h4 with h7 h8
  subst h7 h8 e3
  exact ⟨_, _, by rw [hn], h2, fun _ => ⟨g, 0, rfl, Nat.lt_of_lt_of_le h5 hs, fun j hj => ⟨(World.cell?_of_block (a := ⟨g, 0 + j * 2, none⟩) hk).trans (h6 j hj).1, (World.cell?_of_block (a := ⟨g, 0 + j * 2 + 1, none⟩) hk).trans (h6 j hj).2⟩⟩⟩
theorem WordsAt.blocks {B : Nat} {w w' : World} {g n c : Nat} {W : List Int} (h : WordsAt B w (.slice (some ⟨g, 0, none⟩) n c) W) (hs : w.heap.size ≤ w'.heap.size) (hk : w'.heap[g]? = w.heap[g]?) : WordsAt B w' (.slice (some ⟨g, 0, none⟩) n c) W := by
  obtain ⟨g', c', h1, h2, h3, h4, h5⟩ := h
  injection h1 with e1 e2 e3
  injection e1 with e1
  injection e1 with e1
  subst e1 e3
  exact ⟨g, c, by rw [e2], h2, h3, Nat.lt_of_lt_of_le h4 hs, fun j hj => ⟨(World.frozen?_of_block (a := ⟨g, j, none⟩) hk).trans (h5 j hj).1, (World.cell?_of_block (a := ⟨g, j, none⟩) hk).trans (h5 j hj).2⟩⟩
theorem SpansAt.blocks {M : Nat} {w w' : World} {v : Value} {S : List Int} (h : SpansAt w v S) (hM : Behind M v) (hs : w.heap.size ≤ w'.heap.size) (hk : ∀ k, k < M → k < w.heap.size → w'.heap[k]? = w.heap[k]?) : SpansAt w' v S := by
  obtain ⟨a, c, rfl, h2, h3⟩ := h
  refine ⟨a, c, rfl, h2, fun h0 => ?_⟩
  obtain ⟨g, o, rfl, h5, h6⟩ := h3 h0
  have hg := hk g (hM _ _ _ rfl) h5
  exact ⟨g, o, rfl, Nat.lt_of_lt_of_le h5 hs, fun j hj => ⟨(World.cell?_of_block (a := ⟨g, o + j * 2, none⟩) hg).trans (h6 j hj).1, (World.cell?_of_block (a := ⟨g, o + j * 2 + 1, none⟩) hg).trans (h6 j hj).2⟩⟩
/-- The driver's memory where all of its blocks but the words' and the variable's are kept. -/
theorem DrvM.kept {M R gW b p m e gp ge nW cW : Nat} {vS : Value} {S W W' : List Int} {w w' : World} (h : DrvM M R gW p m e gp ge nW cW vS S W w) (hL : DLay M R gW b p m e gp ge vS) (hs : w.heap.size ≤ w'.heap.size)
    (hk : ∀ k, k < R → k ≠ gW → k ≠ b → w'.heap[k]? = w.heap[k]?) (hw : WordsAt M w' (.slice (some ⟨gW, 0, none⟩) nW cW) W') : DrvM M R gW p m e gp ge nW cW vS S W' w' := by
  have hpk := hk p hL.lp.1 hL.lp.2.1 hL.lp.2.2
  have hmk := hk m hL.lm.1 hL.lm.2.1 hL.lm.2.2
  have hek := hk e hL.le.1 hL.le.2.1 hL.le.2.2
  refine ⟨(World.cell?_of_block (a := ⟨p, 0, none⟩) hpk).trans h.hp, (World.cell?_of_block (a := ⟨m, 0, none⟩) hmk).trans h.m0, (World.cell?_of_block (a := ⟨m, 1, none⟩) hmk).trans h.m1, (World.cell?_of_block (a := ⟨e, 0, none⟩) hek).trans h.he,
    h.kp.blocks rfl (by decide) hs (hk gp hL.lgp.1 hL.lgp.2.1 hL.lgp.2.2), h.ke.blocks rfl (by decide) hs (hk ge hL.lge.1 hL.lge.2.1 hL.lge.2.2), h.sp.blocks hL.lvS hs (fun k h1 _ => hk k ?_ ?_ ?_), hw, Nat.le_trans h.sz hs⟩
  · have := hL.lgW; omega
  · have := hL.lgW; omega
  · have := hL.lb; omega
theorem DrvM.below {M R gW b p m e gp ge nW cW : Nat} {vS : Value} {S W : List Int} {w w' : World} (h : DrvM M R gW p m e gp ge nW cW vS S W w) (hL : DLay M R gW b p m e gp ge vS) (hB : Below R w w') : DrvM M R gW p m e gp ge nW cW vS S W w' :=
  h.kept hL hB.size (fun k hk _ _ => hB.block k hk) (h.wo.blocks hB.size (hB.block gW hL.lgW.2))
theorem DrvM.setB {M R gW b p m e gp ge nW cW : Nat} {vS : Value} {S W : List Int} {w : World} (h : DrvM M R gW p m e gp ge nW cW vS S W w) (hL : DLay M R gW b p m e gp ge vS) (x : Value) : DrvM M R gW p m e gp ge nW cW vS S W (w.setCell ⟨b, 0, none⟩ x) :=
  h.kept hL (by simp) (fun k _ _ hb => Below.heap_setCell _ _ _ _ hb) (h.wo.blocks (by simp) (Below.heap_setCell _ _ _ _ (fun hh => hL.lb.2.2 hh.symm)))
/-- The whole state between cycles. -/
structure Drv (M R gW b p m e gp ge nW cW : Nat) (vS : Value) (S : List Int) (row : List Cyc) (vb : Value) (W : List Int) (w : World) : Prop where
  mem : DrvM M R gW p m e gp ge nW cW vS S W w
  hb : w.cell? ⟨b, 0, none⟩ = some vb
  fz : w.frozen? ⟨b, 0, none⟩ = false
  own : COwn R w vb row
end Go.Proofs.YtfoocnhfppjbbaaGreatDoor
