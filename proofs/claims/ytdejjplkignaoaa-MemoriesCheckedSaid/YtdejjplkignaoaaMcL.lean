/- What is wrong with words of a memory, by the reference; the reference's SectorAt. -/
import Derived.Test.YtdejjplkignaoaaMcK
namespace Go.Proofs.Ytdejjplkignaoaa
open Go.RowKit

set_option maxHeartbeats 800000 in
set_option maxRecDepth 100000 in
theorem wordsFault_any (S L : List Int) (hz : S.length ≤ 1000000) (hzL : L.length ≤ 1000000) (b : Nat) (w : World) (v u : Value) (h : NumsAt w v S) (hL : NumsAt w u L) (hb : w.cell? ⟨b, 0, none⟩ = some u) :
    Calls Try.prog 11 #[.agg #[v], .slice (some ⟨b, 0, none⟩) 1 1] w fun e w' => e = .returned (.int .i64 (cmErr S L)) ∧ Below w.heap.size w w' := by
  obtain ⟨W1, hW1⟩ : ∃ W1 : World, W1 = w.alloc (.cells #[v] 27) := ⟨_, rfl⟩
  have hB1 : Below w.heap.size w W1 := by rw [hW1]; exact (Below.refl _ _).alloc (Nat.le_refl _) _
  have hc0 : W1.cell? ⟨w.heap.size, 0, none⟩ = some v := by rw [hW1]; simp
  have hbl : b < w.heap.size := World.block_lt_of_cell? w ⟨b, 0, none⟩ hb
  have hl1 : w.heap.size < W1.heap.size := World.block_lt_of_cell? W1 ⟨w.heap.size, 0, none⟩ hc0
  have h1 := h.later hB1
  have hL1 := hL.later hB1
  have hb1 := (hB1.cell (p := ⟨b, 0, none⟩) hbl).trans hb
  have hcf := flashFault_any S hz W1 v h1
  have him := fun hS W hB => imageFault_any S L hS hzL W v u (h1.later hB) (hL1.later hB)
  obtain ⟨E, hE⟩ : ∃ E, E = cmErr S L := ⟨_, rfl⟩
  rw [← hE]
  unfold cmErr at hE
  have HW := Lib.hid hW1
  have HB1 := Lib.hid hB1
  have HI := Lib.hid him
  have hS := fun h0 => (flErr_right (S := S) h0).small
  obtain ⟨F, hF⟩ : ∃ F, F = flErr S := ⟨_, rfl⟩
  rw [← hF] at hcf hE hS
  obtain ⟨a, c, rfl, -, -⟩ := h
  obtain ⟨a2, c2, rfl, -, -⟩ := hL
  have hbl1 : b < W1.heap.size := Nat.lt_trans hbl hl1
  have HF := Lib.hid (⟨hE, hS⟩ : _ ∧ _)
  clear hW1 hB1 him h1 hL1 hb hE hS hF
  go_enter Try.func11, Try.ntmps11
  go_wp2_with fail
  rw [← HW.out]
  refine hcf.mono ?_
  rintro e w2 ⟨rfl, hB2⟩
  have g0 := (hB2.cell (p := ⟨w.heap.size, 0, none⟩) hl1).trans hc0
  have g1 := (hB2.cell (p := ⟨b, 0, none⟩) hbl1).trans hb1
  have HB2 := Lib.hid hB2
  clear hcf hB2
  by_cases h0 : F = 0
  · have hq := HI.out (HF.out.2 h0) w2 HB2.out
    have hE := HF.out.1
    rw [if_pos h0] at hE
    rw [← hE] at hq
    subst h0
    clear hE
    have HQ := Lib.hid hq
    clear hq
    go_wp2_with fail
    go_loopw [5, 12] (fun f i wr => (f = .int .i64 0 ∧ i = .int .i64 0 ∧ wr = w2) ∨ (f = .int .i64 E ∧ i = .int .i64 1 ∧ Below w2.heap.size w2 wr)) (fun _ i _ => 1 - (intOf i).toNat)
    case atStart => exact Or.inl ⟨rfl, rfl, rfl⟩
    case round =>
      rcases hrel with ⟨rfl, rfl, rfl⟩ | ⟨rfl, rfl, hB⟩
      · have hq := HQ.out
        go_wp2_with fail
        refine hq.mono ?_
        rintro e w3 ⟨rfl, hB3⟩
        have HB3 := Lib.hid hB3
        clear hq hB3
        go_wp2_with fail
        go_roundw
        case rel => exact Or.inr ⟨rfl, rfl, HB3.out⟩
        case measure => simp [intOf]
      · have HB3 := Lib.hid hB
        clear hB
        go_wp2_with fail
        go_ret
        exact ⟨rfl, HB1.out.trans ((HB2.out.trans (HB3.out.mono HB2.out.size)).mono HB1.out.size)⟩
  · have n0 : (F == 0) = false := by simpa using h0
    have hE := HF.out.1
    rw [if_neg h0] at hE
    subst hE
    clear h0
    go_wp2_with fail
    go_loopw [5, 12] (fun f i wr => f = .int .i64 E ∧ (i = .int .i64 0 ∨ i = .int .i64 1) ∧ wr = w2) (fun _ i _ => 1 - (intOf i).toNat)
    case atStart => exact ⟨rfl, Or.inl rfl, rfl⟩
    case round =>
      obtain ⟨rfl, rfl | rfl, rfl⟩ := hrel
      · go_wp2_with fail
        go_roundw
        case rel => exact ⟨rfl, Or.inr rfl, trivial⟩
        case measure => simp [intOf]
      · go_wp2_with fail
        go_ret
        exact ⟨rfl, HB1.out.trans (HB2.out.mono HB1.out.size)⟩
end Go.Proofs.Ytdejjplkignaoaa
