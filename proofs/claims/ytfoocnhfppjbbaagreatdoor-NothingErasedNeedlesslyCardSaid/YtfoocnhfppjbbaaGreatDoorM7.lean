/- Package flash: the addresses of each sector. -/
import Derived.Test.YtfoocnhfppjbbaaGreatDoorM6
import Derived.Test.YtfoocnhfppjbbaaGreatDoorVgCnt
import Derived.BigQuiet
import Derived.Deep.RegionHeld3
namespace Go.Proofs.YtfoocnhfppjbbaaGreatDoor
open Go.RowKit

/-- A slice that has a block has one at or above the base. -/
def Ahead (B : Nat) (x : Value) : Prop := ∀ a n c, x = .slice (some a) n c → B ≤ a.block
def RowP (w : World) (g n : Nat) (f : Nat → Int) (k : Nat) : Prop :=
  (∀ j, j < 2 * n → w.frozen? ⟨g, j, none⟩ = false ∧ ∃ v, w.cell? ⟨g, j, none⟩ = some v) ∧ ∀ j, j < k → w.cell? ⟨g, j * 2, none⟩ = some (.int .i64 (f j)) ∧ w.cell? ⟨g, j * 2 + 1, none⟩ = some (.int .i64 (f (j + 1)))
theorem set_there {w : World} {g i : Nat} {u : Value} (z : Value) {j : Nat} (hi : w.cell? ⟨g, i, none⟩ = some u) (h : w.frozen? ⟨g, j, none⟩ = false ∧ ∃ v, w.cell? ⟨g, j, none⟩ = some v) : (w.setCell ⟨g, i, none⟩ z).frozen? ⟨g, j, none⟩ = false ∧ ∃ v, (w.setCell ⟨g, i, none⟩ z).cell? ⟨g, j, none⟩ = some v := by
  refine ⟨(World.frozen?_setCell _ _ _ _).trans h.1, ?_⟩
  by_cases e : i = j
  · subst e
    exact ⟨z, World.cell?_setCell_same _ _ _ hi⟩
  · obtain ⟨v, hv⟩ := h.2
    exact ⟨v, (World.cell?_setCell_other _ _ _ _ (fun hh => e (by cases hh; rfl))).trans hv⟩
theorem RowP.set {w : World} {g n k : Nat} {f : Nat → Int} (h : RowP w g n f k) (hk : k < n) {u v : Int} (hu : u = f k) (hv : v = f (k + 1)) : RowP ((w.setCell ⟨g, k * 2, none⟩ (.int .i64 u)).setCell ⟨g, k * 2 + 1, none⟩ (.int .i64 v)) g n f (k + 1) := by
  subst hu
  subst hv
  obtain ⟨h1, h2⟩ := h
  obtain ⟨x, hx⟩ := (h1 (k * 2) (by omega)).2
  have a1 := fun j hj => set_there (.int .i64 (f k)) (j := j) hx (h1 j hj)
  obtain ⟨y, hy⟩ := (a1 (k * 2 + 1) (by omega)).2
  refine ⟨fun j hj => set_there _ hy (a1 j hj), fun j hj => ?_⟩
  by_cases e : j = k
  · subst e
    exact ⟨(World.cell?_setCell_other _ _ _ _ (by simp)).trans (World.cell?_setCell_same _ _ _ hx), World.cell?_setCell_same _ _ _ hy⟩
  · obtain ⟨e1, e2⟩ := h2 j (by omega)
    exact ⟨(World.cell?_setCell_other _ _ _ _ (by simp; try omega)).trans ((World.cell?_setCell_other _ _ _ _ (by simp; try omega)).trans e1), (World.cell?_setCell_other _ _ _ _ (by simp; try omega)).trans ((World.cell?_setCell_other _ _ _ _ (by simp; try omega)).trans e2)⟩
theorem RowP.of_owns {w : World} {base g n cap : Nat} {e : TypeId} {xs : List Value} (f : Nat → Int) (h : w.ownsRow base e 2 (.slice (some ⟨g, 0, none⟩) n cap) n xs) : RowP w g n f 0 := by
  obtain ⟨hl, h⟩ := h
  rcases h with ⟨h, _⟩ | ⟨g', cap', cur, hv, hg, hh, hn, hc, hcs, ht⟩
  · simp at h
  · simp at hv
    obtain ⟨rfl, rfl⟩ := hv
    refine ⟨fun j hj => ⟨by simp [World.frozen?, hh], ?_⟩, fun j hj => by omega⟩
    have : j < cur.size := by omega
    exact ⟨cur[j], by simp [World.cell?, hh, this]⟩
theorem Tryz.infoWin : (Tryz.prog.info? 78).map (fun i => (i.zero, i.size, i.bytes)) = some (some (.agg #[.int .i64 0, .int .i64 0]), 2, 16) := by kernel_rfl
set_option maxHeartbeats 800000 in
set_option maxRecDepth 100000 in
theorem spansOf_any (S : List Int) (hS : FlashRight S) (w : World) (v : Value) (h : NumsAt w v S) :
    Calls Tryz.prog 37 #[.agg #[v]] w fun e w' => ∃ x, e = .returned x ∧ SpansAt w' x S ∧ Ahead w.heap.size x ∧ Below w.heap.size w w' := by
  have hps := fun k hk => preS_small hS.small k hk
  have hn20 := hS.l2
  obtain ⟨W1, hW1⟩ : ∃ W1 : World, W1 = w.alloc (.cells #[v] 27) := ⟨_, rfl⟩
  have hB1 : Below w.heap.size w W1 := by rw [hW1]; exact (Below.refl _ _).alloc (Nat.le_refl _) _
  have hc0 : W1.cell? ⟨w.heap.size, 0, none⟩ = some v := by rw [hW1]; simp
  have hl1 : w.heap.size < W1.heap.size := World.block_lt_of_cell? W1 ⟨w.heap.size, 0, none⟩ hc0
  have h1 := h.later hB1
  obtain ⟨a, c, rfl, -, hop⟩ := h1
  obtain ⟨n, hn⟩ : ∃ n, n = S.length := ⟨_, rfl⟩
  rw [← hn] at hop hps hW1 hc0 hn20 ⊢
  have HC := Lib.hid (⟨hop, hB1, hps, hn, hS⟩ : _ ∧ _ ∧ _ ∧ _ ∧ _)
  have HW := Lib.hid hW1
  clear hop hB1 hps hn hS h hW1
  have hund : Tryz.prog.underlying 45 = some (.slice 78) := by kernel_rfl
  obtain ⟨i0, hi, hz0, hz1, hz2⟩ := info_parts Tryz.infoWin
  go_enter Tryz.func37, Tryz.ntmps37
  go_wp2_with (at_make; rw [← HW.out]; refine wpList_make_full _ rfl (.tmp 9) (.tmp 9) 45 rfl W1.heap.size 78 i0 (.agg #[.int .i64 0, .int .i64 0]) 2 hund hi hz0 hz1 _ _ _ _ n rfl rfl rfl rfl ?b1 ?b2 ?b3 ?_)
  case b1 => rw [hz2]; omega
  case b2 => unfold maxLen; omega
  case b3 => exact Nat.le_refl _
  intro w2 hown hgrow
  have hB2 : Below W1.heap.size W1 w2 := (Below.refl W1.heap.size W1).grown hgrow (Nat.le_refl _) (fun k hk => by cases hk)
  have hrow := RowP.of_owns (fun j => preS S j) hown
  have hgl : W1.heap.size < w2.heap.size := by
    obtain ⟨-, ⟨h0, -⟩ | ⟨g', cap', cur, hv, -, hh, -⟩⟩ := hown
    · cases h0
    · injection hv with x1 x2 x3
      injection x1 with x1
      injection x1 with x1
      subst x1
      by_cases e : W1.heap.size < w2.heap.size
      · exact e
      · rw [Array.getElem?_eq_none (by omega)] at hh
        cases hh
  have g0 := (hB2.cell (p := ⟨w.heap.size, 0, none⟩) hl1).trans hc0
  have HB2 := Lib.hid hB2
  clear hown hgrow hB2
  obtain ⟨g, hg⟩ : ∃ g, g = W1.heap.size := ⟨_, rfl⟩
  rw [← hg] at hrow hgl ⊢
  have HG := Lib.hid hg
  clear hg
  go_wp2_with fail
  go_loopw [4, 14] (fun s i wr => ∃ k : Nat, k ≤ n ∧ i = .int .i64 (k : Int) ∧ s = .int .i64 (preS S k) ∧ RowP wr g n (fun j => preS S j) k ∧ Below W1.heap.size W1 wr ∧ g < wr.heap.size) (fun _ i _ => n - (intOf i).toNat)
  case atStart => exact ⟨0, by omega, rfl, rfl, hrow, HB2.out, hgl⟩
  case round =>
    obtain ⟨k, hk, rfl, rfl, hrw, hB, hgr⟩ := hrel
    by_cases hlt : k < n
    · obtain ⟨gs, o, rfl, hgs, hcell⟩ := HC.out.1 (by omega)
      have hc := (hB.cell (p := ⟨gs, o + k, none⟩) hgs).trans (hcell k hlt)
      have hp := HC.out.2.2.1 k (by omega)
      have hp2 := HC.out.2.2.1 (k + 1) (by omega)
      have hsn : preS S (k + 1) = preS S k + S.getD k 0 := rfl
      have hlo := HC.out.2.2.2.2.low k (by rw [← HC.out.2.2.2.1]; exact hlt)
      have hhi := HC.out.2.2.2.2.high k (by rw [← HC.out.2.2.2.1]; exact hlt)
      have k0 : (0 : Int) ≤ (k : Int) := by omega
      have k1 : (k : Int) < (n : Int) := by omega
      have hset := hrw.set (u := preS S k) (v := preS S k + S.getD k 0) hlt rfl rfl
      have hf0 := (hrw.1 (k * 2) (by omega)).1
      have hf1 := (hrw.1 (k * 2 + 1) (by omega)).1
      obtain ⟨v0, hv0⟩ := (hrw.1 (k * 2) (by omega)).2
      obtain ⟨v1, hv1⟩ := (hrw.1 (k * 2 + 1) (by omega)).2
      obtain ⟨y, hy⟩ : ∃ y, y = S.getD k 0 := ⟨_, rfl⟩
      obtain ⟨p, hpp⟩ : ∃ p, p = preS S k := ⟨_, rfl⟩
      rw [← hy] at hc hlo hhi hsn hset
      rw [← hpp] at hp hsn hset ⊢
      rw [hsn] at hp2
      have hB3 : Below W1.heap.size W1 ((wr.setCell ⟨g, k * 2, none⟩ (.int .i64 p)).setCell ⟨g, k * 2 + 1, none⟩ (.int .i64 (p + y))) := (hB.setCell (by rw [HG.out]; exact Nat.le_refl _) _).setCell (by rw [HG.out]; exact Nat.le_refl _) _
      have HD := Lib.hid (⟨hset, hB3, hsn⟩ : _ ∧ _ ∧ _)
      clear hcell hy hpp hsn hset hB3 hB hrw g0 hrow
      go_wp2_with fail
      go_roundw
      case rel => exact ⟨k + 1, by omega, by go_num, by rw [HD.out.2.2], HD.out.1, HD.out.2.1, by simpa using hgr⟩
      case measure => simp [intOf]; omega
    · obtain rfl : k = n := by omega
      obtain ⟨hr1, hr2⟩ := hrw
      have hfin : SpansAt wr (.slice (some ⟨g, 0, none⟩) k k) S := ⟨some ⟨g, 0, none⟩, k, by rw [HC.out.2.2.2.1], by rw [HC.out.2.2.2.1]; exact Nat.le_refl _, fun _ => ⟨g, 0, rfl, hgr, fun j hj => by simp only [Nat.zero_add]; exact hr2 j (by rw [HC.out.2.2.2.1]; exact hj)⟩⟩
      have HF := Lib.hid (⟨hfin, hB⟩ : _ ∧ _)
      clear hr1 hr2 hfin hB g0 hrow
      go_wp2_with fail
      go_ret
      exact ⟨_, rfl, HF.out.1, fun a n c hx => by injection hx with x1 x2 x3; injection x1 with x1; subst x1; exact (by rw [HG.out]; exact HC.out.2.1.size), HC.out.2.1.trans (HF.out.2.mono HC.out.2.1.size)⟩
end Go.Proofs.YtfoocnhfppjbbaaGreatDoor
/- Package flash: SectorOf. -/
namespace Go.Proofs.YtfoocnhfppjbbaaGreatDoor
open Go.RowKit

/-- What SectorOf answers. -/
def sofTup (S : List Int) (a : Int) : Value :=
  if flErr S = 0 then (match secAt S a with | some k => .tuple #[.int .i64 (k : Int), .int .i64 (preS S k), .int .i64 0] | none => .tuple #[.int .i64 0, .int .i64 0, .int .i64 1])
  else .tuple #[.int .i64 0, .int .i64 0, .int .i64 (flErr S)]
end Go.Proofs.YtfoocnhfppjbbaaGreatDoor
/- The reference's OpsFault. Made by gens/mcq.py. -/
namespace Go.Proofs.YtfoocnhfppjbbaaGreatDoor
open Go.RowKit

theorem opErr_two (x y a v : Int) : opErr x y (2, a, v) = if inB a 0 (y - 1) = true then (if inB v 0 65535 = true then 0 else 1) else 1 := by
  unfold opErr inB
  dsimp only
  rw [if_neg (show ¬ (2 : Int) = 1 by decide), if_pos rfl]
  simp only [Bool.and_eq_true, decide_eq_true_eq]
  by_cases h : a < 0 ∨ y - 1 < a ∨ v < 0 ∨ 65535 < v
  · rw [if_pos h]
    by_cases h2 : 0 ≤ a ∧ a ≤ y - 1
    · rw [if_pos h2, if_neg (by omega)]
    · rw [if_neg h2]
  · rw [if_neg h, if_pos (by omega), if_pos (by omega)]
theorem opErr_one (x y a v : Int) : opErr x y (1, a, v) = if inB a 0 (x - 1) = true then (if v = 0 then 0 else 3) else 1 := by
  unfold opErr inB
  dsimp only
  rw [if_pos rfl]
  simp only [Bool.and_eq_true, decide_eq_true_eq]
  by_cases h : a < 0 ∨ x - 1 < a
  · rw [if_pos h, if_neg (show ¬ (0 ≤ a ∧ a ≤ x - 1) by omega)]
  · rw [if_neg h, if_pos (show 0 ≤ a ∧ a ≤ x - 1 by omega)]
    by_cases h2 : v = 0
    · rw [if_neg (show ¬ v ≠ 0 from fun hh => hh h2), if_pos h2]
    · rw [if_pos h2, if_neg h2]
theorem opErr_else (x y k a v : Int) (h1 : k ≠ 1) (h2 : k ≠ 2) : opErr x y (k, a, v) = 4 := by
  unfold opErr
  dsimp only
  rw [if_neg h1, if_neg h2]
end Go.Proofs.YtfoocnhfppjbbaaGreatDoor
