/- A memory's words: erase. -/
import Derived.Test.YtfoocnhfppjbbaaGreatDoorM5
namespace Go.Proofs.YtfoocnhfppjbbaaGreatDoor
open Go.RowKit

/-- Words of which those from p up to q are all ones. -/
def onesTo (W : List Int) (p q : Int) : List Int := (List.range W.length).map fun (j : Nat) => if p ≤ (j : Int) ∧ (j : Int) < q then 65535 else W.getD j 0
theorem onesTo_len (W : List Int) (p q : Int) : (onesTo W p q).length = W.length := by simp [onesTo]
theorem onesTo_none (W : List Int) (p : Int) : onesTo W p p = W := by
  apply List.ext_getElem
  · exact onesTo_len W p p
  · intro i h1 h2
    simp only [onesTo, List.getElem_map, List.getElem_range]
    rw [if_neg (by omega)]
    simp [h2]
theorem onesTo_set (W : List Int) (p : Int) (j : Nat) (hp : p ≤ (j : Int)) : (onesTo W p (j : Int)).set j 65535 = onesTo W p ((j : Int) + 1) := by
  apply List.ext_getElem
  · simp [onesTo]
  · intro i h1 h2
    rw [List.getElem_set]
    by_cases e : j = i
    · subst e
      rw [if_pos rfl]
      simp [onesTo]
      intro h3
      omega
    · rw [if_neg e]
      simp only [onesTo, List.getElem_map, List.getElem_range]
      by_cases h3 : p ≤ (i : Int) ∧ (i : Int) < (j : Int)
      · rw [if_pos h3, if_pos (by omega)]
      · rw [if_neg h3, if_neg (by omega)]
set_option maxHeartbeats 800000 in
set_option maxRecDepth 100000 in
/-- A sector is erased: all bits are 1. -/
theorem erase_any (B : Nat) (S W : List Int) (hS : FlashRight S) (hL : (W.length : Int) = sumS S) (k : Nat) (hk : k < S.length) (w : World) (v u : Value) (hv : SpansAt w v S) (hu : WordsAt B w u W) (hBw : B ≤ w.heap.size) :
    Calls Tryz.prog 55 #[.agg #[v, u], .int .i64 (k : Int)] w fun e w' => e = .returned (.tuple #[]) ∧ WordsAt B w' u (onesTo W (preS S k) (preS S (k + 1))) ∧ Below B w w' ∧ ∀ g n c, u = .slice (some ⟨g, 0, none⟩) n c → Keeps g w w' := by
  have hp0 := preS_mono hS.low k (by omega) 0 (by omega)
  have hp1 := preS_mono hS.low (k + 1) (by omega) k (by omega)
  have hp2 := preS_mono hS.low S.length (Nat.le_refl _) (k + 1) (by omega)
  rw [show preS S 0 = 0 from rfl] at hp0
  rw [show preS S S.length = sumS S from rfl, ← hL] at hp2
  have hsum := hS.sum
  have hn20 := hS.l2
  rw [← hL] at hsum
  obtain ⟨a, c, rfl, -, hop⟩ := hv
  obtain ⟨gs, os, rfl, hgs, hcs⟩ := hop (by omega)
  obtain ⟨d1, d2⟩ := hcs k hk
  obtain ⟨p, hp⟩ : ∃ p : Nat, preS S k = (p : Int) := ⟨(preS S k).toNat, by omega⟩
  obtain ⟨q, hq⟩ : ∃ q : Nat, preS S (k + 1) = (q : Int) := ⟨(preS S (k + 1)).toNat, by omega⟩
  rw [hp] at d1 hp0 hp1
  rw [hq] at d2 hp1 hp2
  rw [hp, hq]
  obtain ⟨n, hn⟩ : ∃ n, n = S.length := ⟨_, rfl⟩
  rw [← hn] at hk hn20 hp2
  rw [← hn]
  have hu0 := hu
  obtain ⟨g, c2, rfl, hc2, hBg, hg, -⟩ := hu
  obtain ⟨m, hm⟩ : ∃ m, m = W.length := ⟨_, rfl⟩
  rw [← hm] at hc2 hu0 hsum hp2
  rw [← hm]
  have k0 : (0 : Int) ≤ (k : Int) := by omega
  have k1 : (k : Int) < (n : Int) := by omega
  have hpq : p ≤ q := by omega
  have hqm : q ≤ m := by omega
  have hm4 : m ≤ 4096 := by omega
  obtain ⟨W1, hW1⟩ : ∃ X : World, X = (w.alloc (.cells #[.slice (some ⟨gs, os, none⟩) n c, .slice (some ⟨g, 0, none⟩) m c2] 74)).alloc (.cells #[.int .i64 (p : Int), .int .i64 (q : Int)] 78) := ⟨_, rfl⟩
  have hBw1 : Below w.heap.size w W1 := by rw [hW1]; exact ((Below.refl _ _).alloc (Nat.le_refl _) _).alloc (by simp) _
  have hs1 : W1.heap.size = w.heap.size + 2 := by rw [hW1]; simp
  have e1 : W1.cell? ⟨w.heap.size, 1, none⟩ = some (.slice (some ⟨g, 0, none⟩) m c2) := by rw [hW1]; simp
  have e2 : W1.cell? ⟨w.heap.size + 1, 1, none⟩ = some (.int .i64 (q : Int)) := by rw [hW1]; simp
  have hwd := hu0.later hBw1
  have HC := Lib.hid (⟨hwd, hm⟩ : _ ∧ _)
  have HK1 := Lib.hid (Keeps.of_below (g := g) hBw1)
  have HB := Lib.hid (hBw1.mono hBw)
  have HW := Lib.hid hW1
  clear hcs hop hp hq hn hm hL hu0 hp0 hp1 hp2 hsum hS hwd hBw1 hW1
  go_enter Tryz.func55, Tryz.ntmps55
  go_wp2_with fail
  rw [← HW.out]
  go_loopw [5] (fun i wr => ∃ (j : Nat), p ≤ j ∧ j ≤ q ∧ i = .int .i64 (j : Int) ∧ WordsAt B wr (.slice (some ⟨g, 0, none⟩) m c2) (onesTo W (p : Int) (j : Int)) ∧ Below B W1 wr ∧ Keeps g W1 wr ∧ wr.cell? ⟨w.heap.size, 1, none⟩ = some (.slice (some ⟨g, 0, none⟩) m c2) ∧ wr.cell? ⟨w.heap.size + 1, 1, none⟩ = some (.int .i64 (q : Int))) (fun i _ => q - (intOf i).toNat)
  case atStart => exact ⟨p, by omega, by omega, rfl, by rw [onesTo_none]; exact HC.out.1, Below.refl _ _, Keeps.refl _ _, e1, e2⟩
  case round =>
    clear d1 d2 e1 e2
    obtain ⟨j, hj1, hj2, rfl, hwr, hB, hK, e1, e2⟩ := hrel
    by_cases hlt : j < q
    · have hput := hwr.put (by rw [onesTo_len]; exact HC.out.2) (show j < m by omega) 65535
      rw [onesTo_set W p j (by omega)] at hput
      obtain ⟨g', c', h1, -, -, -, h5⟩ := hwr
      have eg : g = g' := by
        injection h1 with x1 x2 x3
        injection x1 with x1
        injection x1
      rw [← eg] at h5
      clear h1 eg
      rw [onesTo_len, ← HC.out.2] at h5
      obtain ⟨hf, hv⟩ := h5 j (by omega)
      obtain ⟨y, hy⟩ : ∃ y, y = (onesTo W (p : Int) (j : Int)).getD j 0 := ⟨_, rfl⟩
      rw [← hy] at hv
      have n1 : w.heap.size ≠ g := by omega
      have n2 : w.heap.size + 1 ≠ g := by omega
      have f1 : (wr.setCell ⟨g, j, none⟩ (.int .i64 65535)).cell? ⟨w.heap.size, 1, none⟩ = some (.slice (some ⟨g, 0, none⟩) m c2) := (World.cell?_setCell_other _ _ _ _ (fun hh => n1 (by cases hh; rfl))).trans e1
      have f2 : (wr.setCell ⟨g, j, none⟩ (.int .i64 65535)).cell? ⟨w.heap.size + 1, 1, none⟩ = some (.int .i64 (q : Int)) := (World.cell?_setCell_other _ _ _ _ (fun hh => n2 (by cases hh; rfl))).trans e2
      have hB2 : Below B W1 (wr.setCell ⟨g, j, none⟩ (.int .i64 65535)) := hB.setCell hBg _
      have k2 : (j : Int) < (q : Int) := by omega
      have k3 : (j : Int) < (m : Int) := by omega
      have k4 : (0 : Int) ≤ (j : Int) := by omega
      have HF := Lib.hid (⟨hput, hB2, hK.setCell (a := ⟨g, j, none⟩) rfl (.int .i64 65535), f1, f2⟩ : _ ∧ _ ∧ _ ∧ _ ∧ _)
      clear hput hB hB2 hK f1 f2 h5 hy
      go_wp2_with fail
      go_roundw
      case rel => exact ⟨j + 1, by omega, by omega, by go_num, HF.out.1, HF.out.2.1, HF.out.2.2.1, HF.out.2.2.2.1, HF.out.2.2.2.2⟩
      case measure => simp [intOf]; omega
    · obtain rfl : j = q := by omega
      have HF := Lib.hid (⟨hwr, hB, hK⟩ : _ ∧ _ ∧ _)
      clear hwr hB hK
      go_wp2_with fail
      go_end0
      exact ⟨rfl, HF.out.1, HB.out.trans HF.out.2.1, fun g' n' c' hh => by cases hh; exact HK1.out.trans HF.out.2.2⟩
end Go.Proofs.YtfoocnhfppjbbaaGreatDoor
/- A memory does an operation. -/
namespace Go.Proofs.YtfoocnhfppjbbaaGreatDoor
open Go.RowKit

/-- All words are words. -/
def WordsOk (W : List Int) : Prop := ∀ j, j < W.length → 0 ≤ W.getD j 0 ∧ W.getD j 0 ≤ 65535
theorem doOp_erase (S W : List Int) (k v : Int) : doOp S W (1, k, v) = onesTo W (preS S k.toNat) (preS S (k.toNat + 1)) := by
  unfold doOp onesTo
  rw [if_pos rfl]
theorem doOp_program (S W : List Int) (k a v : Int) (h : k ≠ 1) : doOp S W (k, a, v) = W.set a.toNat (((W.getD a.toNat 0).toNat &&& v.toNat : Nat) : Int) := by
  unfold doOp
  rw [if_neg h]
theorem opErr_erase {x y a v : Int} (h : opErr x y (1, a, v) = 0) : 0 ≤ a ∧ a < x := by
  unfold opErr at h
  rw [if_pos rfl] at h
  dsimp only at h
  split at h
  · cases h
  · omega
theorem opErr_program {x y k a v : Int} (hk : k ≠ 1) (h : opErr x y (k, a, v) = 0) : k = 2 ∧ 0 ≤ a ∧ a < y ∧ 0 ≤ v ∧ v ≤ 65535 := by
  unfold opErr at h
  dsimp only at h
  rw [if_neg hk] at h
  split at h
  · split at h
    · cases h
    · omega
  · cases h
theorem doOp_ok (S W : List Int) (o : Opn) (h : WordsOk W) : WordsOk (doOp S W o) := by
  intro j hj
  rw [doOp_len] at hj
  have h0 := h j hj
  unfold doOp
  by_cases h1 : o.1 = 1
  · rw [if_pos h1]
    rw [List.getD_eq_getElem?_getD, List.getElem?_map, List.getElem?_range hj]
    simp only [Option.map_some, Option.getD_some]
    split <;> omega
  · rw [if_neg h1]
    by_cases e : o.2.1.toNat = j
    · rw [e, List.getD_eq_getElem?_getD, List.getElem?_set_self hj]
      simp only [Option.getD_some]
      have h3 : (W.getD j 0).toNat &&& o.2.2.toNat ≤ (W.getD j 0).toNat := Nat.and_le_left
      omega
    · rw [List.getD_eq_getElem?_getD, List.getElem?_set_ne e, ← List.getD_eq_getElem?_getD]
      exact h0
set_option maxHeartbeats 800000 in
set_option maxRecDepth 100000 in
theorem do_any (B : Nat) (S W : List Int) (hS : FlashRight S) (hL : (W.length : Int) = sumS S) (hok : WordsOk W) (k a x : Int) (ho : opErr (S.length : Int) (sumS S) (k, a, x) = 0) (w : World) (v u : Value) (hv : SpansAt w v S) (hu : WordsAt B w u W) (hBw : B ≤ w.heap.size) :
    Calls Tryz.prog 34 #[.agg #[v, u], .agg #[.int .i64 k, .int .i64 a, .int .i64 x]] w fun e w' => e = .returned (.tuple #[]) ∧ WordsAt B w' u (doOp S W (k, a, x)) ∧ Below B w w' ∧ ∀ g n c, u = .slice (some ⟨g, 0, none⟩) n c → Keeps g w w' := by
  obtain ⟨W1, hW1⟩ : ∃ X : World, X = (w.alloc (.cells #[v, u] 74)).alloc (.cells #[.int .i64 k, .int .i64 a, .int .i64 x] 51) := ⟨_, rfl⟩
  have hBw1 : Below w.heap.size w W1 := by rw [hW1]; exact ((Below.refl _ _).alloc (Nat.le_refl _) _).alloc (by simp) _
  have hv1 := hv.later hBw1
  have hu1 := hu.later hBw1
  have hB1 : B ≤ W1.heap.size := Nat.le_trans hBw hBw1.size
  have HK1 := Lib.hid (fun g : Nat => Keeps.of_below (g := g) hBw1)
  have HB := Lib.hid (hBw1.mono hBw)
  have HW := Lib.hid hW1
  by_cases h1 : k = 1
  · subst h1
    obtain ⟨a0, a1⟩ := opErr_erase ho
    obtain ⟨a, rfl⟩ : ∃ z : Nat, a = (z : Int) := ⟨a.toNat, by omega⟩
    have hq := erase_any B S W hS hL a (by omega) W1 v u hv1 hu1 hB1
    rw [doOp_erase, Int.toNat_natCast]
    have HG := Lib.hid hq
    clear hq hv hu hv1 hu1 hBw1 hW1 ho hok hS hL
    go_enter Tryz.func34, Tryz.ntmps34
    go_wp2_with fail
    rw [← HW.out]
    refine HG.out.mono ?_
    rintro e w' ⟨rfl, h2, h3, h4⟩
    have HF := Lib.hid (⟨h2, h3, h4⟩ : _ ∧ _ ∧ _)
    clear h2 h3 h4
    go_wp2_with fail
    go_end0
    exact ⟨rfl, HF.out.1, HB.out.trans HF.out.2.1, fun g n c hh => (HK1.out g).trans (HF.out.2.2 g n c hh)⟩
  · obtain ⟨rfl, a0, a1, x0, x1⟩ := opErr_program h1 ho
    obtain ⟨a, rfl⟩ : ∃ z : Nat, a = (z : Int) := ⟨a.toNat, by omega⟩
    have hq := program_any B W a (by omega) x ⟨x0, x1⟩ (hok a (by omega)) W1 v u hu1 hB1
    rw [doOp_program S W 2 _ x (by decide), Int.toNat_natCast]
    have HG := Lib.hid hq
    clear hq hv hu hv1 hu1 hBw1 hW1 ho hok hS hL h1
    go_enter Tryz.func34, Tryz.ntmps34
    go_wp2_with fail
    rw [← HW.out]
    refine HG.out.mono ?_
    rintro e w' ⟨rfl, h2, h3, h4⟩
    have HF := Lib.hid (⟨h2, h3, h4⟩ : _ ∧ _ ∧ _)
    clear h2 h3 h4
    go_wp2_with fail
    go_end0
    exact ⟨rfl, HF.out.1, HB.out.trans HF.out.2.1, fun g n c hh => (HK1.out g).trans (HF.out.2.2 g n c hh)⟩
end Go.Proofs.YtfoocnhfppjbbaaGreatDoor
/- What is wrong with words of a memory, by the reference; the reference's SectorAt. -/
namespace Go.Proofs.YtfoocnhfppjbbaaGreatDoor
open Go.RowKit

end Go.Proofs.YtfoocnhfppjbbaaGreatDoor
/- The reference's SectorAt. -/
namespace Go.Proofs.YtfoocnhfppjbbaaGreatDoor
open Go.RowKit

/-- The sector of an address, its first address, and whether there is one. -/
def secTup (S : List Int) (a : Int) : Value := match secAt S a with | some k => .tuple #[.int .i64 (k : Int), .int .i64 (preS S k), .bool true] | none => .tuple #[.int .i64 0, .int .i64 0, .bool false]
theorem secTup_is {S : List Int} (hS : FlashRight S) {a : Int} {k : Nat} (hk : k < S.length) (h : isAt S a k = true) : secTup S a = .tuple #[.int .i64 (k : Int), .int .i64 (preS S k), .bool true] := by
  unfold isAt at h
  simp at h
  unfold secTup
  rw [secAt_is hS hk h.1 h.2]
theorem secTup_no {S : List Int} {a : Int} (h : ∀ j, j < S.length → isAt S a j = false) : secTup S a = .tuple #[.int .i64 0, .int .i64 0, .bool false] := by
  unfold secTup
  cases h1 : secAt S a with
  | none => rfl
  | some k =>
    obtain ⟨e1, e2, e3⟩ := secAt_some h1
    have h2 := h k e1
    unfold isAt at h2
    simp at h2
    omega
end Go.Proofs.YtfoocnhfppjbbaaGreatDoor
