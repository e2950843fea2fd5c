/- A memory does an operation. -/
import Derived.Test.YtdejjplkignaoaaMcJ
namespace Go.Proofs.Ytdejjplkignaoaa
open Go.RowKit

/-- All words are words. -/
def WordsOk (W : List Int) : Prop := ∀ j, j < W.length → 0 ≤ W.getD j 0 ∧ W.getD j 0 ≤ 65535
theorem doOp_erase (S W : List Int) (k v : Int) : doOp S W (1, k, v) = onesTo W (preS S k.toNat) (preS S (k.toNat + 1)) := by
  unfold doOp onesTo
  rw [if_pos rfl]
theorem doOp_program (S W : List Int) (k a v : Int) (h : k ≠ 1) : doOp S W (k, a, v) = W.set a.toNat (((W.getD a.toNat 0).toNat &&& v.toNat : Nat) : Int) := by
  unfold doOp
  rw [if_neg h]
theorem opErr_erase {x y a v : Int} (h : opErr x y (1, a, v) = 0) : 0 ≤ a ∧ a < x := by
  unfold opErr at h
  rw [if_pos rfl] at h
  dsimp only at h
  split at h
  · cases h
  · omega
theorem opErr_program {x y k a v : Int} (hk : k ≠ 1) (h : opErr x y (k, a, v) = 0) : k = 2 ∧ 0 ≤ a ∧ a < y ∧ 0 ≤ v ∧ v ≤ 65535 := by
  unfold opErr at h
  dsimp only at h
  rw [if_neg hk] at h
  split at h
  · split at h
    · cases h
    · omega
  · cases h
theorem doOp_ok (S W : List Int) (o : Opn) (h : WordsOk W) : WordsOk (doOp S W o) := by
  intro j hj
  rw [doOp_len] at hj
  have h0 := h j hj
  unfold doOp
  by_cases h1 : o.1 = 1
  · rw [if_pos h1]
    rw [List.getD_eq_getElem?_getD, List.getElem?_map, List.getElem?_range hj]
    simp only [Option.map_some, Option.getD_some]
    split <;> omega
  · rw [if_neg h1]
    by_cases e : o.2.1.toNat = j
    · rw [e, List.getD_eq_getElem?_getD, List.getElem?_set_self hj]
      simp only [Option.getD_some]
      have h3 : (W.getD j 0).toNat &&& o.2.2.toNat ≤ (W.getD j 0).toNat := Nat.and_le_left
      omega
    · rw [List.getD_eq_getElem?_getD, List.getElem?_set_ne e, ← List.getD_eq_getElem?_getD]
      exact h0
set_option maxHeartbeats 800000 in
set_option maxRecDepth 100000 in
theorem do_any (B : Nat) (S W : List Int) (hS : FlashRight S) (hL : (W.length : Int) = sumS S) (hok : WordsOk W) (k a x : Int) (ho : opErr (S.length : Int) (sumS S) (k, a, x) = 0) (w : World) (v u : Value) (hv : SpansAt w v S) (hu : WordsAt B w u W) (hBw : B ≤ w.heap.size) :
    Calls Try.prog 57 #[.agg #[v, u], .agg #[.int .i64 k, .int .i64 a, .int .i64 x]] w fun e w' => e = .returned (.tuple #[]) ∧ WordsAt B w' u (doOp S W (k, a, x)) ∧ Below B w w' ∧ ∀ g n c, u = .slice (some ⟨g, 0, none⟩) n c → Keeps g w w' := by
  obtain ⟨W1, hW1⟩ : ∃ X : World, X = (w.alloc (.cells #[v, u] 97)).alloc (.cells #[.int .i64 k, .int .i64 a, .int .i64 x] 57) := ⟨_, rfl⟩
  have hBw1 : Below w.heap.size w W1 := by rw [hW1]; exact ((Below.refl _ _).alloc (Nat.le_refl _) _).alloc (by simp) _
  have hv1 := hv.later hBw1
  have hu1 := hu.later hBw1
  have hB1 : B ≤ W1.heap.size := Nat.le_trans hBw hBw1.size
  have HK1 := Lib.hid (fun g : Nat => Keeps.of_below (g := g) hBw1)
  have HB := Lib.hid (hBw1.mono hBw)
  have HW := Lib.hid hW1
  by_cases h1 : k = 1
  · subst h1
    obtain ⟨a0, a1⟩ := opErr_erase ho
    obtain ⟨a, rfl⟩ : ∃ z : Nat, a = (z : Int) := ⟨a.toNat, by omega⟩
    have hq := erase_any B S W hS hL a (by omega) W1 v u hv1 hu1 hB1
    rw [doOp_erase, Int.toNat_natCast]
    have HG := Lib.hid hq
    clear hq hv hu hv1 hu1 hBw1 hW1 ho hok hS hL
    go_enter Try.func57, Try.ntmps57
    go_wp2_with fail
    rw [← HW.out]
    refine HG.out.mono ?_
    rintro e w' ⟨rfl, h2, h3, h4⟩
    have HF := Lib.hid (⟨h2, h3, h4⟩ : _ ∧ _ ∧ _)
    clear h2 h3 h4
    go_wp2_with fail
    go_end0
    exact ⟨rfl, HF.out.1, HB.out.trans HF.out.2.1, fun g n c hh => (HK1.out g).trans (HF.out.2.2 g n c hh)⟩
  · obtain ⟨rfl, a0, a1, x0, x1⟩ := opErr_program h1 ho
    obtain ⟨a, rfl⟩ : ∃ z : Nat, a = (z : Int) := ⟨a.toNat, by omega⟩
    have hq := program_any B W a (by omega) x ⟨x0, x1⟩ (hok a (by omega)) W1 v u hu1 hB1
    rw [doOp_program S W 2 _ x (by decide), Int.toNat_natCast]
    have HG := Lib.hid hq
    clear hq hv hu hv1 hu1 hBw1 hW1 ho hok hS hL h1
    go_enter Try.func57, Try.ntmps57
    go_wp2_with fail
    rw [← HW.out]
    refine HG.out.mono ?_
    rintro e w' ⟨rfl, h2, h3, h4⟩
    have HF := Lib.hid (⟨h2, h3, h4⟩ : _ ∧ _ ∧ _)
    clear h2 h3 h4
    go_wp2_with fail
    go_end0
    exact ⟨rfl, HF.out.1, HB.out.trans HF.out.2.1, fun g n c hh => (HK1.out g).trans (HF.out.2.2 g n c hh)⟩
end Go.Proofs.Ytdejjplkignaoaa
