/- The reference's erased. -/
import Derived.Test.YtdejjplkignaoaaMcR
namespace Go.Proofs.Ytdejjplkignaoaa
open Go.RowKit

theorem onesTo_le (W : List Int) (p q : Int) (h : q ≤ p) : onesTo W p q = W := by
  apply List.ext_getElem
  · exact onesTo_len W p q
  · intro i h1 h2
    simp only [onesTo, List.getElem_map, List.getElem_range]
    rw [if_neg (by omega)]
    simp [h2]
/-- Words of which those of a sector are erased up to an address. -/
def partTo (W : List Int) (p q : Int) (j : Nat) : List Int := onesTo W p (min q (j : Int))
theorem partTo_len (W : List Int) (p q : Int) (j : Nat) : (partTo W p q j).length = W.length := onesTo_len _ _ _
theorem partTo_zero (W : List Int) (p q : Int) (hp : 0 ≤ p) : partTo W p q 0 = W := onesTo_le _ _ _ (by omega)
theorem partTo_all (W : List Int) (p q : Int) (j : Nat) (h : q ≤ (j : Int)) : partTo W p q j = onesTo W p q := by
  unfold partTo
  rw [show min q (j : Int) = q by omega]
theorem partTo_in (W : List Int) (p q : Int) (j : Nat) (h1 : p ≤ (j : Int)) (h2 : (j : Int) < q) : (partTo W p q j).set j 65535 = partTo W p q (j + 1) := by
  unfold partTo
  rw [show min q (j : Int) = (j : Int) by omega, show min q ((j + 1 : Nat) : Int) = (j : Int) + 1 by omega]
  exact onesTo_set W p j h1
theorem partTo_out (W : List Int) (p q : Int) (j : Nat) (h : ¬ (p ≤ (j : Int) ∧ (j : Int) < q)) : partTo W p q (j + 1) = partTo W p q j := by
  unfold partTo
  by_cases h1 : q ≤ (j : Int)
  · rw [show min q (j : Int) = q by omega, show min q ((j + 1 : Nat) : Int) = q by omega]
  · rw [onesTo_le W p _ (by omega), onesTo_le W p _ (by omega)]
theorem secAt_there {S : List Int} {j : Nat} (hj : (j : Int) < sumS S) : ∃ k, k < S.length ∧ preS S k ≤ (j : Int) ∧ (j : Int) < preS S (k + 1) := by
  obtain ⟨k, h1, h2⟩ := secAt_has (S := S) (j : Int) (by omega) S.length (Nat.le_refl _) hj
  exact ⟨k, h1, h2⟩
theorem preS_apart {S : List Int} (hS : FlashRight S) {a b : Nat} (ha : a < S.length) (hb : b < S.length) {x : Int} (h1 : preS S a ≤ x) (h2 : x < preS S (a + 1)) (h3 : preS S b ≤ x) (h4 : x < preS S (b + 1)) : a = b := by
  have e1 := secAt_is hS ha h1 h2
  have e2 := secAt_is hS hb h3 h4
  rw [e1] at e2
  injection e2
set_option maxHeartbeats 800000 in
set_option maxRecDepth 100000 in
theorem erased_any (S W : List Int) (hS : FlashRight S) (hL : (W.length : Int) = sumS S) (k : Nat) (hk : k < S.length) (w : World) (v u : Value) (h : NumsAt w v S) (hu : NumsAt w u W) :
    Calls Try.prog 59 #[.agg #[v], u, .int .i64 (k : Int)] w fun e w' => ∃ x, e = .returned x ∧ WordsAt w.heap.size w' x (onesTo W (preS S k) (preS S (k + 1))) ∧ Below w.heap.size w w' := by
  have hp0 := preS_mono hS.low k (by omega) 0 (by omega)
  rw [show preS S 0 = 0 from rfl] at hp0
  have hp2 := preS_mono hS.low S.length (Nat.le_refl _) (k + 1) (by omega)
  rw [show preS S S.length = sumS S from rfl] at hp2
  have hpos := hS.sum
  have hlow := hS.low k hk
  have hps : preS S (k + 1) = preS S k + S.getD k 0 := rfl
  have hsec := fun W hB x => rsectorAt_any S hS x W v (h.later hB)
  obtain ⟨W1, hW1⟩ : ∃ W1 : World, W1 = w.alloc (.cells #[v] 27) := ⟨_, rfl⟩
  have hB1 : Below w.heap.size w W1 := by rw [hW1]; exact (Below.refl _ _).alloc (Nat.le_refl _) _
  have hc0 : W1.cell? ⟨w.heap.size, 0, none⟩ = some v := by rw [hW1]; simp
  have hl1 : w.heap.size < W1.heap.size := World.block_lt_of_cell? W1 ⟨w.heap.size, 0, none⟩ hc0
  have hcl := cloneWords_any W (by omega) (by omega) W1 u (hu.later hB1)
  obtain ⟨p, hp⟩ : ∃ p, p = preS S k := ⟨_, rfl⟩
  obtain ⟨q, hq⟩ : ∃ q, q = preS S (k + 1) := ⟨_, rfl⟩
  obtain ⟨m, hm⟩ : ∃ m, m = W.length := ⟨_, rfl⟩
  have hap : ∀ j : Nat, j < m → ∃ k', k' < S.length ∧ secTup S (j : Int) = .tuple #[.int .i64 (k' : Int), .int .i64 (preS S k'), .bool true] ∧ (k' = k ↔ (p ≤ (j : Int) ∧ (j : Int) < q)) := by
    intro j hj
    obtain ⟨k', h1, h2, h3⟩ := secAt_there (S := S) (j := j) (by omega)
    refine ⟨k', h1, by unfold secTup; rw [secAt_is hS h1 h2 h3], fun e => by rw [hp, hq, ← e]; exact ⟨h2, h3⟩, fun e => ?_⟩
    rw [hp, hq] at e
    exact preS_apart hS h1 hk h2 h3 e.1 e.2
  have hk20 := hS.l2
  obtain ⟨a, c, rfl, -, -⟩ := h
  obtain ⟨a2, c2, rfl, -, -⟩ := hu
  rw [← hm] at hcl
  rw [← hp, ← hq, ← hm]
  have hqm : q ≤ (m : Int) := by omega
  have hp00 : 0 ≤ p := by omega
  have hm4 : m ≤ 4096 := by omega
  have HW := Lib.hid hW1
  have HC := Lib.hid (⟨hB1, hsec, hap, hm⟩ : _ ∧ _ ∧ _ ∧ _)
  clear hp0 hp2 hpos hlow hps hW1 hB1 hsec hap hm hp hq hL hS
  go_enter Try.func59, Try.ntmps59
  go_wp2_with fail
  rw [← HW.out]
  refine hcl.mono ?_
  rintro e w2 ⟨x, rfl, hx, hB2⟩
  have g0 := (hB2.cell (p := ⟨w.heap.size, 0, none⟩) hl1).trans hc0
  obtain ⟨g, cx, rfl, -, hgb, -, -⟩ := id hx
  rw [← HC.out.2.2.2] at hx ⊢
  have HB2 := Lib.hid hB2
  clear hcl hB2
  go_wp2_with fail
  go_loopw [16] (fun i wr => ∃ j : Nat, j ≤ m ∧ i = .int .i64 (j : Int) ∧ WordsAt W1.heap.size wr (.slice (some ⟨g, 0, none⟩) m cx) (partTo W p q j) ∧ Below W1.heap.size W1 wr) (fun i _ => m - (intOf i).toNat)
  case atStart => exact ⟨0, by omega, rfl, by rw [partTo_zero W p q hp00]; exact hx, HB2.out⟩
  case round =>
    obtain ⟨j, hj, rfl, hwr, hB⟩ := hrel
    clear hx
    by_cases hlt : j < m
    · obtain ⟨k', hk', htup, hiff⟩ := HC.out.2.2.1 j hlt
      have hsc := HC.out.2.1 wr (HC.out.1.trans (hB.mono HC.out.1.size)) (j : Int)
      rw [htup] at hsc
      have gr := (hB.cell (p := ⟨w.heap.size, 0, none⟩) hl1).trans hc0
      have k0 : (0 : Int) ≤ (j : Int) := by omega
      have k1 : (j : Int) < (m : Int) := by omega
      obtain ⟨y, hy⟩ : ∃ y, y = preS S k' := ⟨_, rfl⟩
      rw [← hy] at hsc
      have HI := Lib.hid hiff
      clear htup hiff hy
      have HB := Lib.hid hB
      have HR := Lib.hid hwr
      clear hB hwr g0
      go_wp2_with fail
      refine hsc.mono ?_
      rintro e w4 ⟨rfl, hB4⟩
      have hwr4 := HR.out.later hB4
      have hfull := hwr4
      obtain ⟨-, -, -, hg4, hcell⟩ := hwr4.cells
      obtain ⟨hf, hv⟩ := hcell j hlt
      have HB4 := Lib.hid (HB.out.trans (hB4.mono HB.out.size))
      have HFu := Lib.hid hfull
      clear hsc hB4 hcell hfull hwr4
      by_cases e : k' = k
      · subst e
        have hin := HI.out.1 rfl
        have hput := HFu.out.put (by rw [partTo_len]; exact HC.out.2.2.2) hlt 65535
        rw [partTo_in W p q j hin.1 hin.2] at hput
        have HP := Lib.hid hput
        clear hput hin
        go_wp2_with fail
        go_roundw
        case rel => exact ⟨j + 1, by omega, by go_num, HP.out, HB4.out.setCell hgb _⟩
        case measure => simp [intOf]; omega
      · have hne : ((k' : Int) == (k : Int)) = false := by simpa using (show ¬ (k' : Int) = (k : Int) by omega)
        have hout := partTo_out W p q j (fun hh => e (HI.out.2 hh))
        have HO := Lib.hid hout
        clear hout e
        go_wp2_with fail
        go_roundw
        case rel => exact ⟨j + 1, by omega, by go_num, by rw [HO.out]; exact HFu.out, HB4.out⟩
        case measure => simp [intOf]; omega
    · obtain rfl : j = m := by omega
      rw [partTo_all W p q j hqm] at hwr
      have HR := Lib.hid (⟨hwr, hB⟩ : _ ∧ _)
      clear hwr hB g0
      go_wp2_with fail
      go_ret
      exact ⟨_, rfl, HR.out.1.mono HC.out.1.size, HC.out.1.trans (HR.out.2.mono HC.out.1.size)⟩
end Go.Proofs.Ytdejjplkignaoaa
