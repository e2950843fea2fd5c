/- Package flash: the sector of an address. -/
import Derived.Test.YtdejjplkignaoaaMcF
namespace Go.Proofs.Ytdejjplkignaoaa
open Go.RowKit

/-- The slice value reads as the spans of these sectors. -/
def SpansAt (w : World) (v : Value) (S : List Int) : Prop :=
  ∃ a c, v = .slice a S.length c ∧ S.length ≤ c ∧ (0 < S.length → ∃ g o, a = some ⟨g, o, none⟩ ∧ g < w.heap.size ∧ ∀ j, j < S.length → w.cell? ⟨g, o + j * 2, none⟩ = some (.int .i64 (preS S j)) ∧ w.cell? ⟨g, o + j * 2 + 1, none⟩ = some (.int .i64 (preS S (j + 1))))
theorem SpansAt.later {w w' : World} {v : Value} {S : List Int} (h : SpansAt w v S) (hB : Below w.heap.size w w') : SpansAt w' v S := by
  obtain ⟨a, c, h1, h2, h3⟩ := h
  refine ⟨a, c, h1, h2, fun h0 => ?_⟩
  obtain ⟨g, o, h4, h5, h6⟩ := h3 h0
  exact ⟨g, o, h4, Nat.lt_of_lt_of_le h5 hB.size, fun j hj => ⟨(hB.cell (p := ⟨g, o + j * 2, none⟩) h5).trans (h6 j hj).1, (hB.cell (p := ⟨g, o + j * 2 + 1, none⟩) h5).trans (h6 j hj).2⟩⟩
/-- The sector of an address, -1: none. -/
def secI (S : List Int) (a : Int) : Int := match secAt S a with | some k => (k : Int) | none => -1
def isAt (S : List Int) (a : Int) (k : Nat) : Bool := decide (preS S k ≤ a) && decide (a < preS S (k + 1))
theorem secI_is {S : List Int} (hS : FlashRight S) {a : Int} {k : Nat} (hk : k < S.length) (h : isAt S a k = true) : secI S a = (k : Int) := by
  unfold isAt at h
  simp at h
  unfold secI
  rw [secAt_is hS hk h.1 h.2]
theorem secI_no {S : List Int} {a : Int} (h : ∀ j, j < S.length → isAt S a j = false) : secI S a = -1 := by
  unfold secI
  cases h1 : secAt S a with
  | none => rfl
  | some k =>
    obtain ⟨e1, e2, e3⟩ := secAt_some h1
    have h2 := h k e1
    unfold isAt at h2
    simp at h2
    omega
set_option maxRecDepth 100000 in
theorem sectorAt1_any (p q x : Int) (b : Nat) (w : World) (h : w.cell? ⟨b, 0, none⟩ = some (.int .i64 x)) :
    Calls Try.prog 76 #[.agg #[.int .i64 p, .int .i64 q], .pointer (some ⟨b, 0, none⟩)] w fun e w' => e = .returned (.bool (decide (p ≤ x) && decide (x < q))) ∧ Below w.heap.size w w' := by
  have hbl : b < w.heap.size := World.block_lt_of_cell? w ⟨b, 0, none⟩ h
  have hB1 : Below w.heap.size w (w.alloc (.cells #[.int .i64 p, .int .i64 q] 61)) := (Below.refl _ _).alloc (Nat.le_refl _) _
  have HB := Lib.hid hB1
  clear hB1
  by_cases d1 : p ≤ x
  · rw [decide_eq_true d1, Bool.true_and]
    go_enter Try.func76, Try.ntmps76
    go_wp2_with fail
    go_ret
    exact ⟨rfl, HB.out⟩
  · rw [decide_eq_false d1, Bool.false_and]
    go_enter Try.func76, Try.ntmps76
    go_wp2_with fail
    go_ret
    exact ⟨rfl, HB.out⟩
set_option maxHeartbeats 800000 in
set_option maxRecDepth 100000 in
theorem indexWin_any (S : List Int) (hS : FlashRight S) (x : Int) (b : Nat) (w : World) (h : w.cell? ⟨b, 0, none⟩ = some (.int .i64 x)) (v : Value) (hv : SpansAt w v S) :
    Calls Try.prog 75 #[v, .func (.func 76) #[] #[.pointer (some ⟨b, 0, none⟩)]] w fun e w' => e = .returned (.int .i64 (secI S x)) ∧ Below w.heap.size w w' := by
  obtain ⟨a, c, rfl, -, hop⟩ := hv
  have hbl : b < w.heap.size := World.block_lt_of_cell? w ⟨b, 0, none⟩ h
  have hn20 := hS.l2
  obtain ⟨n, hn⟩ : ∃ n, n = S.length := ⟨_, rfl⟩
  rw [← hn] at hop hn20 ⊢
  have HC := Lib.hid (⟨hop, hn, h, hS⟩ : _ ∧ _ ∧ _ ∧ _)
  clear hop hn h hS
  go_enter Try.func75, Try.ntmps75
  go_wp2_with fail
  go_loopw [8] (fun i wr => ∃ (k : Nat), k ≤ n ∧ i = .int .i64 (k : Int) ∧ (∀ j, j < k → isAt S x j = false) ∧ Below w.heap.size w wr) (fun i _ => n - (intOf i).toNat)
  case atStart => exact ⟨0, by omega, rfl, fun j hj => by omega, Below.refl _ _⟩
  case round =>
    obtain ⟨k, hk, rfl, hW, hB⟩ := hrel
    by_cases hlt : k < n
    · obtain ⟨g, o, rfl, hg, hcell⟩ := HC.out.1 (by omega)
      obtain ⟨d1, d2⟩ := hcell k hlt
      have hc1 := (hB.cell (p := ⟨g, o + k * 2, none⟩) hg).trans d1
      have hc2 := (hB.cell (p := ⟨g, o + k * 2 + 1, none⟩) hg).trans d2
      have hq := fun p q => sectorAt1_any p q x b wr ((hB.cell (p := ⟨b, 0, none⟩) hbl).trans HC.out.2.2.1)
      have hq := hq (preS S k) (preS S (k + 1))
      rw [show (decide (preS S k ≤ x) && decide (x < preS S (k + 1))) = isAt S x k from rfl] at hq
      obtain ⟨p, hp⟩ : ∃ p, p = preS S k := ⟨_, rfl⟩
      obtain ⟨q, hq0⟩ : ∃ q, q = preS S (k + 1) := ⟨_, rfl⟩
      rw [← hp] at hc1 hq
      rw [← hq0] at hc2 hq
      have k0 : (0 : Int) ≤ (k : Int) := by omega
      have k1 : (k : Int) < (n : Int) := by omega
      cases hq2 : isAt S x k with
      | false =>
        rw [hq2] at hq
        have hW2 : ∀ j, j < k + 1 → isAt S x j = false := fun j hj => by
          by_cases e : j = k
          · rw [e]; exact hq2
          · exact hW j (by omega)
        have HB := Lib.hid (⟨hB, hW2⟩ : _ ∧ _)
        clear hB hcell d1 d2 hp hq0 hW hq2 hW2
        go_wp2_with fail
        refine hq.mono ?_
        rintro e w' ⟨rfl, hB2⟩
        have HB2 := Lib.hid (HB.out.1.trans (hB2.mono HB.out.1.size))
        clear hq hB2
        go_wp2_with fail
        go_roundw
        case rel => exact ⟨k + 1, by omega, by go_num, HB.out.2, HB2.out⟩
        case measure => simp [intOf]; omega
      | true =>
        rw [hq2] at hq
        have he := secI_is HC.out.2.2.2 (by rw [← HC.out.2.1]; exact hlt) hq2
        have HB := Lib.hid (⟨hB, he⟩ : _ ∧ _)
        clear hB hcell d1 d2 hp hq0 hW hq2 he
        go_wp2_with fail
        refine hq.mono ?_
        rintro e w' ⟨rfl, hB2⟩
        have HB2 := Lib.hid (HB.out.1.trans (hB2.mono HB.out.1.size))
        clear hq hB2
        go_wp2_with fail
        go_ret
        exact ⟨by rw [HB.out.2]; rfl, HB2.out⟩
    · obtain rfl : k = n := by omega
      have he : secI S x = -1 := secI_no (by rw [← HC.out.2.1]; exact hW)
      have HB := Lib.hid (⟨hB, he⟩ : _ ∧ _)
      clear hB hW he
      go_wp2_with fail
      go_ret
      exact ⟨by rw [HB.out.2]; rfl, HB.out.1⟩
set_option maxHeartbeats 800000 in
set_option maxRecDepth 100000 in
theorem sectorAt_any (S : List Int) (hS : FlashRight S) (x : Int) (w : World) (v : Value) (hv : SpansAt w v S) :
    Calls Try.prog 55 #[v, .int .i64 x] w fun e w' => e = .returned (.tuple #[.int .i64 (secI S x), .bool (decide (0 ≤ secI S x))]) ∧ Below w.heap.size w w' := by
  have hB1 : Below w.heap.size w (w.alloc (.cells #[.int .i64 x] 3)) := (Below.refl _ _).alloc (Nat.le_refl _) _
  have hq := indexWin_any S hS x w.heap.size (w.alloc (.cells #[.int .i64 x] 3)) (cell_new1 w _ _ rfl) v (hv.later hB1)
  obtain ⟨a, c, rfl, -, -⟩ := hv
  obtain ⟨n, hn⟩ : ∃ n, n = S.length := ⟨_, rfl⟩
  obtain ⟨r, hr⟩ : ∃ r, r = secI S x := ⟨_, rfl⟩
  rw [← hn, ← hr] at hq
  rw [← hn, ← hr]
  have HB := Lib.hid hB1
  clear hB1 hn hr hS
  go_enter Try.func55, Try.ntmps55
  go_wp2_with fail
  refine hq.mono ?_
  rintro e w' ⟨rfl, hB2⟩
  have HB2 := Lib.hid (HB.out.trans (hB2.mono HB.out.size))
  clear hq hB2
  go_wp2_with fail
  go_ret2
  exact ⟨rfl, HB2.out⟩
end Go.Proofs.Ytdejjplkignaoaa
