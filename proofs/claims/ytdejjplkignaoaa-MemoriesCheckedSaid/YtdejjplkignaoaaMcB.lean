/- Package flash: numbers within a span, the length of a memory, CheckFlash, CheckImage. -/
import Derived.Test.YtdejjplkignaoaaMcA
import Derived.Test.YtdejjplkignaoaaStream
import Derived.Test.YtdejjplkignaoaaDigits
import Derived.Test.YtdejjplkignaoaaVgShort
namespace Go.Proofs.Ytdejjplkignaoaa
open Go.RowKit

/-- The slice value reads as these numbers. -/
def NumsAt (w : World) (v : Value) (l : List Int) : Prop :=
  ∃ a c, v = .slice a l.length c ∧ l.length ≤ c ∧ (0 < l.length → ∃ g o, a = some ⟨g, o, none⟩ ∧ g < w.heap.size ∧ ∀ j, j < l.length → w.cell? ⟨g, o + j, none⟩ = some (.int .i64 (l.getD j 0)))
theorem NumsAt.later {w w' : World} {v : Value} {l : List Int} (h : NumsAt w v l) (hB : Below w.heap.size w w') : NumsAt w' v l := by
  obtain ⟨a, c, h1, h2, h3⟩ := h
  refine ⟨a, c, h1, h2, fun h0 => ?_⟩
  obtain ⟨g, o, h4, h5, h6⟩ := h3 h0
  exact ⟨g, o, h4, Nat.lt_of_lt_of_le h5 hB.size, fun j hj => (hB.cell (p := ⟨g, o + j, none⟩) h5).trans (h6 j hj)⟩
theorem withinB_take (lo hi : Int) (l : List Int) (k : Nat) (hk : k < l.length) (h : withinB lo hi (l.take k) = true) : withinB lo hi (l.take (k + 1)) = (decide (lo ≤ l.getD k 0) && decide (l.getD k 0 ≤ hi)) := by
  have e : l.getD k 0 = l[k] := by simp [hk]
  unfold withinB at h ⊢
  rw [List.take_succ_eq_append_getElem hk, List.all_append, h, e]
  simp
theorem withinB_no (lo hi : Int) (l : List Int) (k : Nat) (h : withinB lo hi (l.take (k + 1)) = false) : withinB lo hi l = false := by
  cases h2 : withinB lo hi l with
  | false => rfl
  | true =>
    unfold withinB at h h2
    rw [List.all_eq_true] at h2
    have h3 : ((l.take (k + 1)).all fun x => decide (lo ≤ x) && decide (x ≤ hi)) = true := by
      rw [List.all_eq_true]
      exact fun x hx => h2 x (List.mem_of_mem_take hx)
    rw [h3] at h
    cases h
set_option maxRecDepth 100000 in
theorem areWithin1_any (x lo hi : Int) (b1 b2 : Nat) (w : World) (h1 : w.cell? ⟨b1, 0, none⟩ = some (.int .i64 lo)) (h2 : w.cell? ⟨b2, 0, none⟩ = some (.int .i64 hi)) :
    Calls Try.prog 74 #[.int .i64 x, .pointer (some ⟨b1, 0, none⟩), .pointer (some ⟨b2, 0, none⟩)] w fun e w' => e = .returned (.bool (!(decide (lo ≤ x) && decide (x ≤ hi)))) ∧ w = w' := by
  by_cases d1 : x < lo
  · rw [show (!(decide (lo ≤ x) && decide (x ≤ hi))) = true by rw [decide_eq_false (show ¬ lo ≤ x by omega)]; rfl]
    go_enter Try.func74, Try.ntmps74
    go_wp2_with fail
    go_ret
    exact ⟨rfl, rfl⟩
  · rw [show (!(decide (lo ≤ x) && decide (x ≤ hi))) = decide (hi < x) by
      rw [decide_eq_true (show lo ≤ x by omega), Bool.true_and]
      by_cases h : hi < x
      · rw [decide_eq_true h, decide_eq_false (show ¬ x ≤ hi by omega)]; rfl
      · rw [decide_eq_false h, decide_eq_true (show x ≤ hi by omega)]; rfl]
    go_enter Try.func74, Try.ntmps74
    go_wp2_with fail
    go_ret
    exact ⟨rfl, rfl⟩
set_option maxRecDepth 100000 in
theorem indexWithin_any (l : List Int) (hz : l.length ≤ 1000000) (lo hi : Int) (b1 b2 : Nat) (w : World) (h1 : w.cell? ⟨b1, 0, none⟩ = some (.int .i64 lo)) (h2 : w.cell? ⟨b2, 0, none⟩ = some (.int .i64 hi)) (v : Value) (h : NumsAt w v l) :
    Calls Try.prog 87 #[v, .func (.func 74) #[] #[.pointer (some ⟨b1, 0, none⟩), .pointer (some ⟨b2, 0, none⟩)]] w fun e w' => (∃ r : Int, e = .returned (.int .i64 r) ∧ decide (0 ≤ r) = !withinB lo hi l) ∧ Below w.heap.size w w' := by
  obtain ⟨a, c, rfl, -, hop⟩ := h
  have hbl1 : b1 < w.heap.size := World.block_lt_of_cell? w ⟨b1, 0, none⟩ h1
  have hbl2 : b2 < w.heap.size := World.block_lt_of_cell? w ⟨b2, 0, none⟩ h2
  obtain ⟨n, hn⟩ : ∃ n, n = l.length := ⟨_, rfl⟩
  rw [← hn] at hop hz ⊢
  have HC := Lib.hid (⟨hop, hn, h1, h2⟩ : _ ∧ _ ∧ _ ∧ _)
  clear hop hn h1 h2
  go_enter Try.func87, Try.ntmps87
  go_wp2_with fail
  go_loopw [8] (fun i wr => ∃ (k : Nat), k ≤ n ∧ i = .int .i64 (k : Int) ∧ withinB lo hi (l.take k) = true ∧ Below w.heap.size w wr) (fun i _ => n - (intOf i).toNat)
  case atStart => exact ⟨0, by omega, rfl, by rfl, Below.refl _ _⟩
  case round =>
    obtain ⟨k, hk, rfl, hW, hB⟩ := hrel
    by_cases hlt : k < n
    · obtain ⟨g, o, rfl, hg, hcell⟩ := HC.out.1 (by omega)
      have hc := (hB.cell (p := ⟨g, o + k, none⟩) hg).trans (hcell k hlt)
      have hq := areWithin1_any (l.getD k 0) lo hi b1 b2 wr ((hB.cell (p := ⟨b1, 0, none⟩) hbl1).trans HC.out.2.2.1) ((hB.cell (p := ⟨b2, 0, none⟩) hbl2).trans HC.out.2.2.2)
      have hst := withinB_take lo hi l k (by rw [← HC.out.2.1]; exact hlt) hW
      rw [← hst] at hq
      obtain ⟨y, hy⟩ : ∃ y, y = l.getD k 0 := ⟨_, rfl⟩
      rw [← hy] at hc hq
      have k0 : (0 : Int) ≤ (k : Int) := by omega
      have k1 : (k : Int) < (n : Int) := by omega
      cases hq2 : withinB lo hi (l.take (k + 1)) with
      | true =>
        rw [hq2] at hq
        have HB := Lib.hid (⟨hB, hq2⟩ : _ ∧ _)
        clear hB hcell hy hst hW hq2
        go_wp2_with fail
        refine hq.mono ?_
        rintro e w' ⟨rfl, rfl⟩
        clear hq
        go_wp2_with fail
        go_roundw
        case rel => exact ⟨k + 1, by omega, by go_num, HB.out.2, HB.out.1⟩
        case measure => simp [intOf]; omega
      | false =>
        rw [hq2] at hq
        have hno := withinB_no lo hi l k hq2
        have HB := Lib.hid (⟨hB, hno⟩ : _ ∧ _)
        clear hB hcell hy hst hW hq2 hno
        go_wp2_with fail
        refine hq.mono ?_
        rintro e w' ⟨rfl, rfl⟩
        clear hq
        go_wp2_with fail
        go_ret
        exact ⟨⟨_, rfl, by rw [HB.out.2, decide_eq_true k0]; rfl⟩, HB.out.1⟩
    · obtain rfl : k = n := by omega
      have hall : withinB lo hi l = true := by rw [HC.out.2.1, List.take_length] at hW; exact hW
      have HB := Lib.hid (⟨hB, hall⟩ : _ ∧ _)
      clear hB hW hall
      go_wp2_with fail
      go_ret
      exact ⟨⟨_, rfl, by rw [HB.out.2]; decide⟩, HB.out.1⟩
set_option maxRecDepth 100000 in
theorem areWithin_any (l : List Int) (hz : l.length ≤ 1000000) (lo hi : Int) (w : World) (v : Value) (h : NumsAt w v l) :
    Calls Try.prog 51 #[.int .i64 lo, .int .i64 hi, v] w fun e w' => e = .returned (.bool (withinB lo hi l)) ∧ Below w.heap.size w w' := by
  obtain ⟨W2, hW2⟩ : ∃ W2 : World, W2 = (w.alloc (.cells #[.int .i64 lo] 3)).alloc (.cells #[.int .i64 hi] 3) := ⟨_, rfl⟩
  have hB2 : Below w.heap.size w W2 := by rw [hW2]; exact ((Below.refl _ _).alloc (Nat.le_refl _) _).alloc (by simp) _
  have hs2 : W2.heap.size = w.heap.size + 2 := by rw [hW2]; simp
  have e1 : W2.cell? ⟨w.heap.size, 0, none⟩ = some (.int .i64 lo) := by rw [hW2]; simp
  have e2 : W2.cell? ⟨w.heap.size + 1, 0, none⟩ = some (.int .i64 hi) := by rw [hW2]; simp
  have hix := indexWithin_any l hz lo hi (w.heap.size) (w.heap.size + 1) W2 e1 e2 v (h.later hB2)
  have hct : Calls Try.prog 73 #[v, .func (.func 74) #[] #[.pointer (some ⟨w.heap.size, 0, none⟩), .pointer (some ⟨w.heap.size + 1, 0, none⟩)]] W2 fun e w' => e = .returned (.bool (!withinB lo hi l)) ∧ Below W2.heap.size W2 w' := by
    clear hB2 e1 e2 hW2
    obtain ⟨a, c, rfl, -, -⟩ := h
    go_enter Try.func73, Try.ntmps73
    go_wp2_with fail
    refine hix.mono ?_
    rintro e w' ⟨⟨r, rfl, hr⟩, hB⟩
    have HR := Lib.hid (⟨hr, hB⟩ : _ ∧ _)
    clear hix hr hB
    go_wp2_with fail
    go_ret
    exact ⟨by rw [← HR.out.1]; rfl, HR.out.2⟩
  obtain ⟨a, c, rfl, -, -⟩ := h
  generalize withinB lo hi l = q at hct ⊢
  have HB := Lib.hid hB2
  have HW := Lib.hid hW2
  clear hB2 hW2 e1 e2 hix
  go_enter Try.func51, Try.ntmps51
  go_wp2_with fail
  rw [← HW.out]
  refine hct.mono ?_
  rintro e w' ⟨rfl, hB⟩
  have HB3 := Lib.hid (HB.out.trans (hB.mono HB.out.size))
  clear hct hB
  go_wp2_with fail
  go_ret
  exact ⟨by simp, HB3.out⟩
end Go.Proofs.Ytdejjplkignaoaa
