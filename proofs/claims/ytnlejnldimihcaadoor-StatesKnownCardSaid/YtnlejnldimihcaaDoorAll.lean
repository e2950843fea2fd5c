/- The contracts of Next, Walk, Path, Synchronizes and of the reference's functions, whatever the arguments. -/
import Derived.Test.YtnlejnldimihcaaDoorPathOf
namespace Go.Proofs.YtnlejnldimihcaaDoor
open Go.RowKit

theorem spanErr_zero {n low high : Int} (h : spanErr n low high = 0) : low ≤ n ∧ n ≤ high := by
  unfold spanErr at h
  by_cases hb : inB n low high = true
  · simpa [inB] using hb
  · rw [if_neg hb] at h; omega
theorem spanErr_one {n low high : Int} (h : spanErr n low high ≠ 0) : spanErr n low high = 1 ∧ (n < low ∨ high < n) := by
  unfold spanErr at h ⊢
  by_cases hb : inB n low high = true
  · rw [if_pos hb] at h; omega
  · rw [if_neg hb]
    refine ⟨rfl, ?_⟩
    simp [inB] at hb; omega
theorem or2_zero {x y : Int} (h : or2 x y = 0) : x = 0 ∧ y = 0 := by
  unfold or2 at h
  by_cases hx : x = 0
  · rw [if_pos hx] at h; exact ⟨hx, h⟩
  · rw [if_neg hx] at h; exact absurd h hx

def nextE (a bit : Int) : Int := or2 (spanErr a 0 15) (spanErr bit 0 1)
def nextV (a bit : Int) : Int := if nextE a bit = 0 then ((nx a.toNat (bitC bit.toNat) : Nat) : Int) else 0
theorem nextE_zero {a bit : Int} (h : nextE a bit = 0) : ∃ s : Nat, a = s ∧ s < 16 ∧ (bit = 0 ∨ bit = 1) := by
  obtain ⟨h1, h2⟩ := or2_zero h
  have h3 := spanErr_zero h1
  have h4 := spanErr_zero h2
  exact ⟨a.toNat, by omega, by omega, by omega⟩
theorem nextV_zero {a bit : Int} (h : nextE a bit ≠ 0) : nextV a bit = 0 := by unfold nextV; rw [if_neg h]

theorem next_all (a bit : Int) (w : World) (hT : Tab w) : Calls Tryd.prog 12 #[.int .i64 a, .int .i64 bit] w fun e w' => e = .returned (.tuple #[.int .i64 (nextV a bit), .int .i64 (nextE a bit)]) ∧ w = w' := by
  by_cases h : nextE a bit = 0
  · obtain ⟨s, rfl, hs, hb⟩ := nextE_zero h
    have hv : nextV s bit = ((nx s (bitC bit.toNat) : Nat) : Int) := by unfold nextV; rw [if_pos h]; rfl
    rw [hv, h]
    rcases hb with rfl | rfl
    · exact next_zero s w hs hT
    · exact next_one s w hs hT
  · rw [nextV_zero h]
    by_cases ha : spanErr a 0 15 = 0
    · have h3 := spanErr_zero ha
      have hne : nextE a bit = spanErr bit 0 1 := by unfold nextE or2; rw [if_pos ha]
      have hbit : spanErr bit 0 1 ≠ 0 := by rw [← hne]; exact h
      have h1 := (spanErr_one hbit).1
      have hb : inB bit 0 1 = false := by
        cases hb : inB bit 0 1 with
        | false => rfl
        | true => unfold spanErr at hbit; rw [if_pos hb] at hbit; omega
      rw [hne, h1]
      exact next_bit a bit w (by omega) (by omega) hb
    · obtain ⟨h1, h2⟩ := spanErr_one ha
      have hne : nextE a bit = 1 := by unfold nextE or2; rw [if_neg ha, h1]
      rw [hne]
      exact next_state a bit w (by omega)
theorem nextOf_all (a bit : Int) (w : World) (h : nextE a bit = 0) : Calls Tryd.prog 16 #[.int .i64 a, .int .i64 bit] w fun e w' => e = .returned (.int .i64 (nextV a bit)) ∧ w = w' := by
  obtain ⟨s, rfl, hs, hb⟩ := nextE_zero h
  have hv : nextV s bit = ((nx s (bitC bit.toNat) : Nat) : Int) := by unfold nextV; rw [if_pos h]; rfl
  rw [hv]
  rcases hb with rfl | rfl
  · exact nextOf_zero s w hs
  · exact nextOf_one s w hs

def walkE (a : Int) (tms : ByteArray) : Int := or2 (spanErr a 0 15) (clockErr tms)
theorem walkE_zero {a : Int} {tms : ByteArray} (h : walkE a tms = 0) : ∃ s : Nat, a = s ∧ s < 16 ∧ clockErr tms = 0 := by
  obtain ⟨h1, h2⟩ := or2_zero h
  have h3 := spanErr_zero h1
  exact ⟨a.toNat, by omega, by omega, h2⟩
/-- A slice of these numbers. -/
def IntsAt (w : World) (v : Value) (xs : List Int) : Prop := ∃ a cap, v = .slice a xs.length cap ∧ (0 < xs.length → ∃ g, a = some ⟨g, 0, none⟩ ∧ ∀ j, j < xs.length → w.cell? ⟨g, j, none⟩ = some (.int .i64 (xs.getD j 0)))
theorem IntsAt.below {w w' : World} {v : Value} {xs : List Int} (h : IntsAt w v xs) (hb : Below w.heap.size w w') : IntsAt w' v xs := by
  obtain ⟨a, cap, hv, hc⟩ := h
  refine ⟨a, cap, hv, fun h0 => ?_⟩
  obtain ⟨g, hg, hc⟩ := hc h0
  refine ⟨g, hg, fun j hj => ?_⟩
  have h1 := hc j hj
  exact (hb.cell (p := ⟨g, j, none⟩) (World.block_lt_of_cell? w ⟨g, j, none⟩ h1)).trans h1
theorem IntsAt.nil (w : World) : IntsAt w (.slice none 0 0) [] := ⟨none, 0, rfl, fun h => by simp at h⟩
/-- The numbers that Walk returns. -/
def walkV (a : Int) (tms : ByteArray) : List Int := if walkE a tms = 0 then (walkL a.toNat tms.data.toList).map fun x : Nat => (x : Int) else []
theorem walkV_len {s : Nat} {tms : ByteArray} (h : walkE s tms = 0) : walkV s tms = (walkL s tms.data.toList).map fun x : Nat => (x : Int) := by unfold walkV; rw [if_pos h]; rfl
theorem walkL_size (s : Nat) (tms : ByteArray) : ((walkL s tms.data.toList).map fun x : Nat => (x : Int)).length = tms.size := by simp [walkL_len]

theorem walk_all (a : Int) (tms : ByteArray) (w : World) (hs : tms.size ≤ 1000000) (hT : Tab w) :
    Calls Tryd.prog 13 #[.int .i64 a, .string tms] w fun e w' => ∃ v, e = .returned (.tuple #[v, .int .i64 (walkE a tms)]) ∧ IntsAt w' v (walkV a tms) ∧ Below w.heap.size w w' := by
  by_cases h : walkE a tms = 0
  · obtain ⟨s, rfl, hs16, hc⟩ := walkE_zero h
    refine (walk_ok s tms w hs16 hc hT).mono ?_
    rintro e w' ⟨g, rfl, hg, hrow, hB⟩
    refine ⟨_, by rw [h], ?_, hB⟩
    rw [walkV_len h]
    have hsz := walkL_size s tms
    refine ⟨some ⟨g, 0, Option.none⟩, tms.size, by rw [hsz], fun _ => ⟨g, rfl, fun j hj => ?_⟩⟩
    rw [hsz] at hj
    rw [hrow.2 j hj]
    have h1 := walkL_at tms.data.toList s j (by simpa using hj)
    simp [List.getD, h1]
  · have hv : walkV a tms = [] := by unfold walkV; rw [if_neg h]
    rw [hv]
    by_cases ha : spanErr a 0 15 = 0
    · have h3 := spanErr_zero ha
      have hne : walkE a tms = clockErr tms := by unfold walkE or2; rw [if_pos ha]
      rw [hne]
      rw [hne] at h
      refine (walk_err a tms w (by omega) (by omega) (by omega) h).mono ?_
      rintro e w' ⟨rfl, hB⟩
      exact ⟨_, rfl, IntsAt.nil _, hB⟩
    · obtain ⟨h1, h2⟩ := spanErr_one ha
      have hne : walkE a tms = 1 := by unfold walkE or2; rw [if_neg ha, h1]
      rw [hne]
      refine (walk_state a tms w (by omega)).mono ?_
      rintro e w' ⟨rfl, rfl⟩
      exact ⟨_, rfl, IntsAt.nil _, Below.refl _ _⟩
theorem walkOf_all (a : Int) (tms : ByteArray) (w : World) (hs : tms.size ≤ 1000000) (h : walkE a tms = 0) :
    Calls Tryd.prog 17 #[.int .i64 a, .string tms] w fun e w' => ∃ v, e = .returned v ∧ IntsAt w' v (walkV a tms) ∧ Below w.heap.size w w' := by
  obtain ⟨s, rfl, hs16, hc⟩ := walkE_zero h
  refine (walkOf_any s tms w hs16 hs (clockErr_bits hc)).mono ?_
  rintro e w' ⟨v, rfl, hown, hB⟩
  refine ⟨v, rfl, ?_, hB⟩
  rw [walkV_len h]
  obtain ⟨a', cap, rfl, hrow⟩ := own_form hown
  have hsz := walkL_size s tms
  refine ⟨a', cap, by rw [hsz], fun h0 => ?_⟩
  rw [hsz] at h0
  obtain ⟨g, hg, hcl⟩ := hrow h0
  refine ⟨g, hg, fun j hj => ?_⟩
  rw [hsz] at hj
  rw [hcl j hj]
  have h1 := walkL_at tms.data.toList s j (by simpa using hj)
  simp [List.getD, h1]

theorem eq_all (v1 v2 : Value) (xs : List Int) (w : World) (hx : xs.length ≤ 1000000) (h1 : IntsAt w v1 xs) (h2 : IntsAt w v2 xs) :
    Calls Tryd.prog 20 #[v1, v2] w fun e w' => e = .returned (.bool true) ∧ Below w.heap.size w w' := by
  obtain ⟨a1, c1, rfl, hc1⟩ := h1
  obtain ⟨a2, c2, rfl, hc2⟩ := h2
  by_cases h0 : xs.length = 0
  · rw [h0]
    refine (Tryd.slices_Equal_int_empty a1 a2 c1 0 c2 w (by decide)).mono ?_
    rintro e w' ⟨rfl, rfl⟩
    exact ⟨rfl, Below.refl _ _⟩
  · obtain ⟨g1, rfl, hg1⟩ := hc1 (by omega)
    obtain ⟨g2, rfl, hg2⟩ := hc2 (by omega)
    refine (Tryd.slices_Equal_int g1 0 xs.length c1 g2 0 xs.length c2 xs xs w (Nat.le_refl _) (Nat.le_refl _) (by omega) (by omega) (fun j hj => by rw [Nat.zero_add]; exact hg1 j hj) (fun j hj => by rw [Nat.zero_add]; exact hg2 j hj)).mono ?_
    rintro e w' ⟨rfl, q, rfl⟩
    refine ⟨by simp, ?_⟩
    exact ⟨rfl, rfl, rfl, Nat.le_refl _, fun _ _ => rfl⟩

def pathE (a b : Int) : Int := or2 (spanErr a 0 15) (spanErr b 0 15)
theorem pathE_zero {a b : Int} (h : pathE a b = 0) : ∃ s t : Nat, a = s ∧ b = t ∧ s < 16 ∧ t < 16 := by
  obtain ⟨h1, h2⟩ := or2_zero h
  have h3 := spanErr_zero h1
  have h4 := spanErr_zero h2
  exact ⟨a.toNat, b.toNat, by omega, by omega, by omega, by omega⟩
def pathV (a b : Int) : ByteArray := if pathE a b = 0 then ⟨(pathOf a.toNat b.toNat).toArray⟩ else ⟨#[]⟩
theorem path_state (a b : Int) (w : World) (h : a < 0 ∨ 16 ≤ a) : Calls Tryd.prog 14 #[.int .i64 a, .int .i64 b] w fun e w' => e = .returned (.tuple #[.string ⟨#[]⟩, .int .i64 1]) ∧ w = w' := by
  have h1 := isState_no a w h
  clear h
  go_enter Tryd.func14, Tryd.ntmps14
  go_wp2_with fail
  refine h1.mono ?_
  rintro e w' ⟨rfl, rfl⟩
  go_wp2_with fail
  go_ret2
  exact ⟨rfl, rfl⟩
theorem path_state2 (a b : Int) (w : World) (h0 : 0 ≤ a) (h1 : a < 16) (h : b < 0 ∨ 16 ≤ b) : Calls Tryd.prog 14 #[.int .i64 a, .int .i64 b] w fun e w' => e = .returned (.tuple #[.string ⟨#[]⟩, .int .i64 1]) ∧ w = w' := by
  have h2 := isState_yes a w h0 h1
  have h3 := isState_no b w h
  clear h h0 h1
  go_enter Tryd.func14, Tryd.ntmps14
  go_wp2_with fail
  refine h2.mono ?_
  rintro e w' ⟨rfl, rfl⟩
  go_wp2_with fail
  refine h3.mono ?_
  rintro e w' ⟨rfl, rfl⟩
  go_wp2_with fail
  go_ret2
  exact ⟨rfl, rfl⟩
theorem path_all (a b : Int) (w : World) (hT : Tab w) : Calls Tryd.prog 14 #[.int .i64 a, .int .i64 b] w fun e w' => e = .returned (.tuple #[.string (pathV a b), .int .i64 (pathE a b)]) ∧ Below w.heap.size w w' := by
  by_cases h : pathE a b = 0
  · obtain ⟨s, t, rfl, rfl, hs, ht⟩ := pathE_zero h
    have hv : pathV s t = ⟨(pathOf s t).toArray⟩ := by unfold pathV; rw [if_pos h]; rfl
    rw [hv, h]
    exact path_ok s t w hs ht hT
  · have hv : pathV a b = ⟨#[]⟩ := by unfold pathV; rw [if_neg h]
    rw [hv]
    by_cases ha : spanErr a 0 15 = 0
    · have h3 := spanErr_zero ha
      have hne : pathE a b = spanErr b 0 15 := by unfold pathE or2; rw [if_pos ha]
      rw [hne]
      rw [hne] at h
      obtain ⟨h1, h2⟩ := spanErr_one h
      rw [h1]
      refine (path_state2 a b w (by omega) (by omega) (by omega)).mono ?_
      rintro e w' ⟨rfl, rfl⟩
      exact ⟨rfl, Below.refl _ _⟩
    · obtain ⟨h1, h2⟩ := spanErr_one ha
      have hne : pathE a b = 1 := by unfold pathE or2; rw [if_neg ha, h1]
      rw [hne]
      refine (path_state a b w (by omega)).mono ?_
      rintro e w' ⟨rfl, rfl⟩
      exact ⟨rfl, Below.refl _ _⟩
theorem pathOf_all (a b : Int) (w : World) (h : pathE a b = 0) : Calls Tryd.prog 18 #[.int .i64 a, .int .i64 b] w fun e w' => e = .returned (.string (pathV a b)) ∧ Below w.heap.size w w' := by
  obtain ⟨s, t, rfl, rfl, hs, ht⟩ := pathE_zero h
  have hv : pathV s t = ⟨(pathOf s t).toArray⟩ := by unfold pathV; rw [if_pos h]; rfl
  rw [hv]
  exact pathOf_any s t w hs ht

def allToB (l : List UInt8) : Bool := (List.range 16).all fun j => nxs j l == nxs 0 l
theorem allToB_iff (l : List UInt8) : allToB l = true ↔ AllTo l 16 := by
  unfold allToB AllTo
  simp [List.all_eq_true]
def syncB (tms : ByteArray) : Bool := clockErr tms == 0 && allToB tms.data.toList
def syncV (tms : ByteArray) : Int := if syncB tms = true then ((nxs 0 tms.data.toList : Nat) : Int) else 0
theorem sync_all (tms : ByteArray) (w : World) (hs : tms.size ≤ 1000000) (hT : Tab w) :
    Calls Tryd.prog 15 #[.string tms] w fun e w' => e = .returned (.tuple #[.int .i64 (syncV tms), .bool (syncB tms), .int .i64 (clockErr tms)]) ∧ Below w.heap.size w w' := by
  by_cases h : clockErr tms = 0
  · cases hall : allToB tms.data.toList with
    | true =>
      have hb : syncB tms = true := by simp [syncB, h, hall]
      have hv : syncV tms = ((nxs 0 tms.data.toList : Nat) : Int) := by simp [syncV, hb]
      rw [hv, hb, h]
      exact sync_yes tms w h hT ((allToB_iff _).1 hall)
    | false =>
      have hb : syncB tms = false := by simp [syncB, hall]
      have hv : syncV tms = 0 := by simp [syncV, hb]
      rw [hv, hb, h]
      exact sync_no tms w h hT (fun hc => by rw [(allToB_iff _).2 hc] at hall; cases hall)
  · have hb : syncB tms = false := by simp [syncB, h]
    have hv : syncV tms = 0 := by simp [syncV, hb]
    rw [hv, hb]
    exact sync_err tms w (by omega) h
theorem syncTo_all (tms : ByteArray) (w : World) (hs : tms.size ≤ 1000000) (h : clockErr tms = 0) :
    Calls Tryd.prog 19 #[.string tms] w fun e w' => e = .returned (.tuple #[.int .i64 (syncV tms), .bool (syncB tms)]) ∧ Below w.heap.size w w' := by
  cases hall : allToB tms.data.toList with
  | true =>
    have hb : syncB tms = true := by simp [syncB, h, hall]
    have hv : syncV tms = ((nxs 0 tms.data.toList : Nat) : Int) := by simp [syncV, hb]
    rw [hv, hb]
    exact syncTo_yes tms w hs (clockErr_bits h) ((allToB_iff _).1 hall)
  | false =>
    have hb : syncB tms = false := by simp [syncB, hall]
    have hv : syncV tms = 0 := by simp [syncV, hb]
    rw [hv, hb]
    exact syncTo_no tms w hs (clockErr_bits h) (fun hc => by rw [(allToB_iff _).2 hc] at hall; cases hall)
end Go.Proofs.YtnlejnldimihcaaDoor
