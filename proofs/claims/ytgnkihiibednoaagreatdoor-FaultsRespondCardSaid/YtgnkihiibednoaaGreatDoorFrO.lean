/- What is right is told by no error; the reference's FirstOf. -/
import Derived.Test.YtgnkihiibednoaaGreatDoorFrN
namespace Go.Proofs.YtgnkihiibednoaaGreatDoor
open Go.RowKit

theorem firstErr_zero (f : List UInt8 → Int) : ∀ (S : List (List UInt8)), firstErr f S = 0 → ∀ s, s ∈ S → f s = 0
  | [], _, s, hs => by cases hs
  | x :: S, h, s, hs => by
    unfold firstErr at h
    split at h
    · rename_i h0
      rcases List.mem_cons.1 hs with rfl | h1
      · exact h0
      · exact firstErr_zero f S h s h1
    · rename_i h0
      exact absurd h h0
theorem testErr_right (T : List (List UInt8)) (h : testErr T = 0) : TestRight T T.length (T.getD 0 []).length := by
  unfold testErr at h
  split at h
  · cases h
  rename_i h0
  split at h
  · cases h
  rename_i h1
  have hall : ∀ k, k < T.length → (T.getD k []).all bitB = true ∧ (T.getD k []).length ≤ 64 ∧ (T.getD k []).length = (T.getD 0 []).length := fun k hk => by
    have e : T.getD k [] = T[k] := by simp [hk]
    have hz := firstErr_zero _ T h (T.getD k []) (by rw [e]; exact List.getElem_mem hk)
    unfold tbitErr at hz
    split at hz
    · rename_i hb
      split at hz
      · cases hz
      · split at hz
        · exact ⟨hb, by omega, by omega⟩
        · cases hz
    · cases hz
  exact ⟨by omega, by omega, (hall 0 (by omega)).2.1, rfl, fun k hk => (hall k hk).2.2, fun k hk => (hall k hk).1⟩
theorem riseTo_lt (l : List Int) : ∀ M, riseTo l M = true → ∀ j, j + 1 < M → l.getD j 0 < l.getD (j + 1) 0
  | 0, _, j, hj => by omega
  | 1, _, j, hj => by omega
  | M + 2, h, j, hj => by
    have h2 : (riseTo l (M + 1) && decide (l.getD M 0 < l.getD (M + 1) 0)) = true := h
    rw [Bool.and_eq_true, decide_eq_true_eq] at h2
    rcases Nat.lt_or_ge (j + 1) (M + 1) with h3 | h3
    · exact riseTo_lt l (M + 1) h2.1 j h3
    · obtain rfl : j = M := by omega
      exact h2.2
theorem fltErr_right (n : Nat) (f : Flt) (h : fltErr (n : Int) f = 0) : FltRight n f := by
  obtain ⟨k, l⟩ := f
  rw [fltErr_at] at h
  split at h
  · cases h
  rename_i c1
  split at h
  · cases h
  rename_i c2
  split at h
  · cases h
  rename_i c3
  split at h
  · cases h
  rename_i c4
  split at h
  · cases h
  rename_i c5
  split at h
  · cases h
  rename_i c6
  have c6' : shortK k = decide (1 < l.length) := by
    by_cases e : shortK k = decide (1 < l.length)
    · exact e
    · exact absurd e c6
  have hr : ∀ j, j < l.length → 0 ≤ l.getD j 0 ∧ l.getD j 0 < n := fun j hj => by
    have e : l.getD j 0 = l[j] := by simp [hj]
    have h2 := (List.any_eq_false.1 (by simpa only [Bool.not_eq_true] using c5)) l[j] (List.getElem_mem hj)
    rw [← e] at h2
    simp only [Bool.or_eq_true, decide_eq_true_eq, not_or] at h2
    omega
  unfold ordErr at h
  by_cases c7 : riseTo (if k = 5 then l.tail else l) (if k = 5 then l.tail else l).length = false
  · rw [if_pos c7] at h
    cases h
  rw [if_neg c7] at h
  by_cases c8 : k = 5 ∧ l.getD 0 0 ∈ l.tail
  · rw [if_pos c8] at h
    cases h
  have c7' : riseTo (if k = 5 then l.tail else l) (if k = 5 then l.tail else l).length = true := by
    generalize riseTo (if k = 5 then l.tail else l) (if k = 5 then l.tail else l).length = b at c7 ⊢
    cases b
    · exact absurd rfl c7
    · rfl
  refine ⟨by omega, by omega, by dsimp only; omega, by dsimp only; omega, by dsimp only; omega, by dsimp only; omega, fun j hj => (hr j hj).1, fun j hj => (hr j hj).2, c6', fun j hj hk => ?_, fun hk j hj1 hj2 => ?_⟩
  · dsimp only at hj hk ⊢
    by_cases h5 : k = 5
    · rw [if_pos h5] at c7'
      have h1 := hk h5
      obtain ⟨i, rfl⟩ : ∃ i, j = i + 1 := ⟨j - 1, by omega⟩
      cases l with
      | nil => simp at hj
      | cons x l' => exact riseTo_lt l' _ c7' i (by simpa using hj)
    · rw [if_neg h5] at c7'
      exact riseTo_lt l _ c7' j hj
  · dsimp only at hk hj2 ⊢
    intro he
    refine c8 ⟨hk, ?_⟩
    obtain ⟨i, rfl⟩ : ∃ i, j = i + 1 := ⟨j - 1, by omega⟩
    cases l with
    | nil => simp at hj2
    | cons x l' =>
      have hi : i < l'.length := by simpa using hj2
      have e : (x :: l').getD (i + 1) 0 = l'[i] := by simp [hi]
      rw [← he, e]
      exact List.getElem_mem hi

/-- The first vector that detects a fault, and whether there is one. -/
def firstN (T : List (List UInt8)) (f : Flt) (m : Nat) : Nat := (caughtL T f m).getD 0 0
def anyN (T : List (List UInt8)) (f : Flt) (m : Nat) : Bool := decide (0 < (caughtL T f m).length)
set_option maxHeartbeats 4000000 in
theorem firstOf_any (T : List (List UInt8)) (n m : Nat) (hT : TestRight T n m) (f : Flt) (hf : FltRight n f) (B : Nat) (w : World) (tv nv : Value) (h : StrsAt B w tv T) (hN : NetsAt w nv f.2) :
    Calls Tryz.prog 16 #[tv, .agg #[.int .i64 f.1, nv]] w fun e w' => e = .returned (.tuple #[.int .i64 (firstN T f m : Int), .bool (anyN T f m)]) ∧ Below w.heap.size w w' := by
  have hB1 : Below w.heap.size w (w.alloc (.cells #[.int .i64 f.1, nv] 30)) := (Below.refl _ _).alloc (Nat.le_refl _) _
  have hc := caught_any T n m hT f hf B _ tv nv (row_later h hB1) (hN.later hB1)
  obtain ⟨ta, tc, rfl, -⟩ := strs_open h
  obtain ⟨na, nc, rfl, -⟩ := hN
  obtain ⟨k, l⟩ := f
  dsimp only at hc hB1 ⊢
  obtain ⟨F, hF⟩ : ∃ F, F = caughtL T (k, l) m := ⟨_, rfl⟩
  have h1 : firstN T (k, l) m = F.getD 0 0 := by rw [hF]; rfl
  have h2 : anyN T (k, l) m = decide (0 < F.length) := by rw [hF]; rfl
  rw [h1, h2]
  rw [← hF] at hc
  generalize l.length = nl at hc hB1 ⊢
  generalize T.length = tl at hc ⊢
  clear hF h1 h2 h hT hf
  have HB := Lib.hid hB1
  clear hB1
  by_cases h0 : F.length = 0
  · have hFn : F = [] := List.eq_nil_of_length_eq_zero h0
    subst hFn
    go_enter Tryz.func16, Tryz.ntmps16
    go_wp2_with fail
    refine hc.mono ?_
    rintro e w2 ⟨cv, rfl, hcv, hB2⟩
    obtain ⟨ca, cc, rfl⟩ := hcv.open
    have HB2 := Lib.hid (HB.out.trans (hB2.mono HB.out.size))
    clear hc hcv hB2
    go_wp2_with fail
    go_ret2
    exact ⟨rfl, HB2.out⟩
  · have e2 : decide (0 < F.length) = true := decide_eq_true (by omega)
    rw [e2]
    obtain ⟨x, F', rfl⟩ : ∃ x F', F = x :: F' := by
      cases F with
      | nil => simp at h0
      | cons x F' => exact ⟨x, F', rfl⟩
    have e3 : (x :: F').getD 0 0 = x := rfl
    rw [e3]
    go_enter Tryz.func16, Tryz.ntmps16
    go_wp2_with fail
    refine hc.mono ?_
    rintro e w2 ⟨cv, rfl, hcv, hB2⟩
    obtain ⟨ca, cc, rfl⟩ := hcv.open
    have hrow : w2.ownsRow _ 3 1 (.slice ca (x :: F').length cc) (x :: F').length ((x :: F').map natV) := hcv
    obtain ⟨g, rfl⟩ : ∃ g, ca = some ⟨g, 0, none⟩ := by
      obtain ⟨-, ⟨e, h3⟩ | ⟨g, cap, cur, e, -⟩⟩ := hcv
      · simp at h3
      · cases e; exact ⟨_, rfl⟩
    have hcell := hrow.cellAt 0 (by simp)
    change _ = some (Value.int .i64 (x : Int)) at hcell
    have hz : (0 : Int) < ((x :: F').length : Int) := by rw [List.length_cons]; omega
    have n0 : (((x :: F').length : Int) == 0) = false := by rw [beq_eq_false_iff_ne, List.length_cons]; omega
    generalize (x :: F').length = fl at hz n0 ⊢
    have HB2 := Lib.hid (HB.out.trans (hB2.mono HB.out.size))
    clear hc hB2 hcv hrow
    go_wp2_with fail
    go_ret2
    exact ⟨rfl, HB2.out⟩
end Go.Proofs.YtgnkihiibednoaaGreatDoor
