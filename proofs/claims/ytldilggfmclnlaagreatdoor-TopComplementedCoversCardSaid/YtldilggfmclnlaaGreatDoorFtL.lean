/- Complemented counting vectors for up to twelve nets: what is right of them, and that each single fault is detected. -/
import Derived.Test.YtldilggfmclnlaaGreatDoorFtK
namespace Go.Proofs.YtldilggfmclnlaaGreatDoor
open Go.RowKit

/-- Whether a fault of so many nets is right, as a program. -/
def fltOkB (n : Nat) (f : Flt) : Bool :=
  decide (1 ≤ n) && decide (n ≤ 100) && decide (1 ≤ f.1) && decide (f.1 ≤ 6) && decide (1 ≤ f.2.length) && decide (f.2.length ≤ 6) &&
  (List.range f.2.length).all (fun j => decide (0 ≤ f.2.getD j 0) && decide (f.2.getD j 0 < n)) && (shortK f.1 == decide (1 < f.2.length)) &&
  (List.range f.2.length).all (fun j => decide (j + 1 < f.2.length → (f.1 = 5 → 1 ≤ j) → f.2.getD j 0 < f.2.getD (j + 1) 0)) &&
  (List.range f.2.length).all (fun j => decide (f.1 = 5 → 1 ≤ j → f.2.getD j 0 ≠ f.2.getD 0 0))
theorem fltOk_right {n : Nat} {f : Flt} (h : fltOkB n f = true) : FltRight n f := by
  unfold fltOkB at h
  simp only [Bool.and_eq_true, decide_eq_true_eq, List.all_eq_true, List.mem_range, beq_iff_eq] at h
  obtain ⟨⟨⟨⟨⟨⟨⟨⟨⟨h1, h2⟩, h3⟩, h4⟩, h5⟩, h6⟩, h7⟩, h8⟩, h9⟩, h10⟩ := h
  exact ⟨h1, h2, h3, h4, h5, h6, fun j hj => (h7 j hj).1, fun j hj => (h7 j hj).2, h8, fun j hj hk => h9 j (by omega) hj hk, fun hk j h1 hj => h10 j hj hk h1⟩
def kindsL : List Int := [1, 2, 3, 4, 5, 6]
def topV (n : Nat) : List (List UInt8) := turnL (compS n) (2 * cLen n)
theorem top_turn : ∀ n, n < 13 → 1 ≤ n → turnL (topV n) n = compS n := by decide +kernel
theorem top_long : ∀ n, n < 13 → 1 ≤ n → (topV n).length ≤ 200 ∧ ∀ s, s ∈ topV n → s.length = n := by decide +kernel
theorem top_err : ∀ n : Nat, n < 13 → 1 ≤ n → vecErr (n : Int) (topV n) = 0 := by decide +kernel
theorem top_test : ∀ n, n < 13 → 1 ≤ n → (compS n).length = n ∧ 2 * cLen n ≤ 64 ∧ (∀ k, k < n → ((compS n).getD k []).length = 2 * cLen n) ∧ ∀ k, k < n → ((compS n).getD k []).all bitB = true := by decide +kernel
theorem top_flts : ∀ n, n < 13 → 1 ≤ n → (allKinds n kindsL).all (fltOkB n) = true := by decide +kernel
theorem top_det : ∀ n, n < 13 → 1 ≤ n → (allKinds n kindsL).all (fun f => decide (detN (2 * cLen n) ((compS n).map setL) f &&& beforeN (2 * cLen n) ≠ 0)) = true := by decide +kernel
theorem top_many : ∀ n, n < 13 → 1 ≤ n → 0 < (allKinds n kindsL).length ∧ (allKinds n kindsL).length ≤ 20000 := by decide +kernel
theorem topTest (n : Nat) (h1 : 1 ≤ n) (h2 : n < 13) : TestRight (compS n) n (2 * cLen n) := by
  obtain ⟨a, b, c, d⟩ := top_test n h2 h1
  exact ⟨h1, by omega, b, a, c, d⟩
theorem topFlts (n : Nat) (h1 : 1 ≤ n) (h2 : n < 13) : ∀ i, i < (allKinds n kindsL).length → FltRight n ((allKinds n kindsL).getD i (0, [])) := by
  intro i hi
  have e : (allKinds n kindsL).getD i (0, []) = (allKinds n kindsL)[i] := by simp [hi]
  rw [e]
  exact fltOk_right (List.all_eq_true.1 (top_flts n h2 h1) _ (List.getElem_mem hi))
theorem topDets (n : Nat) (h1 : 1 ≤ n) (h2 : n < 13) : ∀ i, i < (allKinds n kindsL).length → (detsL (2 * cLen n) (compS n) (allKinds n kindsL)).getD i 0 &&& beforeN (2 * cLen n) ≠ 0 := by
  intro i hi
  have e : (detsL (2 * cLen n) (compS n) (allKinds n kindsL)).getD i 0 = detN (2 * cLen n) ((compS n).map setL) (allKinds n kindsL)[i] := by unfold detsL; simp [hi]
  rw [e]
  exact of_decide_eq_true (List.all_eq_true.1 (top_det n h2 h1) _ (List.getElem_mem hi))
theorem topUnd (n : Nat) (h1 : 1 ≤ n) (h2 : n < 13) : undTo (detsL (2 * cLen n) (compS n) (allKinds n kindsL)) (allKinds n kindsL).length = [] :=
  undTo_none _ _ fun i hi h0 => topDets n h1 h2 i hi (by rw [h0, Nat.zero_and])
end Go.Proofs.YtldilggfmclnlaaGreatDoor
