/- Package fault, plain: sets that are turned at the nets that a fault changes. -/
import Derived.Test.YtgnkihiibednoaaGreatDoorFrU
import Derived.Test.YtgnkihiibednoaaGreatDoorFrH
namespace Go.Proofs.YtgnkihiibednoaaGreatDoor

/-- The sets, turned at these nets by these vectors. -/
def flip1 (S : List Nat) (x : Int × Nat) : List Nat := S.set x.1.toNat (S.getD x.1.toNat 0 ^^^ x.2)
def flips (on : List Nat) (pre : List (Int × Nat)) : List Nat := pre.foldl flip1 on
theorem flips_snoc (on : List Nat) (pre : List (Int × Nat)) (x : Int × Nat) : flips on (pre ++ [x]) = flip1 (flips on pre) x := by simp [flips]
theorem flips_len (on : List Nat) : ∀ (pre : List (Int × Nat)), (flips on pre).length = on.length := by
  intro pre
  induction pre generalizing on with
  | nil => rfl
  | cons x xs ih =>
    show (flips (flip1 on x) xs).length = _
    rw [ih, flip1, List.length_set]
theorem getD_set_ne {S : List Nat} {i j : Nat} (v : Nat) (h : i ≠ j) : (S.set i v).getD j 0 = S.getD j 0 := by
  rw [List.getD_eq_getElem?_getD, List.getElem?_set, if_neg h, ← List.getD_eq_getElem?_getD]
theorem getD_set_eq {S : List Nat} {i : Nat} (v : Nat) (h : i < S.length) : (S.set i v).getD i 0 = v := by
  rw [List.getD_eq_getElem?_getD, List.getElem?_set, if_pos rfl, if_pos h]
  rfl
theorem xor_back (a b : Nat) : a ^^^ (b ^^^ a) = b := by
  rw [Nat.xor_comm b a, ← Nat.xor_assoc, Nat.xor_self, Nat.zero_xor]
theorem xor_zero_eq {a b : Nat} (h : a ^^^ b = 0) : a = b := by
  have h2 := xor_back b a
  rw [h, Nat.xor_zero] at h2
  exact h2.symm
/-- A fault's nets are different. -/
theorem FltRight.differ {n : Nat} {f : Flt} (hf : FltRight n f) : ∀ j, j < f.2.length → ∀ i, i < j → f.2.getD i 0 ≠ f.2.getD j 0 := by
  have rise : ∀ d i, i + d + 1 < f.2.length → (f.1 = 5 → 1 ≤ i) → f.2.getD i 0 < f.2.getD (i + d + 1) 0 := by
    intro d
    induction d with
    | zero => exact fun i hi h5 => hf.rise i hi h5
    | succ d ih =>
      intro i hi h5
      have h1 := ih i (by omega) h5
      have h2 := hf.rise (i + d + 1) (by omega) (fun _ => by omega)
      have e : i + (d + 1) + 1 = i + d + 1 + 1 := by omega
      rw [e]
      omega
  intro j hj i hij
  by_cases h0 : f.1 = 5 ∧ i = 0
  · rw [h0.2]
    exact fun e => hf.once h0.1 j (by omega) hj e.symm
  · have h := rise (j - i - 1) i (by omega) (fun h5 => by
      by_cases hi : i = 0
      · exact absurd ⟨h5, hi⟩ h0
      · omega)
    have e : i + (j - i - 1) + 1 = j := by omega
    rw [e] at h
    omega
theorem flips_to {n : Nat} {f : Flt} (hf : FltRight n f) (m : Nat) (on : List Nat) (hol : on.length = n) : ∀ k, k ≤ f.2.length → ∀ i, (flips on (chgTo m on f k)).getD i 0 = if ∃ j, j < k ∧ f.2.getD j 0 = (i : Int) then comL m on f else on.getD i 0 := by
  intro k
  induction k with
  | zero =>
    intro _ i
    rw [if_neg (by rintro ⟨j, hj, -⟩; omega)]
    rfl
  | succ k ih =>
    intro hk i
    have h0 := hf.low k (by omega)
    have h1 := hf.high k (by omega)
    obtain ⟨q, hq⟩ : ∃ q : Nat, f.2.getD k 0 = (q : Int) := ⟨(f.2.getD k 0).toNat, by omega⟩
    have hqn : q < n := by omega
    have hqt : (f.2.getD k 0).toNat = q := by omega
    have hfresh : ¬ ∃ j, j < k ∧ f.2.getD j 0 = (q : Int) := by
      rintro ⟨j, hj, e⟩
      exact hf.differ k (by omega) j hj (by rw [e, hq])
    rw [chgTo_succ m on f k (by omega)]
    by_cases hz : comL m on f ^^^ on.getD (f.2.getD k 0).toNat 0 = 0
    · rw [if_pos hz, ih (by omega) i]
      have he := xor_zero_eq hz
      rw [hqt] at he
      by_cases hiq : i = q
      · subst hiq
        rw [if_neg hfresh, if_pos ⟨k, by omega, hq⟩, he]
      · have hiff : (∃ j, j < k ∧ f.2.getD j 0 = (i : Int)) ↔ ∃ j, j < k + 1 ∧ f.2.getD j 0 = (i : Int) :=
          ⟨fun ⟨j, hj, e⟩ => ⟨j, by omega, e⟩, fun ⟨j, hj, e⟩ => by
            by_cases hjk : j = k
            · subst hjk
              rw [hq] at e
              exact absurd (Int.ofNat.inj e) (fun e2 => hiq e2.symm)
            · exact ⟨j, by omega, e⟩⟩
        simp only [hiff]
    · rw [if_neg hz, flips_snoc, flip1]
      show ((flips on (chgTo m on f k)).set (f.2.getD k 0).toNat ((flips on (chgTo m on f k)).getD (f.2.getD k 0).toNat 0 ^^^ _)).getD i 0 = _
      rw [hqt, ih (by omega) q, if_neg hfresh, xor_back]
      by_cases hiq : i = q
      · subst hiq
        rw [getD_set_eq _ (by rw [flips_len, hol]; exact hqn), if_pos ⟨k, by omega, hq⟩]
      · rw [getD_set_ne _ (fun e => hiq e.symm), ih (by omega) i]
        have hiff : (∃ j, j < k ∧ f.2.getD j 0 = (i : Int)) ↔ ∃ j, j < k + 1 ∧ f.2.getD j 0 = (i : Int) :=
          ⟨fun ⟨j, hj, e⟩ => ⟨j, by omega, e⟩, fun ⟨j, hj, e⟩ => by
            by_cases hjk : j = k
            · subst hjk
              rw [hq] at e
              exact absurd (Int.ofNat.inj e) (fun e2 => hiq e2.symm)
            · exact ⟨j, by omega, e⟩⟩
        simp only [hiff]
/-- At a net that has not come yet the set is what it was. -/
theorem flips_fresh {n : Nat} {f : Flt} (hf : FltRight n f) (m : Nat) (on : List Nat) (hol : on.length = n) (k : Nat) (hk : k < f.2.length) : (flips on (chgTo m on f k)).getD (f.2.getD k 0).toNat 0 = on.getD (f.2.getD k 0).toNat 0 := by
  have h0 := hf.low k hk
  rw [flips_to hf m on hol k (by omega), if_neg]
  rintro ⟨j, hj, e⟩
  exact hf.differ k hk j hj (by omega)
theorem flips_all {n : Nat} {f : Flt} (hf : FltRight n f) (m : Nat) (on : List Nat) (hol : on.length = n) : flips on (chgL m on f) = chgOn on m f := by
  refine List.ext_getElem (by rw [flips_len, chgOn, List.length_map, List.length_range]) fun i h1 h2 => ?_
  have h3 : (flips on (chgL m on f))[i] = (flips on (chgTo m on f f.2.length)).getD i 0 := by
    rw [List.getD_eq_getElem?_getD, List.getElem?_eq_getElem (by exact h1)]
    rfl
  rw [h3, flips_to hf m on hol _ (Nat.le_refl _) i]
  have hiff : (∃ j, j < f.2.length ∧ f.2.getD j 0 = (i : Int)) ↔ (i : Int) ∈ f.2 :=
    ⟨fun ⟨j, hj, e⟩ => by
      rw [← e, List.getD_eq_getElem?_getD, List.getElem?_eq_getElem hj]
      exact List.getElem_mem hj, fun h => by
      obtain ⟨j, hj, e⟩ := List.mem_iff_getElem.1 h
      exact ⟨j, hj, by rw [List.getD_eq_getElem?_getD, List.getElem?_eq_getElem hj]; exact e⟩⟩
  simp only [chgOn, List.getElem_map, List.getElem_range, hiff]
theorem chgOn_len (on : List Nat) (m : Nat) (f : Flt) : (chgOn on m f).length = on.length := by simp [chgOn]
end Go.Proofs.YtgnkihiibednoaaGreatDoor
