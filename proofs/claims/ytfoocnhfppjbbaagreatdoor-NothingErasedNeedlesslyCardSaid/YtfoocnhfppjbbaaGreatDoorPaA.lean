/- Package flash, plain: a plan makes the words of others; each of its operations is needed; all are right. -/
import Derived.Test.YtfoocnhfppjbbaaGreatDoorM9
namespace Go.Proofs.YtfoocnhfppjbbaaGreatDoor
open Go.RowKit

/-- Does an operation touch an address? -/
def relO (S : List Int) (a : Nat) (o : Opn) : Bool := if o.1 = 1 then decide (preS S o.2.1.toNat ≤ (a : Int) ∧ (a : Int) < preS S (o.2.1.toNat + 1)) else decide (o.2.1.toNat = a)
/-- What an operation makes of the word at an address. -/
def valO (S : List Int) (a : Nat) (v : Int) (o : Opn) : Int := if relO S a o = true then (if o.1 = 1 then 65535 else ((v.toNat &&& o.2.2.toNat : Nat) : Int)) else v
theorem doOp_at (S W : List Int) (o : Opn) (a : Nat) (ha : a < W.length) : (doOp S W o).getD a 0 = valO S a (W.getD a 0) o := by
  unfold doOp valO relO
  by_cases h1 : o.1 = 1
  · simp only [if_pos h1]
    rw [List.getD_eq_getElem?_getD, List.getElem?_map, List.getElem?_range ha]
    simp only [Option.map_some, Option.getD_some, decide_eq_true_eq]
  · simp only [if_neg h1]
    by_cases e : o.2.1.toNat = a
    · rw [e, List.getD_eq_getElem?_getD, List.getElem?_set_self ha]
      simp
    · rw [List.getD_eq_getElem?_getD, List.getElem?_set_ne e, ← List.getD_eq_getElem?_getD]
      simp [e]
theorem doOps_at (S : List Int) (a : Nat) : ∀ (O : List Opn) (W : List Int), a < W.length → (doOps S W O).getD a 0 = (O.filter (relO S a)).foldl (valO S a) (W.getD a 0)
  | [], _, _ => rfl
  | o :: O, W, ha => by
    have h := doOps_at S a O (doOp S W o) (by rw [doOp_len]; exact ha)
    show (doOps S (doOp S W o) O).getD a 0 = _
    rw [h, doOp_at S W o a ha]
    cases hr : relO S a o with
    | true => rw [List.filter_cons_of_pos hr]; rfl
    | false =>
      rw [List.filter_cons_of_neg (by simp [hr])]
      congr 1
      unfold valO
      rw [hr]
      rfl
theorem doOps_app (S W : List Int) (O P : List Opn) : doOps S W (O ++ P) = doOps S (doOps S W O) P := by simp [doOps]

/-- What the plan does at an address of a sector. -/
def planAt (S N T : List Int) (k a : Nat) : List Opn :=
  let e := !lowL (subL N (preS S k).toNat (preS S (k + 1)).toNat) (subL T (preS S k).toNat (preS S (k + 1)).toNat)
  (if e = true then [(1, (k : Int), 0)] else []) ++ (if (if e = true then 65535 else N.getD a 0) = T.getD a 0 then [] else [(2, (a : Int), T.getD a 0)])

theorem relO_prog (S : List Int) (a b : Nat) (x : Int) : relO S a (2, (b : Int), x) = decide (b = a) := by
  unfold relO
  simp
theorem relO_erase (S : List Int) (a k : Nat) (x : Int) : relO S a (1, (k : Int), x) = decide (preS S k ≤ (a : Int) ∧ (a : Int) < preS S (k + 1)) := by
  unfold relO
  rw [if_pos rfl]
  simp
theorem planIn_other (S T : List Int) (st : List Int × List Opn) (b a : Nat) (hne : b ≠ a) (ha : a < st.1.length) : (planIn S T st b).1.getD a 0 = st.1.getD a 0 ∧ (planIn S T st b).2.filter (relO S a) = st.2.filter (relO S a) := by
  unfold planIn
  split
  · exact ⟨rfl, rfl⟩
  · dsimp only
    refine ⟨?_, ?_⟩
    · rw [doOp_at _ _ _ _ ha]
      unfold valO
      rw [relO_prog, decide_eq_false hne]
      rfl
    · rw [List.filter_append, List.filter_cons_of_neg (by rw [relO_prog, decide_eq_false hne]; decide)]
      simp
theorem planRun_other (S T : List Int) (st : List Int × List Opn) (p a : Nat) (ha : a < st.1.length) : ∀ n, (∀ i, i < n → p + i ≠ a) → (planRun S T st p n).1.getD a 0 = st.1.getD a 0 ∧ (planRun S T st p n).2.filter (relO S a) = st.2.filter (relO S a)
  | 0, _ => ⟨rfl, rfl⟩
  | n + 1, h => by
    have h1 := planRun_other S T st p a ha n (fun i hi => h i (by omega))
    have h2 := planIn_other S T (planRun S T st p n) (p + n) a (h n (by omega)) (by rw [(planRun_len S T st p n).1]; exact ha)
    exact ⟨h2.1.trans h1.1, h2.2.trans h1.2⟩
theorem planIn_self (S T : List Int) (st : List Int × List Opn) (a : Nat) (ha : a < st.1.length) (hT : 0 ≤ T.getD a 0) (hl : lowB (T.getD a 0) (st.1.getD a 0) = true) :
    (planIn S T st a).1.getD a 0 = T.getD a 0 ∧ (planIn S T st a).2.filter (relO S a) = st.2.filter (relO S a) ++ (if st.1.getD a 0 = T.getD a 0 then [] else [(2, (a : Int), T.getD a 0)]) := by
  unfold planIn
  split
  · rename_i h
    exact ⟨h, by simp⟩
  · dsimp only
    refine ⟨?_, ?_⟩
    · rw [doOp_at _ _ _ _ ha]
      unfold valO
      rw [relO_prog, decide_eq_true rfl, if_pos rfl, if_neg (by simp)]
      dsimp only
      unfold lowB at hl
      have h2 := of_decide_eq_true hl
      rw [Nat.and_comm, h2]
      omega
    · rw [List.filter_append, List.filter_cons_of_pos (by rw [relO_prog, decide_eq_true rfl])]
      simp
theorem planRun_self (S T : List Int) (st : List Int × List Opn) (p a n : Nat) (hp : p ≤ a) (hn : a < p + n) (ha : a < st.1.length) (hT : 0 ≤ T.getD a 0) (hl : lowB (T.getD a 0) (st.1.getD a 0) = true) :
    (planRun S T st p n).1.getD a 0 = T.getD a 0 ∧ (planRun S T st p n).2.filter (relO S a) = st.2.filter (relO S a) ++ (if st.1.getD a 0 = T.getD a 0 then [] else [(2, (a : Int), T.getD a 0)]) := by
  induction n with
  | zero => omega
  | succ n ih =>
    by_cases e : p + n = a
    · have h1 := planRun_other S T st p a ha n (fun i hi => by omega)
      have h2 := planIn_self S T (planRun S T st p n) a (by rw [(planRun_len S T st p n).1]; exact ha) hT (by rw [h1.1]; exact hl)
      show (planIn S T (planRun S T st p n) (p + n)).1.getD a 0 = _ ∧ (planIn S T (planRun S T st p n) (p + n)).2.filter _ = _
      rw [e]
      rw [h1.1, h1.2] at h2
      exact h2
    · have h1 := ih (by omega)
      have h2 := planIn_other S T (planRun S T st p n) (p + n) a e (by rw [(planRun_len S T st p n).1]; exact ha)
      exact ⟨h2.1.trans h1.1, h2.2.trans h1.2⟩
theorem preS_zero_le {S : List Int} (hS : FlashRight S) (k : Nat) (hk : k ≤ S.length) : 0 ≤ preS S k := by
  have h := preS_mono hS.low k hk 0 (by omega)
  rw [show preS S 0 = 0 from rfl] at h
  omega
theorem planErase_at (S N T : List Int) (st : List Int × List Opn) (k a : Nat) (ha : a < st.1.length) :
    (planErase S N T st k (preS S k).toNat (preS S (k + 1)).toNat).1.getD a 0 = (if (!lowL (subL N (preS S k).toNat (preS S (k + 1)).toNat) (subL T (preS S k).toNat (preS S (k + 1)).toNat)) = true ∧ preS S k ≤ (a : Int) ∧ (a : Int) < preS S (k + 1) then 65535 else st.1.getD a 0) ∧
    (planErase S N T st k (preS S k).toNat (preS S (k + 1)).toNat).2.filter (relO S a) = st.2.filter (relO S a) ++ (if (!lowL (subL N (preS S k).toNat (preS S (k + 1)).toNat) (subL T (preS S k).toNat (preS S (k + 1)).toNat)) = true ∧ preS S k ≤ (a : Int) ∧ (a : Int) < preS S (k + 1) then [(1, (k : Int), 0)] else []) := by
  unfold planErase
  cases hl : lowL (subL N (preS S k).toNat (preS S (k + 1)).toNat) (subL T (preS S k).toNat (preS S (k + 1)).toNat) with
  | true => simp
  | false =>
    simp only [Bool.not_false, true_and, Bool.false_eq_true, if_false]
    rw [doOp_at _ _ _ _ ha, List.filter_append]
    unfold valO
    by_cases h : preS S k ≤ (a : Int) ∧ (a : Int) < preS S (k + 1)
    · have hr : relO S a (1, (k : Int), 0) = true := by rw [relO_erase, decide_eq_true h]
      rw [if_pos hr, if_pos rfl, if_pos h, List.filter_cons_of_pos hr, if_pos h]
      exact ⟨rfl, rfl⟩
    · have hr : relO S a (1, (k : Int), 0) = false := by rw [relO_erase, decide_eq_false h]
      rw [if_neg (by rw [hr]; decide), if_neg h, List.filter_cons_of_neg (by rw [hr]; decide), if_neg h]
      exact ⟨rfl, rfl⟩
/-- All of a plan at one address: nothing ahead of its sector, then what planAt tells, then nothing. -/
theorem planTo_at (S N T : List Int) (hS : FlashRight S) (hT : ∀ j, j < N.length → 0 ≤ T.getD j 0 ∧ T.getD j 0 ≤ 65535) (a : Nat) (ha : a < N.length) (k0 : Nat) (hk0 : k0 < S.length) (h1 : preS S k0 ≤ (a : Int)) (h2 : (a : Int) < preS S (k0 + 1))
    (hTl : T.length = N.length) (hLen : preS S (k0 + 1) ≤ (N.length : Int)) : ∀ k, k ≤ S.length →
    (planTo S N T k).1.getD a 0 = (if k ≤ k0 then N.getD a 0 else T.getD a 0) ∧ (planTo S N T k).2.filter (relO S a) = (if k ≤ k0 then [] else planAt S N T k0 a)
  | 0, _ => by rw [if_pos (Nat.zero_le _), if_pos (Nat.zero_le _)]; exact ⟨rfl, rfl⟩
  | k + 1, hk => by
    have ih := planTo_at S N T hS hT a ha k0 hk0 h1 h2 hTl hLen k (by omega)
    have hl := (planTo_len S N T hS k (by omega)).1
    have he := planErase_at S N T (planTo S N T k) k a (by rw [hl]; exact ha)
    have hz := preS_zero_le hS k (by omega)
    have hz0 := preS_zero_le hS k0 (by omega)
    have hq := preS_mono hS.low (k + 1) (by omega) k (by omega)
    have hlen2 := (planErase_len S N T (planTo S N T k) k (preS S k).toNat (preS S (k + 1)).toNat).1
    show (planRun S T (planErase S N T (planTo S N T k) k (preS S k).toNat (preS S (k + 1)).toNat) (preS S k).toNat ((preS S (k + 1)).toNat - (preS S k).toNat)).1.getD a 0 = _ ∧ (planRun S T (planErase S N T (planTo S N T k) k (preS S k).toNat (preS S (k + 1)).toNat) (preS S k).toNat ((preS S (k + 1)).toNat - (preS S k).toNat)).2.filter _ = _
    by_cases e : k = k0
    · subst e
      rw [if_pos (Nat.le_refl _), if_pos (Nat.le_refl _)] at ih
      rw [if_neg (by omega), if_neg (by omega)]
      rw [ih.1, ih.2] at he
      have hlow : lowB (T.getD a 0) ((planErase S N T (planTo S N T k) k (preS S k).toNat (preS S (k + 1)).toNat).1.getD a 0) = true := by
        rw [he.1]
        cases hl2 : lowL (subL N (preS S k).toNat (preS S (k + 1)).toNat) (subL T (preS S k).toNat (preS S (k + 1)).toNat) with
        | false =>
          rw [if_pos ⟨rfl, h1, h2⟩]
          unfold lowB
          apply decide_eq_true
          rw [show (65535 : Int).toNat = 2 ^ 16 - 1 from rfl, Nat.and_two_pow_sub_one_eq_mod]
          have := hT a ha
          omega
        | true =>
          rw [if_neg (by simp)]
          unfold lowL at hl2
          rw [List.all_eq_true] at hl2
          have h3 := hl2 (a - (preS S k).toNat) (by rw [List.mem_range, subL_len (by omega)]; omega)
          rw [subL_at (by omega), subL_at (by omega), show (preS S k).toNat + (a - (preS S k).toNat) = a by omega] at h3
          exact h3
      have hr := planRun_self S T (planErase S N T (planTo S N T k) k (preS S k).toNat (preS S (k + 1)).toNat) (preS S k).toNat a ((preS S (k + 1)).toNat - (preS S k).toNat) (by omega) (by omega) (by rw [hlen2, hl]; exact ha) (hT a ha).1 hlow
      refine ⟨hr.1, ?_⟩
      rw [hr.2, he.1, he.2]
      unfold planAt
      cases hl2 : lowL (subL N (preS S k).toNat (preS S (k + 1)).toNat) (subL T (preS S k).toNat (preS S (k + 1)).toNat) <;> simp [h1, h2]
    · have hout : ¬ (preS S k ≤ (a : Int) ∧ (a : Int) < preS S (k + 1)) := by
        rintro ⟨h3, h4⟩
        rcases Nat.lt_or_gt_of_ne e with hlt | hgt
        · have := preS_mono hS.low k0 (by omega) (k + 1) (by omega)
          omega
        · have := preS_mono hS.low k (by omega) (k0 + 1) (by omega)
          omega
      rw [if_neg (fun h => hout h.2), if_neg (fun h => hout h.2), List.append_nil] at he
      have hr := planRun_other S T (planErase S N T (planTo S N T k) k (preS S k).toNat (preS S (k + 1)).toNat) (preS S k).toNat a (by rw [hlen2, hl]; exact ha) ((preS S (k + 1)).toNat - (preS S k).toNat) (fun i hi h3 => hout (by omega))
      rw [hr.1, hr.2, he.1, he.2, ih.1, ih.2]
      by_cases h3 : k ≤ k0
      · rw [if_pos h3, if_pos h3, if_pos (by omega), if_pos (by omega)]; exact ⟨rfl, rfl⟩
      · rw [if_neg h3, if_neg h3, if_neg (by omega), if_neg (by omega)]; exact ⟨rfl, rfl⟩
theorem secOf (S : List Int) (L : List Int) (hL : (L.length : Int) = sumS S) (a : Nat) (ha : a < L.length) : ∃ k, k < S.length ∧ preS S k ≤ (a : Int) ∧ (a : Int) < preS S (k + 1) :=
  secAt_has (S := S) (a : Int) (by omega) S.length (Nat.le_refl _) (by unfold sumS at hL; omega)
theorem pre_le {S : List Int} (hS : FlashRight S) (k : Nat) (hk : k ≤ S.length) : preS S k ≤ sumS S := by
  have := preS_mono hS.low S.length (Nat.le_refl _) k hk
  unfold sumS
  omega
theorem planL_at (S N T : List Int) (hS : FlashRight S) (hN : (N.length : Int) = sumS S) (hTl : (T.length : Int) = sumS S) (hT : WordsOk T) (a : Nat) (ha : a < N.length) :
    ∃ k, k < S.length ∧ preS S k ≤ (a : Int) ∧ (a : Int) < preS S (k + 1) ∧ (planTo S N T S.length).1.getD a 0 = T.getD a 0 ∧ (planL S N T).filter (relO S a) = planAt S N T k a := by
  obtain ⟨k, hk, h1, h2⟩ := secOf S N hN a ha
  have hle := pre_le hS (k + 1) (by omega)
  have h := planTo_at S N T hS (fun j hj => hT j (by omega)) a ha k hk h1 h2 (by omega) (by omega) S.length (Nat.le_refl _)
  rw [if_neg (by omega), if_neg (by omega)] at h
  exact ⟨k, hk, h1, h2, h.1, h.2⟩
theorem words_ext {A B : List Int} (h : A.length = B.length) (h2 : ∀ j, j < A.length → A.getD j 0 = B.getD j 0) : A = B := by
  apply List.ext_getElem h
  intro j h3 h4
  have := h2 j h3
  rw [List.getD_eq_getElem?_getD, List.getD_eq_getElem?_getD, List.getElem?_eq_getElem h3, List.getElem?_eq_getElem h4] at this
  simpa using this
/-- The plan's own words are what its operations make. -/
theorem planIn_do (S T : List Int) (N : List Int) (st : List Int × List Opn) (a : Nat) (h : st.1 = doOps S N st.2) : (planIn S T st a).1 = doOps S N (planIn S T st a).2 := by
  unfold planIn
  split
  · exact h
  · dsimp only
    rw [doOps_app, ← h]
    rfl
theorem planRun_do (S T N : List Int) (st : List Int × List Opn) (p : Nat) (h : st.1 = doOps S N st.2) : ∀ n, (planRun S T st p n).1 = doOps S N (planRun S T st p n).2
  | 0 => h
  | n + 1 => planIn_do S T N _ _ (planRun_do S T N st p h n)
theorem planErase_do (S N T : List Int) (st : List Int × List Opn) (k p q : Nat) (h : st.1 = doOps S N st.2) : (planErase S N T st k p q).1 = doOps S N (planErase S N T st k p q).2 := by
  unfold planErase
  split
  · exact h
  · dsimp only
    rw [doOps_app, ← h]
    rfl
theorem planTo_do (S N T : List Int) : ∀ k, (planTo S N T k).1 = doOps S N (planTo S N T k).2
  | 0 => rfl
  | k + 1 => planRun_do S T N _ _ (planErase_do S N T _ _ _ _ (planTo_do S N T k)) _
/-- After a plan the words are those that are wanted. -/
theorem plan_arrives (S N T : List Int) (hS : FlashRight S) (hN : (N.length : Int) = sumS S) (hTl : (T.length : Int) = sumS S) (hT : WordsOk T) : doOps S N (planL S N T) = T := by
  have h := planTo_do S N T S.length
  unfold planL
  rw [← h]
  have hl := (planTo_len S N T hS S.length (Nat.le_refl _)).1
  apply words_ext (by omega)
  intro j hj
  obtain ⟨k, -, -, -, h2, -⟩ := planL_at S N T hS hN hTl hT j (by omega)
  exact h2
/-- No operation of a plan can be left out. -/
theorem plan_needs (S N T : List Int) (hS : FlashRight S) (hN : (N.length : Int) = sumS S) (hTl : (T.length : Int) = sumS S) (hNo : WordsOk N) (hT : WordsOk T) (A B : List Opn) (o : Opn) (h : planL S N T = A ++ o :: B)
    (ho : (∃ k : Nat, o = (1, (k : Int), 0) ∧ k < S.length ∧ lowL (subL N (preS S k).toNat (preS S (k + 1)).toNat) (subL T (preS S k).toNat (preS S (k + 1)).toNat) = false) ∨ ∃ a : Nat, a < N.length ∧ o = (2, (a : Int), T.getD a 0)) :
    doOps S N (A ++ B) ≠ T := by
  rcases ho with ⟨k, rfl, hk, hl⟩ | ⟨a, ha, rfl⟩
  · have hle := pre_le hS (k + 1) (by omega)
    have hz := preS_zero_le hS k (by omega)
    obtain ⟨i, hi, hi2⟩ : ∃ i, i < (subL N (preS S k).toNat (preS S (k + 1)).toNat).length ∧ lowB ((subL T (preS S k).toNat (preS S (k + 1)).toNat).getD i 0) ((subL N (preS S k).toNat (preS S (k + 1)).toNat).getD i 0) = false := by
      apply Classical.byContradiction
      intro hno
      have : lowL (subL N (preS S k).toNat (preS S (k + 1)).toNat) (subL T (preS S k).toNat (preS S (k + 1)).toNat) = true := lowL_yes (fun i hi => by
        cases hb : lowB ((subL T (preS S k).toNat (preS S (k + 1)).toNat).getD i 0) ((subL N (preS S k).toNat (preS S (k + 1)).toNat).getD i 0) with
        | true => rfl
        | false => exact absurd ⟨i, hi, hb⟩ hno)
      rw [this] at hl
      cases hl
    rw [subL_len (by omega)] at hi
    rw [subL_at hi, subL_at hi] at hi2
    obtain ⟨a, ha⟩ : ∃ a, a = (preS S k).toNat + i := ⟨_, rfl⟩
    rw [← ha] at hi2
    have haN : a < N.length := by omega
    obtain ⟨k2, hk2, g1, g2, -, hf⟩ := planL_at S N T hS hN hTl hT a haN
    obtain rfl : k2 = k := by
      rcases Nat.lt_trichotomy k2 k with h3 | h3 | h3
      · have := preS_mono hS.low k (by omega) (k2 + 1) (by omega)
        omega
      · exact h3
      · have := preS_mono hS.low k2 (by omega) (k + 1) (by omega)
        omega
    have hr : relO S a (1, (k2 : Int), 0) = true := by rw [relO_erase, decide_eq_true ⟨g1, g2⟩]
    rw [h, List.filter_append, List.filter_cons_of_pos hr] at hf
    unfold planAt at hf
    rw [hl] at hf
    dsimp only at hf
    simp only [Bool.not_false, if_true] at hf
    obtain ⟨P, hP⟩ : ∃ P : List Opn, P = if (65535 : Int) = T.getD a 0 then [] else [(2, (a : Int), T.getD a 0)] := ⟨_, rfl⟩
    rw [← hP] at hf
    have hA : A.filter (relO S a) = [] ∧ B.filter (relO S a) = P := by
      cases hA : A.filter (relO S a) with
      | nil =>
        rw [hA] at hf
        exact ⟨rfl, by simpa using hf⟩
      | cons x A2 =>
        rw [hA] at hf
        simp only [List.cons_append, List.cons.injEq, List.nil_append] at hf
        have hm : ((1, (k2 : Int), 0) : Opn) ∈ P := by rw [← hf.2]; simp
        rw [hP] at hm
        split at hm
        · simp at hm
        · simp at hm
    intro hd
    have h5 := doOps_at S a (A ++ B) N haN
    rw [hd, List.filter_append, hA.1, hA.2, List.nil_append, hP] at h5
    have hTa := hT a (by omega)
    have hNa := hNo a haN
    unfold lowB at hi2
    have hi3 := of_decide_eq_false hi2
    split at h5
    · rename_i h6
      apply hi3
      have h7 : T.getD a 0 = N.getD a 0 := h5
      rw [h7, Nat.and_self]
    · have h7 : T.getD a 0 = valO S a (N.getD a 0) (2, (a : Int), T.getD a 0) := h5
      unfold valO at h7
      rw [relO_prog, decide_eq_true rfl, if_pos rfl, if_neg (by simp)] at h7
      dsimp only at h7
      apply hi3
      rw [Nat.and_comm]
      omega
  · obtain ⟨k, hk, g1, g2, -, hf⟩ := planL_at S N T hS hN hTl hT a ha
    have hr : relO S a (2, (a : Int), T.getD a 0) = true := by rw [relO_prog, decide_eq_true rfl]
    rw [h, List.filter_append, List.filter_cons_of_pos hr] at hf
    unfold planAt at hf
    dsimp only at hf
    obtain ⟨e, he⟩ : ∃ e, e = !lowL (subL N (preS S k).toNat (preS S (k + 1)).toNat) (subL T (preS S k).toNat (preS S (k + 1)).toNat) := ⟨_, rfl⟩
    rw [← he] at hf
    obtain ⟨E, hE⟩ : ∃ E : List Opn, E = if e = true then [(1, (k : Int), 0)] else [] := ⟨_, rfl⟩
    obtain ⟨v, hv⟩ : ∃ v, v = if e = true then (65535 : Int) else N.getD a 0 := ⟨_, rfl⟩
    rw [← hE, ← hv] at hf
    have hEv : E.foldl (valO S a) (N.getD a 0) = v := by
      rw [hE, hv]
      cases e with
      | true =>
        simp only [if_true, List.foldl_cons, List.foldl_nil]
        unfold valO
        rw [relO_erase, decide_eq_true ⟨g1, g2⟩, if_pos rfl, if_pos rfl]
      | false => rfl
    have hE2 : ∀ x, x ∈ E → x.1 = 1 := by
      intro x hx
      rw [hE] at hx
      split at hx
      · simp at hx; rw [hx]
      · simp at hx
    have hcut : A.filter (relO S a) = E ∧ B.filter (relO S a) = [] ∧ v ≠ T.getD a 0 := by
      by_cases h6 : v = T.getD a 0
      · rw [if_pos h6, List.append_nil] at hf
        have hm : ((2, (a : Int), T.getD a 0) : Opn) ∈ E := by rw [← hf]; simp
        exact absurd (hE2 _ hm) (by simp)
      · rw [if_neg h6] at hf
        have hlen := congrArg List.length hf
        simp only [List.length_append, List.length_cons, List.length_nil] at hlen
        cases hB : B.filter (relO S a) with
        | nil =>
          rw [hB] at hf
          exact ⟨(List.append_inj' hf rfl).1, rfl, h6⟩
        | cons y B2 =>
          exfalso
          rw [hB] at hf
          have h7 : ∃ Z z, y :: B2 = Z ++ [z] := ⟨(y :: B2).dropLast, (y :: B2).getLast (by simp), (List.dropLast_concat_getLast (by simp)).symm⟩
          obtain ⟨Z, z, hZ⟩ := h7
          rw [hZ, show A.filter (relO S a) ++ (2, (a : Int), T.getD a 0) :: (Z ++ [z]) = (A.filter (relO S a) ++ (2, (a : Int), T.getD a 0) :: Z) ++ [z] by simp] at hf
          have h8 := (List.append_inj' hf rfl).1
          have hm : ((2, (a : Int), T.getD a 0) : Opn) ∈ E := by rw [← h8]; simp
          exact absurd (hE2 _ hm) (by simp)
    intro hd
    have h5 := doOps_at S a (A ++ B) N ha
    rw [hd, List.filter_append, hcut.1, hcut.2.1, List.append_nil, hEv] at h5
    exact hcut.2.2 h5.symm
/-- What the operations of a plan are. -/
def PlanOp (S N T : List Int) (o : Opn) : Prop :=
  (∃ k : Nat, o = (1, (k : Int), 0) ∧ k < S.length ∧ lowL (subL N (preS S k).toNat (preS S (k + 1)).toNat) (subL T (preS S k).toNat (preS S (k + 1)).toNat) = false) ∨ ∃ a : Nat, a < N.length ∧ o = (2, (a : Int), T.getD a 0)
theorem planRun_op (S N T : List Int) (st : List Int × List Opn) (p : Nat) (h : ∀ o ∈ st.2, PlanOp S N T o) : ∀ n, p + n ≤ N.length → ∀ o ∈ (planRun S T st p n).2, PlanOp S N T o
  | 0, _ => h
  | n + 1, hn => by
    have ih := planRun_op S N T st p h n (by omega)
    show ∀ o ∈ (planIn S T (planRun S T st p n) (p + n)).2, PlanOp S N T o
    unfold planIn
    split
    · exact ih
    · dsimp only
      intro o ho
      rw [List.mem_append] at ho
      rcases ho with ho | ho
      · exact ih o ho
      · rw [List.mem_singleton] at ho
        exact Or.inr ⟨p + n, by omega, ho⟩
theorem planTo_op (S N T : List Int) (hS : FlashRight S) (hN : (N.length : Int) = sumS S) : ∀ k, k ≤ S.length → ∀ o ∈ (planTo S N T k).2, PlanOp S N T o
  | 0, _ => by intro o ho; cases ho
  | k + 1, hk => by
    have ih := planTo_op S N T hS hN k (by omega)
    have hle := pre_le hS (k + 1) (by omega)
    have hz := preS_zero_le hS k (by omega)
    have hq := preS_mono hS.low (k + 1) (by omega) k (by omega)
    refine planRun_op S N T _ _ ?_ _ (by omega)
    unfold planErase
    split
    · exact ih
    · rename_i hl
      dsimp only
      intro o ho
      rw [List.mem_append] at ho
      rcases ho with ho | ho
      · exact ih o ho
      · rw [List.mem_singleton] at ho
        exact Or.inl ⟨k, ho, by omega, by simpa using hl⟩
theorem planL_op (S N T : List Int) (hS : FlashRight S) (hN : (N.length : Int) = sumS S) : ∀ o ∈ planL S N T, PlanOp S N T o := planTo_op S N T hS hN S.length (Nat.le_refl _)
theorem PlanOp.right {S N T : List Int} (hN : (N.length : Int) = sumS S) (hTl : (T.length : Int) = sumS S) (hT : WordsOk T) {o : Opn} (h : PlanOp S N T o) : opErr (S.length : Int) (sumS S) o = 0 := by
  rcases h with ⟨k, rfl, hk, -⟩ | ⟨a, ha, rfl⟩
  · unfold opErr
    dsimp only
    rw [if_pos rfl, if_neg (by omega), if_neg (by omega)]
  · have h2 := hT a (by omega)
    unfold opErr
    dsimp only
    rw [if_neg (by decide), if_pos rfl, if_neg (by omega)]
theorem opsFirst_right {x y : Int} : ∀ (O : List Opn), (∀ o ∈ O, opErr x y o = 0) → opsFirst x y O = 0
  | [], _ => rfl
  | o :: O, h => by
    unfold opsFirst
    rw [if_pos (h o (by simp))]
    exact opsFirst_right O (fun o' ho => h o' (by simp [ho]))
theorem planL_len (S N T : List Int) (hS : FlashRight S) : (planL S N T).length ≤ 4116 := by
  have h := (planTo_len S N T hS S.length (Nat.le_refl _)).2
  have h2 := hS.sum
  have h3 := hS.l2
  unfold sumS at h2
  unfold planL
  omega
theorem opsErr_right (S N T : List Int) (hS : FlashRight S) (hN : (N.length : Int) = sumS S) (hTl : (T.length : Int) = sumS S) (hT : WordsOk T) (O : List Opn) (hO : ∀ o ∈ O, o ∈ planL S N T) (hl : O.length ≤ 4116) : opsErr S O = 0 := by
  unfold opsErr
  rw [if_neg (by omega)]
  exact opsFirst_right O (fun o ho => (planL_op S N T hS hN o (hO o ho)).right hN hTl hT)
/-- A plan from words to themselves is empty. -/
theorem planL_same (S T : List Int) (hS : FlashRight S) (hTl : (T.length : Int) = sumS S) (hT : WordsOk T) : planL S T T = [] := by
  cases hp : planL S T T with
  | nil => rfl
  | cons o O =>
    have hop := planL_op S T T hS hTl o (by rw [hp]; simp)
    rcases hop with ⟨k, rfl, hk, hl⟩ | ⟨a, ha, rfl⟩
    · have : lowL (subL T (preS S k).toNat (preS S (k + 1)).toNat) (subL T (preS S k).toNat (preS S (k + 1)).toNat) = true := lowL_yes (fun i _ => by unfold lowB; rw [Nat.and_self]; exact decide_eq_true rfl)
      rw [this] at hl
      cases hl
    · exfalso
      obtain ⟨k, hk, g1, g2, -, hf⟩ := planL_at S T T hS hTl hTl hT a ha
      have hr : relO S a (2, (a : Int), T.getD a 0) = true := by rw [relO_prog, decide_eq_true rfl]
      rw [hp, List.filter_cons_of_pos hr] at hf
      unfold planAt at hf
      have hlow : lowL (subL T (preS S k).toNat (preS S (k + 1)).toNat) (subL T (preS S k).toNat (preS S (k + 1)).toNat) = true := lowL_yes (fun i _ => by unfold lowB; rw [Nat.and_self]; exact decide_eq_true rfl)
      rw [hlow] at hf
      simp at hf
end Go.Proofs.YtfoocnhfppjbbaaGreatDoor
