/- Package flash, plain: plans. -/
import Derived.Test.YtfoocnhfppjbbaaGreatDoorMcU
namespace Go.Proofs.YtfoocnhfppjbbaaGreatDoor
open Go.RowKit

/-- No bit of t is 1 that is 0 in n. -/
def lowB (t n : Int) : Bool := decide (t.toNat &&& n.toNat = t.toNat)
def lowL (N T : List Int) : Bool := (List.range N.length).all fun i => lowB (T.getD i 0) (N.getD i 0)
theorem andnot_key (x y : BitVec 64) : (x &&& ~~~y = 0#64) ↔ (x &&& y = x) := by
  constructor
  · intro h
    apply BitVec.eq_of_getLsbD_eq
    intro i hi
    have h1 := congrArg (fun z : BitVec 64 => z.getLsbD i) h
    simp [hi] at h1 ⊢
    cases hx : x.getLsbD i <;> simp_all
  · intro h
    apply BitVec.eq_of_getLsbD_eq
    intro i hi
    have h1 := congrArg (fun z : BitVec 64 => z.getLsbD i) h
    simp [hi] at h1 ⊢
    cases hx : x.getLsbD i <;> simp_all
theorem andnot_nats (a b : Nat) (ha : a < 4294967296) (hb : b < 4294967296) : (bits .andNot .i64 (a : Int) (b : Int) != 0) = !lowB (a : Int) (b : Int) := by
  have h1 : (BitVec.ofInt 64 (a : Int)).toNat = a := by
    rw [BitVec.ofInt_natCast, BitVec.toNat_ofNat]; exact Nat.mod_eq_of_lt (by omega)
  have h2 : (BitVec.ofInt 64 (b : Int)).toNat = b := by
    rw [BitVec.ofInt_natCast, BitVec.toNat_ofNat]; exact Nat.mod_eq_of_lt (by omega)
  have hk := andnot_key (BitVec.ofInt 64 (a : Int)) (BitVec.ofInt 64 (b : Int))
  have hle : (BitVec.ofInt 64 (a : Int) &&& ~~~BitVec.ofInt 64 (b : Int)).toNat ≤ a := by
    rw [BitVec.toNat_and, h1]; exact Nat.and_le_left
  have e : bits .andNot .i64 (a : Int) (b : Int) = ((BitVec.ofInt 64 (a : Int) &&& ~~~BitVec.ofInt 64 (b : Int)).toNat : Int) := by
    show IntKind.i64.wrap ((BitVec.ofInt 64 (a : Int) &&& ~~~BitVec.ofInt 64 (b : Int)).toNat : Int) = _
    rw [IntKind.wrap_i64]
    generalize (BitVec.ofInt 64 (a : Int) &&& ~~~BitVec.ofInt 64 (b : Int)).toNat = z at hle ⊢
    omega
  rw [e]
  unfold lowB
  rw [Int.toNat_natCast, Int.toNat_natCast]
  by_cases h : a &&& b = a
  · have h3 : BitVec.ofInt 64 (a : Int) &&& BitVec.ofInt 64 (b : Int) = BitVec.ofInt 64 (a : Int) := by
      apply BitVec.eq_of_toNat_eq
      rw [BitVec.toNat_and, h1, h2, h]
    rw [hk.2 h3, decide_eq_true h]
    rfl
  · have h3 : ¬ (BitVec.ofInt 64 (a : Int) &&& ~~~BitVec.ofInt 64 (b : Int)).toNat = 0 := by
      intro h4
      apply h
      have h5 := hk.1 (BitVec.eq_of_toNat_eq (by rw [h4]; rfl))
      have h6 := congrArg BitVec.toNat h5
      rw [BitVec.toNat_and, h1, h2] at h6
      exact h6
    rw [decide_eq_false h]
    simpa using h3
theorem lowL_take (N T : List Int) (k : Nat) (h : ∀ i, i < k → lowB (T.getD i 0) (N.getD i 0) = true) (h2 : lowB (T.getD k 0) (N.getD k 0) = true) : ∀ i, i < k + 1 → lowB (T.getD i 0) (N.getD i 0) = true := by
  intro i hi
  by_cases e : i = k
  · rw [e]; exact h2
  · exact h i (by omega)
theorem lowL_no {N T : List Int} {k : Nat} (hk : k < N.length) (h : lowB (T.getD k 0) (N.getD k 0) = false) : lowL N T = false := by
  cases h2 : lowL N T with
  | false => rfl
  | true =>
    unfold lowL at h2
    rw [List.all_eq_true] at h2
    rw [h2 k (by simpa using hk)] at h
    cases h
theorem lowL_yes {N T : List Int} (h : ∀ i, i < N.length → lowB (T.getD i 0) (N.getD i 0) = true) : lowL N T = true := by
  unfold lowL
  rw [List.all_eq_true]
  intro i hi
  exact h i (by simpa using hi)
/-- A word is planned: its address. -/
def planIn (S T : List Int) (st : List Int × List Opn) (a : Nat) : List Int × List Opn :=
  if st.1.getD a 0 = T.getD a 0 then st else (doOp S st.1 (2, (a : Int), T.getD a 0), st.2 ++ [(2, (a : Int), T.getD a 0)])
def planRun (S T : List Int) (st : List Int × List Opn) (p : Nat) : Nat → List Int × List Opn
  | 0 => st
  | n + 1 => planIn S T (planRun S T st p n) (p + n)
/-- A sector's words. -/
def subL (L : List Int) (p q : Nat) : List Int := (L.drop p).take (q - p)
def planErase (S N T : List Int) (st : List Int × List Opn) (k p q : Nat) : List Int × List Opn :=
  if lowL (subL N p q) (subL T p q) = true then st else (doOp S st.1 (1, (k : Int), 0), st.2 ++ [(1, (k : Int), 0)])
def planTo (S N T : List Int) : Nat → List Int × List Opn
  | 0 => (N, [])
  | k + 1 => planRun S T (planErase S N T (planTo S N T k) k (preS S k).toNat (preS S (k + 1)).toNat) (preS S k).toNat ((preS S (k + 1)).toNat - (preS S k).toNat)
def planL (S N T : List Int) : List Opn := (planTo S N T S.length).2
theorem subL_len {L : List Int} {p q : Nat} (hq : q ≤ L.length) : (subL L p q).length = q - p := by
  unfold subL; simp; omega
theorem subL_at {L : List Int} {p q i : Nat} (hi : i < q - p) : (subL L p q).getD i 0 = L.getD (p + i) 0 := by
  unfold subL
  rw [List.getD_eq_getElem?_getD, List.getElem?_take_of_lt hi, List.getElem?_drop, ← List.getD_eq_getElem?_getD]
theorem planIn_len (S T : List Int) (st : List Int × List Opn) (a : Nat) : (planIn S T st a).1.length = st.1.length ∧ (planIn S T st a).2.length ≤ st.2.length + 1 := by
  unfold planIn
  split
  · exact ⟨rfl, by omega⟩
  · dsimp only
    exact ⟨doOp_len _ _ _, by simp⟩
theorem planRun_len (S T : List Int) (st : List Int × List Opn) (p : Nat) : ∀ n, (planRun S T st p n).1.length = st.1.length ∧ (planRun S T st p n).2.length ≤ st.2.length + n
  | 0 => ⟨rfl, Nat.le_refl _⟩
  | n + 1 => by
    have h := planRun_len S T st p n
    have h2 := planIn_len S T (planRun S T st p n) (p + n)
    exact ⟨h2.1.trans h.1, Nat.le_trans h2.2 (by omega)⟩
theorem planErase_len (S N T : List Int) (st : List Int × List Opn) (k p q : Nat) : (planErase S N T st k p q).1.length = st.1.length ∧ (planErase S N T st k p q).2.length ≤ st.2.length + 1 := by
  unfold planErase
  split
  · exact ⟨rfl, by omega⟩
  · dsimp only
    exact ⟨doOp_len _ _ _, by simp⟩
theorem planIn_ok (S T : List Int) (st : List Int × List Opn) (a : Nat) (h : WordsOk st.1) : WordsOk (planIn S T st a).1 := by
  unfold planIn
  split
  · exact h
  · dsimp only
    exact doOp_ok _ _ _ h
theorem planRun_ok (S T : List Int) (st : List Int × List Opn) (p : Nat) (h : WordsOk st.1) : ∀ n, WordsOk (planRun S T st p n).1
  | 0 => h
  | n + 1 => planIn_ok S T _ _ (planRun_ok S T st p h n)
theorem planErase_ok (S N T : List Int) (st : List Int × List Opn) (k p q : Nat) (h : WordsOk st.1) : WordsOk (planErase S N T st k p q).1 := by
  unfold planErase
  split
  · exact h
  · dsimp only
    exact doOp_ok _ _ _ h
theorem planTo_ok (S N T : List Int) (h : WordsOk N) : ∀ k, WordsOk (planTo S N T k).1
  | 0 => h
  | k + 1 => planRun_ok S T _ _ (planErase_ok S N T _ _ _ _ (planTo_ok S N T h k)) _
theorem planTo_len (S N T : List Int) (hS : FlashRight S) : ∀ k, k ≤ S.length → (planTo S N T k).1.length = N.length ∧ ((planTo S N T k).2.length : Int) ≤ preS S k + (k : Int)
  | 0, _ => by
    refine ⟨rfl, ?_⟩
    show ((0 : Nat) : Int) ≤ 0 + ((0 : Nat) : Int)
    omega
  | k + 1, hk => by
    have h := planTo_len S N T hS k (by omega)
    have h2 := planErase_len S N T (planTo S N T k) k (preS S k).toNat (preS S (k + 1)).toNat
    have h3 := planRun_len S T (planErase S N T (planTo S N T k) k (preS S k).toNat (preS S (k + 1)).toNat) (preS S k).toNat ((preS S (k + 1)).toNat - (preS S k).toNat)
    have hp := preS_mono hS.low k (by omega) 0 (by omega)
    rw [show preS S 0 = 0 from rfl] at hp
    have hq := preS_mono hS.low (k + 1) (by omega) k (by omega)
    refine ⟨h3.1.trans (h2.1.trans h.1), ?_⟩
    have h4 : ((planTo S N T (k + 1)).2.length) ≤ _ := h3.2
    omega
end Go.Proofs.YtfoocnhfppjbbaaGreatDoor
