/- Package fault, plain: what a fault makes of a test, as sets and as strings. -/
import Derived.Test.YtgnkihiibednoaaGreatDoorFtM
namespace Go.Proofs.YtgnkihiibednoaaGreatDoor

theorem bits_eq {x y : Nat} (hx : x < 18446744073709551616) (hy : y < 18446744073709551616) (h : ∀ v, v < 64 → x.testBit (63 - v) = y.testBit (63 - v)) : x = y := by
  refine Nat.eq_of_testBit_eq fun i => ?_
  by_cases hi : i < 64
  · have := h (63 - i) (by omega)
    rwa [show 63 - (63 - i) = i by omega] at this
  · have e : (2 : Nat) ^ 64 = 18446744073709551616 := by decide
    have hp : 2 ^ 64 ≤ 2 ^ i := Nat.pow_le_pow_right (by decide) (by omega)
    rw [Nat.testBit_lt_two_pow (by omega), Nat.testBit_lt_two_pow (by omega)]
theorem setTo_bit (s : List UInt8) (v : Nat) (hv : v < 64) : ∀ k, k ≤ 64 → (setTo s k).testBit (63 - v) = (decide (v < k) && decide (s.getD v 0 = 49))
  | 0, _ => by simp [setTo]
  | k + 1, hk => by
    have ih := setTo_bit s v hv k (by omega)
    unfold setTo
    by_cases hvk : v = k
    · subst hvk
      split
      · rename_i h
        rw [Nat.testBit_or, Nat.testBit_two_pow, decide_eq_true h, decide_eq_true rfl, decide_eq_true (Nat.lt_succ_self v), Bool.or_true]
        rfl
      · rename_i h
        rw [ih, decide_eq_false h, Bool.and_false, Bool.and_false]
    · have e1 : decide (63 - k = 63 - v) = false := decide_eq_false (by omega)
      have e2 : decide (v < k + 1) = decide (v < k) := by rw [decide_eq_decide]; omega
      split
      · rw [Nat.testBit_or, Nat.testBit_two_pow, ih, e1, e2, Bool.or_false]
      · rw [ih, e2]
theorem setL_bit (s : List UInt8) (hs : s.length ≤ 64) (v : Nat) (hv : v < 64) : (setL s).testBit (63 - v) = (decide (v < s.length) && decide (s.getD v 0 = 49)) := setTo_bit s v hv _ hs
theorem before_bit : ∀ k, k < 65 → ∀ v, v < 64 → (beforeN k).testBit (63 - v) = decide (v < k) := by decide +kernel

/-- A byte of a test. -/
def byteT (T : List (List UInt8)) (n : Int) (v : Nat) : UInt8 := (T.getD n.toNat []).getD v 0
def onesTo (T : List (List UInt8)) (l : List Int) (v : Nat) : Nat → Nat
  | 0 => 0
  | k + 1 => if byteT T (l.getD k 0) v = 49 then onesTo T l v k + 1 else onesTo T l v k
theorem onesTo_le (T : List (List UInt8)) (l : List Int) (v : Nat) : ∀ k, onesTo T l v k ≤ k
  | 0 => Nat.le_refl _
  | k + 1 => by
    have := onesTo_le T l v k
    unfold onesTo
    split <;> omega
theorem onesTo_all (T : List (List UInt8)) (l : List Int) (v : Nat) : ∀ k, onesTo T l v k = k → ∀ i, i < k → byteT T (l.getD i 0) v = 49
  | 0, _, i, hi => absurd hi (Nat.not_lt_zero _)
  | k + 1, h, i, hi => by
    have h1 := onesTo_le T l v k
    unfold onesTo at h
    split at h
    · rename_i hb
      rcases Nat.lt_or_ge i k with h2 | h2
      · exact onesTo_all T l v k (by omega) i h2
      · obtain rfl : i = k := by omega
        exact hb
    · omega
theorem onesTo_any (T : List (List UInt8)) (l : List Int) (v : Nat) (i : Nat) (hb : byteT T (l.getD i 0) v = 49) : ∀ k, i < k → 0 < onesTo T l v k
  | 0, h => absurd h (Nat.not_lt_zero _)
  | k + 1, h => by
    unfold onesTo
    split
    · omega
    · rename_i hn
      rcases Nat.lt_or_ge i k with h2 | h2
      · exact onesTo_any T l v i hb k h2
      · obtain rfl : i = k := by omega
        exact absurd hb hn
/-- What a fault makes of the bits of its nets; of all nets. -/
def faultB (T : List (List UInt8)) (f : Flt) (v : Nat) : UInt8 :=
  if f.1 = 5 then byteT T (f.2.getD 0 0) v
  else if f.1 = 2 ∨ f.1 = 6 ∨ (f.1 = 3 ∧ onesTo T f.2 v f.2.length = f.2.length) ∨ (f.1 = 4 ∧ 0 < onesTo T f.2 v f.2.length) then 49 else 48
def seenB (T : List (List UInt8)) (f : Flt) (n v : Nat) : UInt8 := if (n : Int) ∈ f.2 then faultB T f v else byteT T (n : Int) v
def respRow (T : List (List UInt8)) (f : Flt) (m n : Nat) : List UInt8 := (List.range m).map (seenB T f n)
def respL (T : List (List UInt8)) (f : Flt) (m : Nat) : List (List UInt8) := (List.range T.length).map (respRow T f m)

theorem onGet (T : List (List UInt8)) (i : Nat) : (T.map setL).getD i 0 = setL (T.getD i []) := by
  rw [List.getD_eq_getElem?_getD, List.getElem?_map, List.getD_eq_getElem?_getD]
  cases T[i]? <;> rfl
theorem on_bit (T : List (List UInt8)) (n m : Nat) (hm : m ≤ 64) (hl : ∀ k, k < n → (T.getD k []).length = m) (x : Int) (h0 : 0 ≤ x) (h1 : x < n) (v : Nat) (hv : v < 64) :
    ((T.map setL).getD x.toNat 0).testBit (63 - v) = (decide (v < m) && decide (byteT T x v = 49)) := by
  have h := hl x.toNat (by omega)
  rw [onGet, setL_bit _ (by omega) v hv, h]
  rfl
theorem com_bit (T : List (List UInt8)) (n m : Nat) (hm : m ≤ 64) (hl : ∀ k, k < n → (T.getD k []).length = m) (f : Flt) (h0 : ∀ j, j < f.2.length → 0 ≤ f.2.getD j 0) (h1 : ∀ j, j < f.2.length → f.2.getD j 0 < n) (hf1 : 1 ≤ f.2.length) (v : Nat) (hv : v < 64) (hk1 : 1 ≤ f.1) (hk2 : f.1 ≤ 6) :
    (comL m (T.map setL) f).testBit (63 - v) = (decide (v < m) && decide (faultB T f v = 49)) := by
  obtain ⟨k, l⟩ := f
  dsimp only at h0 h1 hf1 hk1 hk2
  have hb := fun j (hj : j < l.length) => on_bit T n m hm hl (l.getD j 0) (h0 j hj) (h1 j hj) v hv
  have step : ∀ j, comTo m (T.map setL) (k, l) (j + 1) = if k = 1 then 0 else if k = 2 ∨ k = 6 then beforeN m else if k = 3 then comTo m (T.map setL) (k, l) j &&& (T.map setL).getD (l.getD j 0).toNat 0 else if k = 4 then comTo m (T.map setL) (k, l) j ||| (T.map setL).getD (l.getD j 0).toNat 0 else comTo m (T.map setL) (k, l) j := fun _ => rfl
  have start : (comTo m (T.map setL) (k, l) 0).testBit (63 - v) = (decide (v < m) && decide (byteT T (l.getD 0 0) v = 49)) := hb 0 (by omega)
  show (comTo m (T.map setL) (k, l) l.length).testBit (63 - v) = _
  obtain ⟨z, hz⟩ : ∃ z, l.length = z + 1 := ⟨l.length - 1, by omega⟩
  by_cases c1 : k = 1
  · rw [hz, step, if_pos c1]
    subst c1
    simp [faultB]
  by_cases c2 : k = 2 ∨ k = 6
  · rw [hz, step, if_neg c1, if_pos c2, before_bit m (by omega) v hv]
    have e : faultB T (k, l) v = 49 := by
      unfold faultB
      dsimp only
      rw [if_neg (by omega), if_pos (by omega)]
    rw [e]
    exact (Bool.and_true _).symm
  by_cases c3 : k = 3
  · have all : ∀ j, j ≤ l.length → (comTo m (T.map setL) (k, l) j).testBit (63 - v) = (decide (v < m) && decide (byteT T (l.getD 0 0) v = 49 ∧ onesTo T l v j = j)) := by
      intro j
      induction j with
      | zero => intro _; rw [start]; simp [onesTo]
      | succ j ih =>
        intro hj
        rw [step, if_neg c1, if_neg c2, if_pos c3, Nat.testBit_and, ih (by omega), hb j (by omega)]
        have hle := onesTo_le T l v j
        have ho : onesTo T l v (j + 1) = if byteT T (l.getD j 0) v = 49 then onesTo T l v j + 1 else onesTo T l v j := rfl
        rw [ho]
        by_cases hb2 : byteT T (l.getD j 0) v = 49
        · rw [if_pos hb2, decide_eq_true hb2]
          have e : decide (byteT T (l.getD 0 0) v = 49 ∧ onesTo T l v j + 1 = j + 1) = decide (byteT T (l.getD 0 0) v = 49 ∧ onesTo T l v j = j) := by
            rw [decide_eq_decide]
            exact ⟨fun h => ⟨h.1, by omega⟩, fun h => ⟨h.1, by omega⟩⟩
          rw [e]
          generalize decide (byteT T (l.getD 0 0) v = 49 ∧ onesTo T l v j = j) = x
          generalize decide (v < m) = d
          cases d <;> cases x <;> rfl
        · rw [if_neg hb2, decide_eq_false hb2, Bool.and_false, Bool.and_false]
          have e : decide (byteT T (l.getD 0 0) v = 49 ∧ onesTo T l v j = j + 1) = false := decide_eq_false (fun h => by omega)
          rw [e, Bool.and_false]
    rw [all _ (Nat.le_refl _)]
    have e : faultB T (k, l) v = if onesTo T l v l.length = l.length then 49 else 48 := by
      unfold faultB
      dsimp only
      subst c3
      simp
    rw [e]
    have ha := fun h => onesTo_all T l v l.length h 0 (by omega)
    by_cases h : onesTo T l v l.length = l.length
    · rw [if_pos h]
      exact congrArg (decide (v < m) && ·) ((decide_eq_true ⟨ha h, h⟩).trans (decide_eq_true rfl).symm)
    · rw [if_neg h]
      exact congrArg (decide (v < m) && ·) ((decide_eq_false fun hh => h hh.2).trans (by decide))
  by_cases c4 : k = 4
  · have all : ∀ j, j ≤ l.length → (comTo m (T.map setL) (k, l) j).testBit (63 - v) = (decide (v < m) && decide (byteT T (l.getD 0 0) v = 49 ∨ 0 < onesTo T l v j)) := by
      intro j
      induction j with
      | zero => intro _; rw [start]; simp [onesTo]
      | succ j ih =>
        intro hj
        rw [step, if_neg c1, if_neg c2, if_neg c3, if_pos c4, Nat.testBit_or, ih (by omega), hb j (by omega)]
        have ho : onesTo T l v (j + 1) = if byteT T (l.getD j 0) v = 49 then onesTo T l v j + 1 else onesTo T l v j := rfl
        rw [ho]
        by_cases hb2 : byteT T (l.getD j 0) v = 49
        · rw [if_pos hb2, decide_eq_true hb2]
          have e : decide (byteT T (l.getD 0 0) v = 49 ∨ 0 < onesTo T l v j + 1) = true := decide_eq_true (.inr (Nat.succ_pos _))
          rw [e]
          generalize decide (byteT T (l.getD 0 0) v = 49 ∨ 0 < onesTo T l v j) = x
          generalize decide (v < m) = d
          cases d <;> cases x <;> rfl
        · rw [if_neg hb2, decide_eq_false hb2, Bool.and_false, Bool.or_false]
    rw [all _ (Nat.le_refl _)]
    have e : faultB T (k, l) v = if 0 < onesTo T l v l.length then 49 else 48 := by
      unfold faultB
      dsimp only
      subst c4
      simp
    rw [e]
    have ha := fun h => onesTo_any T l v 0 h l.length (by omega)
    by_cases h : 0 < onesTo T l v l.length
    · rw [if_pos h]
      exact congrArg (decide (v < m) && ·) ((decide_eq_true (.inr h)).trans (decide_eq_true rfl).symm)
    · rw [if_neg h]
      exact congrArg (decide (v < m) && ·) ((decide_eq_false fun hh => hh.elim (fun h2 => h (ha h2)) h).trans (by decide))
  · have c5 : k = 5 := by omega
    have all : ∀ j, comTo m (T.map setL) (k, l) j = comTo m (T.map setL) (k, l) 0 := by
      intro j
      induction j with
      | zero => rfl
      | succ j ih => rw [step, if_neg c1, if_neg c2, if_neg c3, if_neg c4, ih]
    rw [all, start]
    have e : faultB T (k, l) v = byteT T (l.getD 0 0) v := by
      unfold faultB
      dsimp only
      rw [if_pos c5]
    rw [e]
end Go.Proofs.YtgnkihiibednoaaGreatDoor
