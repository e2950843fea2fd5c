/- Package fault, plain: responses, what detects, the first vector: sets and strings say the same. -/
import Derived.Test.YtgnkihiibednoaaGreatDoorFrG
import Derived.Test.YtgnkihiibednoaaGreatDoorFtB
import Derived.Lib.ItoaNum
namespace Go.Proofs.YtgnkihiibednoaaGreatDoor

def textL (m x : Nat) : List UInt8 := (List.range m).map fun v => if x.testBit (63 - v) = true then 49 else 48
theorem bit_of {s : List UInt8} (h : s.all bitB = true) (k : Nat) (hk : k < s.length) : s.getD k 0 = 48 ∨ s.getD k 0 = 49 := by
  have e : s.getD k 0 = s[k] := by simp [hk]
  have h2 := List.all_eq_true.1 h s[k] (List.getElem_mem hk)
  rw [e]
  simpa [bitB] using h2
theorem getD_eq (s : List UInt8) (k : Nat) (hk : k < s.length) : s[k] = s.getD k 0 := by simp [hk]
theorem textL_setL (s : List UInt8) (h : s.all bitB = true) (hs : s.length ≤ 64) : textL s.length (setL s) = s := by
  refine List.ext_getElem (by simp [textL]) fun k h1 h2 => ?_
  have hk : k < s.length := h2
  have hb := setL_bit s hs k (by omega)
  rw [decide_eq_true hk, Bool.true_and] at hb
  have e : (textL s.length (setL s))[k] = if (setL s).testBit (63 - k) = true then 49 else 48 := by simp [textL]
  rw [e, hb, getD_eq s k hk]
  rcases bit_of h k hk with h3 | h3 <;> rw [h3] <;> rfl

/-- What the sets become. -/
def chgOn (on : List Nat) (m : Nat) (f : Flt) : List Nat := (List.range on.length).map fun (i : Nat) => if (i : Int) ∈ f.2 then comL m on f else on.getD i 0
theorem byte_bit {T : List (List UInt8)} {n m : Nat} (hT : TestRight T n m) (x : Int) (h1 : x < n) (h0 : 0 ≤ x) (v : Nat) (hv : v < m) : byteT T x v = 48 ∨ byteT T x v = 49 :=
  bit_of (hT.bits x.toNat (by omega)) v (by rw [hT.long _ (by omega)]; exact hv)
theorem faultB_bit {T : List (List UInt8)} {n m : Nat} (hT : TestRight T n m) {f : Flt} (hf : FltRight n f) (v : Nat) (hv : v < m) : faultB T f v = 48 ∨ faultB T f v = 49 := by
  unfold faultB
  split
  · exact byte_bit hT _ (hf.high 0 hf.l1) (hf.low 0 hf.l1) v hv
  · split
    · exact .inr rfl
    · exact .inl rfl
theorem seenB_bit {T : List (List UInt8)} {n m : Nat} (hT : TestRight T n m) {f : Flt} (hf : FltRight n f) (i v : Nat) (hi : i < n) (hv : v < m) : seenB T f i v = 48 ∨ seenB T f i v = 49 := by
  unfold seenB
  split
  · exact faultB_bit hT hf v hv
  · exact byte_bit hT _ (by omega) (by omega) v hv
theorem respL_get (T : List (List UInt8)) (f : Flt) (m i : Nat) (hi : i < T.length) : (respL T f m).getD i [] = respRow T f m i := by
  unfold respL
  simp [hi]
theorem respL_len (T : List (List UInt8)) (f : Flt) (m : Nat) : (respL T f m).length = T.length := by simp [respL]
theorem respRow_len (T : List (List UInt8)) (f : Flt) (m i : Nat) : (respRow T f m i).length = m := by simp [respRow]
theorem respRow_get (T : List (List UInt8)) (f : Flt) (m i v : Nat) (hv : v < m) : (respRow T f m i).getD v 0 = seenB T f i v := by simp [respRow, hv]
theorem respL_right {T : List (List UInt8)} {n m : Nat} (hT : TestRight T n m) {f : Flt} (hf : FltRight n f) : TestRight (respL T f m) n m where
  n1 := hT.n1
  n2 := hT.n2
  m2 := hT.m2
  len := (respL_len T f m).trans hT.len
  long := fun k hk => by rw [respL_get _ _ _ _ (by rw [hT.len]; exact hk), respRow_len]
  bits := fun k hk => by
    rw [respL_get _ _ _ _ (by rw [hT.len]; exact hk)]
    refine List.all_eq_true.2 fun b hb => ?_
    obtain ⟨v, hv, rfl⟩ := List.mem_map.1 hb
    rcases seenB_bit hT hf k v hk (List.mem_range.1 hv) with h | h <;> rw [h] <;> rfl
theorem chgOn_resp {T : List (List UInt8)} {n m : Nat} (hT : TestRight T n m) {f : Flt} (hf : FltRight n f) : chgOn (T.map setL) m f = (respL T f m).map setL := by
  have hm := hT.m2
  refine List.ext_getElem (by simp [chgOn, respL]) fun i h1 h2 => ?_
  have hi : i < T.length := by simpa [chgOn] using h1
  have hin : i < n := by rw [← hT.len]; exact hi
  have e1 : (chgOn (T.map setL) m f)[i] = if (i : Int) ∈ f.2 then comL m (T.map setL) f else (T.map setL).getD i 0 := by simp [chgOn]
  have e2 : ((respL T f m).map setL)[i] = setL (respRow T f m i) := by simp [respL]
  rw [e1, e2]
  have hbit : ∀ v, v < 64 → (setL (respRow T f m i)).testBit (63 - v) = (decide (v < m) && decide ((respRow T f m i).getD v 0 = 49)) := fun v hv => by
    rw [setL_bit _ (by rw [respRow_len]; exact hm) v hv, respRow_len]
  have hon : On64 (T.map setL) := fun k => by rw [onGet]; exact setL_lt _
  split
  · rename_i hmem
    refine bits_eq (comL_lt hon) (setL_lt _) fun v hv => ?_
    rw [com_bit T n m hm hT.long f hf.low hf.high hf.l1 v hv hf.k1 hf.k2, hbit v hv]
    by_cases hvm : v < m
    · rw [respRow_get _ _ _ _ _ hvm]
      unfold seenB
      rw [if_pos hmem]
    · rw [decide_eq_false hvm, Bool.false_and, Bool.false_and]
  · rename_i hmem
    refine bits_eq (hon i) (setL_lt _) fun v hv => ?_
    have ho := on_bit T n m hm hT.long (i : Int) (by omega) (by omega) v hv
    rw [show ((i : Int)).toNat = i by omega] at ho
    rw [ho, hbit v hv]
    by_cases hvm : v < m
    · rw [respRow_get _ _ _ _ _ hvm]
      unfold seenB
      rw [if_neg hmem]
    · rw [decide_eq_false hvm, Bool.false_and, Bool.false_and]
/-- The response to several faults. -/
def combL (m : Nat) (T : List (List UInt8)) (L : List Flt) : List (List UInt8) := L.foldl (fun T f => respL T f m) T
theorem combL_snoc (m : Nat) (T : List (List UInt8)) (L : List Flt) (f : Flt) : combL m T (L ++ [f]) = respL (combL m T L) f m := by simp [combL]
theorem combL_right {n m : Nat} (T : List (List UInt8)) (hT : TestRight T n m) : ∀ (L : List Flt), (∀ f, f ∈ L → FltRight n f) → TestRight (combL m T L) n m := by
  intro L
  induction L generalizing T with
  | nil => exact fun _ => hT
  | cons f L ih => exact fun h => ih _ (respL_right hT (h f (List.mem_cons_self ..))) fun g hg => h g (List.mem_cons_of_mem _ hg)
theorem textAll {T : List (List UInt8)} {n m : Nat} (hT : TestRight T n m) : (T.map setL).map (textL m) = T := by
  refine List.ext_getElem (by simp) fun i h1 h2 => ?_
  have hin : i < n := by rw [← hT.len]; exact h2
  have e : T[i] = T.getD i [] := by simp [h2]
  rw [List.getElem_map, List.getElem_map, e]
  have := textL_setL _ (hT.bits i hin) (by rw [hT.long i hin]; exact hT.m2)
  rwa [hT.long i hin] at this

/-- The vectors that detect a fault. -/
def caughtB (T : List (List UInt8)) (f : Flt) (v : Nat) : Bool := (List.range T.length).any fun i => seenB T f i v != byteT T (i : Int) v
def caughtL (T : List (List UInt8)) (f : Flt) (m : Nat) : List Nat := (List.range m).filter (caughtB T f)
theorem orTo_bit (long : Nat) (on : List Nat) (f : Flt) (b : Nat) : ∀ k, k ≤ f.2.length → (orL (chgTo long on f k)).testBit b = (List.range k).any fun j => (comL long on f ^^^ on.getD (f.2.getD j 0).toNat 0).testBit b
  | 0, _ => by simp [chgTo, orL]
  | k + 1, hk => by
    rw [chgTo_succ _ _ _ _ (by omega), List.range_succ, List.any_append, ← orTo_bit long on f b k (by omega)]
    split
    · rename_i h
      simp only [List.any_cons, List.any_nil, h, Nat.zero_testBit, Bool.or_false]
    · rw [orL_snoc, Nat.testBit_or]
      simp only [List.any_cons, List.any_nil, Bool.or_false]
theorem bne_bits {a b : UInt8} (ha : a = 48 ∨ a = 49) (hb : b = 48 ∨ b = 49) : (decide (a = 49) ^^ decide (b = 49)) = (a != b) := by
  rcases ha with rfl | rfl <;> rcases hb with rfl | rfl <;> rfl
theorem det_bit {T : List (List UInt8)} {n m : Nat} (hT : TestRight T n m) {f : Flt} (hf : FltRight n f) (v : Nat) (hv : v < 64) :
    (detN m (T.map setL) f).testBit (63 - v) = (decide (v < m) && caughtB T f v) := by
  have hm := hT.m2
  show (orL (chgTo m (T.map setL) f f.2.length)).testBit (63 - v) = _
  rw [orTo_bit _ _ _ _ _ (Nat.le_refl _)]
  by_cases hvm : v < m
  · rw [decide_eq_true hvm, Bool.true_and, Bool.eq_iff_iff]
    unfold caughtB
    rw [List.any_eq_true, List.any_eq_true]
    have hx : ∀ j, j < f.2.length → (comL m (T.map setL) f ^^^ (T.map setL).getD (f.2.getD j 0).toNat 0).testBit (63 - v) = (faultB T f v != byteT T (f.2.getD j 0) v) := fun j hj => by
      rw [Nat.testBit_xor, com_bit T n m hm hT.long f hf.low hf.high hf.l1 v hv hf.k1 hf.k2, on_bit T n m hm hT.long _ (hf.low j hj) (hf.high j hj) v hv, decide_eq_true hvm, Bool.true_and, Bool.true_and]
      exact bne_bits (faultB_bit hT hf v hvm) (byte_bit hT _ (hf.high j hj) (hf.low j hj) v hvm)
    constructor
    · rintro ⟨j, hj, h⟩
      have hj2 := List.mem_range.1 hj
      rw [hx j hj2] at h
      have hlow := hf.low j hj2
      have hhigh := hf.high j hj2
      have hti : (((f.2.getD j 0).toNat : Nat) : Int) = f.2.getD j 0 := by omega
      refine ⟨(f.2.getD j 0).toNat, List.mem_range.2 (by rw [hT.len]; omega), ?_⟩
      unfold seenB
      rw [hti, if_pos (by
        have e : f.2.getD j 0 = f.2[j] := by simp [hj2]
        rw [e]
        exact List.getElem_mem hj2)]
      exact h
    · rintro ⟨i, hi, h⟩
      unfold seenB at h
      split at h
      · rename_i hmem
        obtain ⟨j, hj, e⟩ := List.mem_iff_getElem.1 hmem
        refine ⟨j, List.mem_range.2 hj, ?_⟩
        rw [hx j hj]
        have e2 : f.2.getD j 0 = (i : Int) := by rw [← e]; simp [hj]
        rw [e2]
        exact h
      · simp at h
  · rw [decide_eq_false hvm, Bool.false_and]
    rw [List.any_eq_false]
    intro j hj
    have hj2 := List.mem_range.1 hj
    rw [Nat.testBit_xor, com_bit T n m hm hT.long f hf.low hf.high hf.l1 v hv hf.k1 hf.k2, on_bit T n m hm hT.long _ (hf.low j hj2) (hf.high j hj2) v hv, decide_eq_false hvm]
    simp
theorem filter_head {m : Nat} {p : Nat → Bool} {v0 : Nat} (h0 : v0 < m) (hp : p v0 = true) (hmin : ∀ v, v < m → p v = true → v0 ≤ v) : ∃ r, (List.range m).filter p = v0 :: r := by
  have hmem : v0 ∈ (List.range m).filter p := List.mem_filter.2 ⟨List.mem_range.2 h0, hp⟩
  have hpw : ((List.range m).filter p).Pairwise (· < ·) := List.Pairwise.filter _ (List.pairwise_lt_range)
  cases hc : (List.range m).filter p with
  | nil => rw [hc] at hmem; cases hmem
  | cons h r =>
    rw [hc] at hmem hpw
    have hh : h ∈ (List.range m).filter p := by rw [hc]; exact List.mem_cons_self ..
    obtain ⟨h1, h2⟩ := List.mem_filter.1 hh
    have hle := hmin h (List.mem_range.1 h1) h2
    rcases List.mem_cons.1 hmem with rfl | h3
    · exact ⟨r, rfl⟩
    · have := (List.pairwise_cons.1 hpw).1 v0 h3
      omega
theorem det_zero {T : List (List UInt8)} {n m : Nat} (hT : TestRight T n m) {f : Flt} (hf : FltRight n f) (h : detN m (T.map setL) f = 0) : caughtL T f m = [] := by
  have hm := hT.m2
  refine List.filter_eq_nil_iff.2 fun v hv hc => ?_
  have hvm := List.mem_range.1 hv
  have := det_bit hT hf v (by omega)
  rw [h, decide_eq_true hvm, hc] at this
  simp at this
theorem det_first {T : List (List UInt8)} {n m : Nat} (hT : TestRight T n m) {f : Flt} (hf : FltRight n f) (h : detN m (T.map setL) f ≠ 0) :
    ∃ v r, caughtL T f m = v :: r ∧ (64 - (Lib.bitLen (detN m (T.map setL) f) : Int)) = (v : Int) := by
  have hm := hT.m2
  have hon : On64 (T.map setL) := fun k => by rw [onGet]; exact setL_lt _
  have hlt := detN_lt (long := m) (f := f) hon
  obtain ⟨x, hx⟩ : ∃ x, x = detN m (T.map setL) f := ⟨_, rfl⟩
  have hbit := fun v hv => det_bit hT hf v hv
  rw [← hx] at h hlt hbit ⊢
  have e64 : (2 : Nat) ^ 64 = 18446744073709551616 := by decide
  obtain ⟨b1, b2, b3⟩ := Lib.bitLenAux_bounds 64 x (by omega) h
  have hle := Lib.bitLen_le x 64 (Nat.le_refl _) (by omega)
  change 1 ≤ Lib.bitLen x at b1
  change 2 ^ (Lib.bitLen x - 1) ≤ x at b2
  change x < 2 ^ Lib.bitLen x at b3
  generalize Lib.bitLen x = b at b1 b2 b3 hle ⊢
  obtain ⟨i, hi, hti⟩ := Nat.exists_ge_and_testBit_of_ge_two_pow b2
  have hib : i < b := by
    rcases Nat.lt_or_ge i b with h1 | h1
    · exact h1
    · have := Nat.testBit_lt_two_pow (Nat.lt_of_lt_of_le b3 (Nat.pow_le_pow_right (by decide) h1))
      rw [this] at hti
      cases hti
  obtain rfl : i = b - 1 := by omega
  have hv0 := hbit (64 - b) (by omega)
  rw [show 63 - (64 - b) = b - 1 by omega, hti] at hv0
  have hv0' := hv0.symm
  rw [Bool.and_eq_true, decide_eq_true_eq] at hv0'
  obtain ⟨r, hr⟩ := filter_head (m := m) (p := caughtB T f) hv0'.1 hv0'.2 fun v hv hp => by
    have h2 := hbit v (by omega)
    rw [decide_eq_true hv, hp] at h2
    rcases Nat.lt_or_ge (63 - v) b with h3 | h3
    · omega
    · have := Nat.testBit_lt_two_pow (Nat.lt_of_lt_of_le b3 (Nat.pow_le_pow_right (by decide) h3))
      rw [this] at h2
      cases h2
  exact ⟨64 - b, r, hr, by omega⟩
end Go.Proofs.YtgnkihiibednoaaGreatDoor
