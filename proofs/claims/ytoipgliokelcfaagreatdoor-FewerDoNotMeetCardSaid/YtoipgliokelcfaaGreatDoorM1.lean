/- MeetsOf: what its loops say is what Meets says. -/
import Derived.Test.YtoipgliokelcfaaGreatDoorPdK
namespace Go.Proofs.YtoipgliokelcfaaGreatDoor
open Go.RowKit

theorem diffB_iff (L : List (List UInt8)) (n : Nat) : diffB L n = true ↔ ∀ a b, a < n → b < n → a ≠ b → L.getD a [] ≠ L.getD b [] := by
  have hg : diffB L n = true ↔ ∀ i, i < n → grpB L n i = false := by
    unfold diffB groupsTo
    rw [decide_eq_true_iff, List.length_eq_zero_iff, List.filterMap_eq_nil_iff]
    constructor
    · intro h i hi
      have := h i (List.mem_range.2 hi)
      cases e : grpB L n i with
      | false => rfl
      | true => rw [e, if_pos rfl] at this; cases this
    · intro h i hi
      rw [h i (List.mem_range.1 hi), if_neg (by decide)]
  rw [hg]
  constructor
  · intro h a b ha hb hab e
    have hma : a ∈ idxTo L n (L.getD a []) := mem_idxTo.2 ⟨ha, rfl⟩
    have hmb : b ∈ idxTo L n (L.getD a []) := mem_idxTo.2 ⟨hb, e.symm⟩
    obtain ⟨l, hl⟩ : ∃ l, l = idxTo L n (L.getD a []) := ⟨_, rfl⟩
    rw [← hl] at hma hmb
    match l, hl, hma, hmb with
    | [], _, hma, _ => cases hma
    | [x], _, hma, hmb =>
      have h1 := List.mem_singleton.1 hma
      have h2 := List.mem_singleton.1 hmb
      omega
    | x :: y :: l', hl, _, _ =>
      have hx : x ∈ idxTo L n (L.getD a []) := by rw [← hl]; exact List.mem_cons_self
      obtain ⟨hx1, hx2⟩ := mem_idxTo.1 hx
      have h3 := h x hx1
      unfold grpB at h3
      rw [hx2, ← hl] at h3
      simp at h3
  · intro h i hi
    cases e : grpB L n i with
    | false => rfl
    | true =>
      unfold grpB at e
      rw [Bool.and_eq_true] at e
      have e1 := of_decide_eq_true e.1
      have hs := idxTo_sorted L n (L.getD i [])
      have hm : ∀ j, j ∈ idxTo L n (L.getD i []) → j < n ∧ L.getD j [] = L.getD i [] := fun j hj => mem_idxTo.1 hj
      clear e
      match idxTo L n (L.getD i []), e1, hs, hm with
      | [], e1, _, _ => cases e1
      | [_], e1, _, _ => exact absurd e1 (by simp)
      | x :: y :: l', _, hs, hm =>
        have h1 := hm x List.mem_cons_self
        have h2 := hm y (List.mem_cons_of_mem _ List.mem_cons_self)
        have h3 := (List.pairwise_cons.1 hs).1 y List.mem_cons_self
        exact absurd (h1.2.trans h2.2.symm) (h x y h1.1 h2.1 (by omega))

theorem andC_left {a b : UInt8} (ha : bitB a = true) (hb : bitB b = true) : andC a b = a ↔ (a == 49 && b == 48) = false := by
  rcases bit_two ha with rfl | rfl <;> rcases bit_two hb with rfl | rfl <;> decide
theorem andC_comm {a b : UInt8} (ha : bitB a = true) (hb : bitB b = true) : andC a b = andC b a := by
  rcases bit_two ha with rfl | rfl <;> rcases bit_two hb with rfl | rfl <;> decide
theorem list_at_ext {x y : List UInt8} (hl : x.length = y.length) (h : ∀ i, i < x.length → x.getD i 0 = y.getD i 0) : x = y := by
  apply List.ext_getElem hl
  intro i h1 h2
  have := h i h1
  simpa [List.getD, h1, h2] using this
theorem andL_at (x y : List UInt8) (i : Nat) (h : i < x.length) : (andL x y).getD i 0 = andC (x.getD i 0) (y.getD i 0) := by
  unfold andL
  simp [List.getD, h]
theorem andL_within {x y : List UInt8} (hl : x.length = y.length) (hx : x.all bitB = true) (hy : y.all bitB = true) : andL x y = x ↔ withinB x y x.length = true := by
  unfold withinB
  rw [List.all_eq_true]
  constructor
  · intro e i hi
    have hi := List.mem_range.1 hi
    have h1 := andL_at x y i hi
    rw [e] at h1
    have h2 := (andC_left (bit_atD hx i hi) (bit_atD hy i (by omega))).1 h1.symm
    rw [h2]
    rfl
  · intro h
    apply list_at_ext (andL_len x y)
    intro i hi
    rw [andL_len] at hi
    rw [andL_at x y i hi]
    apply (andC_left (bit_atD hx i hi) (bit_atD hy i (by omega))).2
    have := h i (List.mem_range.2 hi)
    cases e : (x.getD i 0 == 49 && y.getD i 0 == 48) with
    | false => rfl
    | true => rw [e] at this; cases this
theorem andL_comm {x y : List UInt8} (hl : x.length = y.length) (hx : x.all bitB = true) (hy : y.all bitB = true) : andL x y = andL y x := by
  apply list_at_ext (by rw [andL_len, andL_len, hl])
  intro i hi
  rw [andL_len] at hi
  rw [andL_at x y i hi, andL_at y x i (by omega)]
  exact andC_comm (bit_atD hx i hi) (bit_atD hy i (by omega))
theorem within_self (x : List UInt8) (k : Nat) : withinB x x k = true := by
  unfold withinB
  rw [List.all_eq_true]
  intro i _
  cases h1 : x.getD i 0 == 49 with
  | false => rfl
  | true =>
    have := eq_of_beq h1
    rw [this]
    decide

/-- What MeetsOf looks for in two nets. -/
def faultB (L : List (List UInt8)) (m : Nat) (goal : Int) (a b : Nat) : Bool :=
  decide (a ≠ b) && (decide (L.getD a [] = L.getD b []) || (decide (goal = 3) && withinB (L.getD a []) (L.getD b []) m))

theorem clearB_iff {L : List (List UInt8)} {n m : Nat} (hG : Grid L n m) : clearB L n = true ↔ ∀ a b, a < n → b < n → a ≠ b → withinB (L.getD a []) (L.getD b []) m = false := by
  have hp : ∀ a b, a < n → b < n → (badP L (a, b) = true ↔ (withinB (L.getD a []) (L.getD b []) m = true ∨ withinB (L.getD b []) (L.getD a []) m = true)) := by
    intro a b ha hb
    have la := hG.long a ha
    have lb := hG.long b hb
    have h1 := andL_within (by omega) (hG.bits a ha) (hG.bits b hb)
    have h2 := andL_within (by omega) (hG.bits b hb) (hG.bits a ha)
    have h3 := andL_comm (by omega) (hG.bits a ha) (hG.bits b hb)
    rw [la] at h1
    rw [lb] at h2
    unfold badP
    rw [Bool.or_eq_true, decide_eq_true_iff, decide_eq_true_iff, h1]
    dsimp only
    rw [h3, h2]
  unfold clearB
  rw [List.all_eq_true]
  constructor
  · intro h a b ha hb hab
    cases e : withinB (L.getD a []) (L.getD b []) m with
    | false => rfl
    | true =>
      rcases Nat.lt_or_gt_of_ne hab with h1 | h1
      · have := h (a, b) (mem_pairsTo h1 hb)
        rw [(hp a b ha hb).2 (.inl e)] at this
        cases this
      · have := h (b, a) (mem_pairsTo h1 ha)
        rw [(hp b a hb ha).2 (.inr e)] at this
        cases this
  · rintro h ⟨a, b⟩ hx
    unfold pairsTo at hx
    rw [List.mem_flatMap] at hx
    obtain ⟨i, hi, hx⟩ := hx
    unfold rowTo at hx
    rw [List.mem_filterMap] at hx
    obtain ⟨j, hj, hx⟩ := hx
    have hi := List.mem_range.1 hi
    have hj := List.mem_range.1 hj
    by_cases hij : i < j
    · rw [if_pos hij] at hx
      obtain ⟨rfl, rfl⟩ := Prod.mk.inj (Option.some.inj hx)
      cases e : badP L (i, j) with
      | false => rfl
      | true =>
        rcases (hp i j hi hj).1 e with h1 | h1
        · rw [h i j hi hj (by omega)] at h1; cases h1
        · rw [h j i hj hi (by omega)] at h1; cases h1
    · rw [if_neg hij] at hx
      cases hx

theorem stuckAny_len (L : List (List UInt8)) (n : Nat) : stuckAny L n = decide ((stuckTo L n).length ≠ 0) := by
  unfold stuckAny stuckTo
  cases e : (List.range n).any fun i => stuckB (L.getD i []) with
  | true =>
    obtain ⟨i, hi, h⟩ := List.any_eq_true.1 e
    have : i ∈ (List.range n).filter fun i => stuckB (L.getD i []) := List.mem_filter.2 ⟨hi, h⟩
    have := List.length_pos_of_mem this
    rw [decide_eq_true (by omega)]
  | false =>
    have h := List.any_eq_false.1 e
    have : (List.range n).filter (fun i => stuckB (L.getD i [])) = [] := by
      rw [List.filter_eq_nil_iff]
      exact h
    rw [this]
    rfl

def noFault (L : List (List UInt8)) (n m : Nat) (goal : Int) : Bool := (List.range n).all fun a => (List.range n).all fun b => !faultB L m goal a b
theorem noFault_iff (L : List (List UInt8)) (n m : Nat) (goal : Int) : noFault L n m goal = true ↔ ∀ a b, a < n → b < n → faultB L m goal a b = false := by
  unfold noFault
  rw [List.all_eq_true]
  constructor
  · intro h a b ha hb
    have := List.all_eq_true.1 (h a (List.mem_range.2 ha)) b (List.mem_range.2 hb)
    simpa using this
  · intro h a ha
    rw [List.all_eq_true]
    intro b hb
    rw [h a b (List.mem_range.1 ha) (List.mem_range.1 hb)]
    rfl

theorem meetsB_of {L : List (List UInt8)} {n m : Nat} (hG : Grid L n m) (goal : Int) (hg : goal = 1 ∨ goal = 2 ∨ goal = 3) :
    meetsB L n goal = (noFault L n m goal && (decide (goal ≠ 2) || decide ((stuckTo L n).length = 0))) := by
  have h12 : goal ≠ 3 → noFault L n m goal = diffB L n := by
    intro h3
    rw [Bool.eq_iff_iff, noFault_iff, diffB_iff]
    constructor
    · intro h a b ha hb hab e
      have := h a b ha hb
      unfold faultB at this
      rw [decide_eq_true hab, decide_eq_true e] at this
      cases this
    · intro h a b ha hb
      unfold faultB
      rw [decide_eq_false h3, Bool.false_and, Bool.or_false]
      by_cases hab : a = b
      · rw [decide_eq_false (by omega)]; rfl
      · rw [decide_eq_false (h a b ha hb hab), Bool.and_false]
  rcases hg with rfl | rfl | rfl
  · rw [h12 (by decide)]
    unfold meetsB
    rw [if_pos rfl]
    simp
  · rw [h12 (by decide)]
    unfold meetsB
    rw [if_neg (by decide), if_pos rfl, stuckAny_len]
    by_cases h : (stuckTo L n).length = 0
    · rw [h]; rfl
    · rw [decide_eq_false h, decide_eq_true h]; rfl
  · have h3 : noFault L n m 3 = clearB L n := by
      rw [Bool.eq_iff_iff, noFault_iff, clearB_iff hG]
      constructor
      · intro h a b ha hb hab
        have := h a b ha hb
        unfold faultB at this
        rw [decide_eq_true hab, Bool.true_and, decide_eq_true rfl, Bool.true_and, Bool.or_eq_false_iff] at this
        exact this.2
      · intro h a b ha hb
        unfold faultB
        by_cases hab : a = b
        · rw [decide_eq_false (by omega)]; rfl
        · rw [h a b ha hb hab, Bool.and_false, Bool.or_false]
          by_cases e : L.getD a [] = L.getD b []
          · have h4 := h a b ha hb hab
            rw [e, within_self] at h4
            cases h4
          · rw [decide_eq_false e, Bool.and_false]
    rw [h3]
    unfold meetsB
    rw [if_neg (by decide), if_neg (by decide), if_pos rfl]
    simp
end Go.Proofs.YtoipgliokelcfaaGreatDoor
/- FewerDoNotMeet, plain: sequences that meet a goal are no more than there are codes. Made by gens/fda.py. -/
namespace Go.Proofs.YtoipgliokelcfaaGreatDoor
open Go.RowKit

theorem pigeon : ∀ (c n : Nat) (f : Nat → Nat), (∀ a, a < n → f a < c) → (∀ a b, a < n → b < n → f a = f b → a = b) → n ≤ c
  | 0, n, f, h, _ => by
    cases n with
    | zero => omega
    | succ n => exact absurd (h 0 (by omega)) (by omega)
  | c + 1, 0, _, _, _ => by omega
  | c + 1, n + 1, f, h, hi => by
    have hn := h n (by omega)
    have key : ∀ a, a < n → f a = c → f n ≠ c := fun a ha e e2 => by
      have := hi a n (by omega) (by omega) (by omega)
      omega
    have := pigeon c n (fun a => if f a = c then f n else f a) (fun a ha => by
      show (if f a = c then f n else f a) < c
      have h1 := h a (by omega)
      split
      · have := key a ha (by assumption); omega
      · omega) (fun a b ha hb e => by
      have e : (if f a = c then f n else f a) = (if f b = c then f n else f b) := e
      split at e <;> split at e
      · exact hi a b (by omega) (by omega) (by omega)
      · have := hi n b (by omega) (by omega) e; omega
      · have := hi a n (by omega) (by omega) e; omega
      · exact hi a b (by omega) (by omega) e)
    omega

/-- All sequences of so many digits. -/
def allRows : Nat → List (List UInt8)
  | 0 => [[]]
  | m + 1 => (allRows m).map (48 :: ·) ++ (allRows m).map (49 :: ·)
theorem mem_allRows : ∀ (m : Nat) (s : List UInt8), s.length = m → s.all bitB = true → s ∈ allRows m
  | 0, [], _, _ => by simp [allRows]
  | 0, _ :: _, h, _ => by simp at h
  | _ + 1, [], h, _ => by simp at h
  | m + 1, c :: s, h, hb => by
    rw [List.all_cons, Bool.and_eq_true] at hb
    have hm := mem_allRows m s (by simpa using h) hb.2
    unfold allRows
    rw [List.mem_append]
    rcases bit_two hb.1 with rfl | rfl
    · first | exact Or.inl (List.mem_map.2 ⟨s, hm, rfl⟩) | exact Or.inr (List.mem_map.2 ⟨s, hm, rfl⟩)
    · first | exact Or.inl (List.mem_map.2 ⟨s, hm, rfl⟩) | exact Or.inr (List.mem_map.2 ⟨s, hm, rfl⟩)
/-- Rows of which each is in a class, and two of one class never stand at two places, are no more than the classes. -/
theorem rows_few {L : List (List UInt8)} {n m : Nat} (hG : Grid L n m) (C : List (List (List UInt8))) (ok : List UInt8 → Bool)
    (hok : ∀ a, a < n → ok (L.getD a []) = true)
    (hC : (allRows m).all (fun r => !ok r || C.any fun c => c.contains r) = true)
    (hd : ∀ a b, a < n → b < n → ∀ c, c ∈ C → L.getD a [] ∈ c → L.getD b [] ∈ c → a = b) : n ≤ C.length := by
  have hex : ∀ a, a < n → ∃ c, c ∈ C ∧ c.contains (L.getD a []) = true := fun a ha => by
    have h1 := List.all_eq_true.1 hC _ (mem_allRows m (L.getD a []) (hG.long a ha) (hG.bits a ha))
    rw [hok a ha, Bool.not_true, Bool.false_or] at h1
    exact List.any_eq_true.1 h1
  refine pigeon C.length n (fun a => C.findIdx fun c => c.contains (L.getD a [])) (fun a ha => List.findIdx_lt_length_of_exists (hex a ha)) (fun a b ha hb e => ?_)
  have e : C.findIdx (fun c => c.contains (L.getD a [])) = C.findIdx (fun c => c.contains (L.getD b [])) := e
  have la := List.findIdx_lt_length_of_exists (hex a ha)
  have lb := List.findIdx_lt_length_of_exists (hex b hb)
  have ga := List.findIdx_getElem (w := la)
  have gb := List.findIdx_getElem (w := lb)
  refine hd a b ha hb (C[C.findIdx fun c => c.contains (L.getD a [])]'la) (List.getElem_mem la) ?_ ?_
  · exact List.contains_iff_mem.1 ga
  · have : C[C.findIdx fun c => c.contains (L.getD a [])]'la = C[C.findIdx fun c => c.contains (L.getD b [])]'lb := by congr 1
    rw [this]
    exact List.contains_iff_mem.1 gb

def chainsOf (m : Nat) : List (List (List UInt8)) := match m with
  | 0 => [[[]]]
  | 1 => [[[48], [49]]]
  | 2 => [[[48, 48], [49, 48], [49, 49]], [[48, 49]]]
  | 3 => [[[48, 48, 48], [49, 48, 48], [49, 49, 48], [49, 49, 49]], [[48, 48, 49], [49, 48, 49]], [[48, 49, 48], [48, 49, 49]]]
  | 4 => [[[48, 48, 48, 48], [49, 48, 48, 48], [49, 49, 48, 48], [49, 49, 49, 48], [49, 49, 49, 49]], [[48, 48, 48, 49], [49, 48, 48, 49], [49, 49, 48, 49]], [[48, 48, 49, 48], [49, 48, 49, 48], [49, 48, 49, 49]], [[48, 48, 49, 49]], [[48, 49, 48, 48], [48, 49, 49, 48], [48, 49, 49, 49]], [[48, 49, 48, 49]]]
  | _ => [[[48, 48, 48, 48, 48], [49, 48, 48, 48, 48], [49, 49, 48, 48, 48], [49, 49, 49, 48, 48], [49, 49, 49, 49, 48], [49, 49, 49, 49, 49]], [[48, 48, 48, 48, 49], [49, 48, 48, 48, 49], [49, 49, 48, 48, 49], [49, 49, 49, 48, 49]], [[48, 48, 48, 49, 48], [49, 48, 48, 49, 48], [49, 49, 48, 49, 48], [49, 49, 48, 49, 49]], [[48, 48, 48, 49, 49], [49, 48, 48, 49, 49]], [[48, 48, 49, 48, 48], [49, 48, 49, 48, 48], [49, 48, 49, 49, 48], [49, 48, 49, 49, 49]], [[48, 48, 49, 48, 49], [49, 48, 49, 48, 49]], [[48, 48, 49, 49, 48], [48, 48, 49, 49, 49]], [[48, 49, 48, 48, 48], [48, 49, 49, 48, 48], [48, 49, 49, 49, 48], [48, 49, 49, 49, 49]], [[48, 49, 48, 48, 49], [48, 49, 49, 48, 49]], [[48, 49, 48, 49, 48], [48, 49, 48, 49, 49]]]
theorem chains_cover : ∀ m, m < 6 → (allRows m).all (fun r => (chainsOf m).any fun c => c.contains r) = true := by decide +kernel
theorem chains_within : ∀ m, m < 6 → (chainsOf m).all (fun c => c.all fun x => c.all fun y => withinB x y m || withinB y x m) = true := by decide +kernel
theorem chains_few : ∀ m, m < 6 → (chainsOf m).length ≤ (codesL 3 m).length := by decide +kernel
theorem many3 : ∀ m, m < 12 → 6 ≤ m → 12 ≤ (codesL 3 m).length := by decide +kernel
theorem many12 : ∀ m, m < 12 → 4 ≤ m → 12 ≤ (codesL 1 m).length ∧ 12 ≤ (codesL 2 m).length := by decide +kernel
def ones (ok : List UInt8 → Bool) (m : Nat) : List (List (List UInt8)) := ((allRows m).filter ok).map fun r => [r]
theorem ones_few1 : ∀ m, m < 4 → (ones (fun _ => true) m).length ≤ (codesL 1 m).length := by decide +kernel
theorem ones_few2 : ∀ m, m < 4 → (ones (fun r => !stuckB r) m).length ≤ (codesL 2 m).length := by decide +kernel
theorem ones_cover (ok : List UInt8 → Bool) (m : Nat) : (allRows m).all (fun r => !ok r || (ones ok m).any fun c => c.contains r) = true := by
  rw [List.all_eq_true]
  intro r hr
  cases h : ok r with
  | false => rfl
  | true =>
    rw [Bool.not_true, Bool.false_or, List.any_eq_true]
    exact ⟨[r], List.mem_map.2 ⟨r, List.mem_filter.2 ⟨hr, h⟩, rfl⟩, by simp⟩
theorem ones_diff {L : List (List UInt8)} {n : Nat} (hd : diffB L n = true) (ok : List UInt8 → Bool) (m : Nat) :
    ∀ a b, a < n → b < n → ∀ c, c ∈ ones ok m → L.getD a [] ∈ c → L.getD b [] ∈ c → a = b := by
  intro a b ha hb c hc h1 h2
  obtain ⟨r, -, rfl⟩ := List.mem_map.1 hc
  have e1 := List.mem_singleton.1 h1
  have e2 := List.mem_singleton.1 h2
  rcases Nat.decEq a b with hab | hab
  · exact absurd (e1.trans e2.symm) ((diffB_iff L n).1 hd a b ha hb hab)
  · exact hab

theorem few_rows {L : List (List UInt8)} {n m : Nat} (hG : Grid L n m) (hm : m ≤ 11) (hn : m = 0 ∨ n ≤ 12) (z : Nat) (hz : z = 1 ∨ z = 2 ∨ z = 3) (h : meetsB L n (z : Int) = true) : n ≤ (codesL z m).length := by
  rcases hz with rfl | rfl | rfl
  · by_cases h4 : 4 ≤ m
    · have := (many12 m (by omega) h4).1; omega
    · have hd : diffB L n = true := h
      exact Nat.le_trans (rows_few hG _ (fun _ => true) (fun _ _ => rfl) (ones_cover _ m) (ones_diff hd _ m)) (ones_few1 m (by omega))
  · by_cases h4 : 4 ≤ m
    · have := (many12 m (by omega) h4).2; omega
    · have hd : (diffB L n && !stuckAny L n) = true := h
      rw [Bool.and_eq_true] at hd
      have hs : ∀ a, a < n → (!stuckB (L.getD a [])) = true := fun a ha => by
        cases e : stuckB (L.getD a []) with
        | false => rfl
        | true =>
          have : stuckAny L n = true := List.any_eq_true.2 ⟨a, List.mem_range.2 ha, e⟩
          rw [this] at hd
          exact absurd hd.2 (by decide)
      exact Nat.le_trans (rows_few hG _ (fun r => !stuckB r) hs (ones_cover _ m) (ones_diff hd.1 _ m)) (ones_few2 m (by omega))
  · by_cases h6 : 6 ≤ m
    · have := many3 m (by omega) h6; omega
    · have hd : clearB L n = true := h
      have hc := (clearB_iff hG).1 hd
      refine Nat.le_trans (rows_few hG (chainsOf m) (fun _ => true) (fun _ _ => rfl) ?_ ?_) (chains_few m (by omega))
      · simpa using chains_cover m (by omega)
      · intro a b ha hb c hcm h1 h2
        have h3 := List.all_eq_true.1 (List.all_eq_true.1 (List.all_eq_true.1 (chains_within m (by omega)) c hcm) _ h1) _ h2
        rcases Nat.decEq a b with hab | hab
        · have x1 := hc a b ha hb hab
          have x2 := hc b a hb ha (fun e => hab e.symm)
          rw [x1, x2] at h3
          exact absurd h3 (by decide)
        · exact hab

theorem few_plain (V : List (List UInt8)) (n z k : Nat) (h1 : 1 ≤ n) (h2 : n ≤ 100) (hl : V.length ≤ 11) (hs : ∀ k, k < V.length → (V.getD k []).length ≤ 12) (hb : ∀ s, s ∈ V → s.length = n ∧ s.all bitB = true)
    (hz : z = 1 ∨ z = 2 ∨ z = 3) (hk : Least z n k) (h : meetsB (turnL V n) n (z : Int) = true) : k ≤ V.length := by
  have hG := turnL_grid V n h1 h2 (by omega) hb
  have hn : V.length = 0 ∨ n ≤ 12 := by
    by_cases h0 : V.length = 0
    · exact .inl h0
    · have h3 := hs 0 (by omega)
      have e : V.getD 0 [] = V[0] := by simp [show 0 < V.length by omega]
      rw [e, (hb _ (List.getElem_mem _)).1] at h3
      exact .inr h3
  have h5 := few_rows hG hl hn z hz h
  rcases Nat.lt_or_ge V.length k with h6 | h6
  · have := hk.2 _ h6
    omega
  · exact h6
end Go.Proofs.YtoipgliokelcfaaGreatDoor
