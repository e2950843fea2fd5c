/- Package flash, plain: memories, words, operations. -/
import Derived.Test.YtfoocnhfppjbbaaGreatDoorVgM
import Derived.Test.YtfoocnhfppjbbaaGreatDoorStream
import Derived.Test.YtfoocnhfppjbbaaGreatDoorDigits
import Derived.Test.YtfoocnhfppjbbaaGreatDoorVgShort
import Derived.Test.YtfoocnhfppjbbaaGreatDoorProg
namespace Go.Proofs.YtfoocnhfppjbbaaGreatDoor

/-- All numbers are from lo to hi. -/
def withinB (lo hi : Int) (l : List Int) : Bool := l.all fun x => decide (lo ≤ x) && decide (x ≤ hi)
/-- How many words the first k sectors have. -/
def preS (S : List Int) : Nat → Int
  | 0 => 0
  | k + 1 => preS S k + S.getD k 0
def sumS (S : List Int) : Int := preS S S.length
/-- What is wrong with a memory. -/
def flErr (S : List Int) : Int := if S.length = 0 then 8 else if 20 < S.length then 2 else if withinB 1 4096 S = false then 1 else if 4096 < sumS S then 2 else 0
/-- What is wrong with the words of a memory that is right. -/
def imErr (S W : List Int) : Int := if (W.length : Int) ≠ sumS S then 3 else if withinB 0 65535 W = false then 1 else 0
/-- An operation: its kind, its address, its value. -/
abbrev Opn := Int × Int × Int
def opErr (secs adrs : Int) (o : Opn) : Int :=
  if o.1 = 1 then (if o.2.1 < 0 ∨ secs - 1 < o.2.1 then 1 else if o.2.2 ≠ 0 then 3 else 0)
  else if o.1 = 2 then (if o.2.1 < 0 ∨ adrs - 1 < o.2.1 ∨ o.2.2 < 0 ∨ 65535 < o.2.2 then 1 else 0)
  else 4
def opsFirst (secs adrs : Int) : List Opn → Int
  | [] => 0
  | o :: O => if opErr secs adrs o = 0 then opsFirst secs adrs O else opErr secs adrs o
def opsErr (S : List Int) (O : List Opn) : Int := if 50000 < O.length then 2 else opsFirst (S.length : Int) (sumS S) O
/-- A right memory. -/
structure FlashRight (S : List Int) : Prop where
  l1 : 1 ≤ S.length
  l2 : S.length ≤ 20
  low : ∀ k, k < S.length → 1 ≤ S.getD k 0
  high : ∀ k, k < S.length → S.getD k 0 ≤ 4096
  sum : sumS S ≤ 4096
theorem withinB_iff {lo hi : Int} {l : List Int} : withinB lo hi l = true ↔ ∀ k, k < l.length → lo ≤ l.getD k 0 ∧ l.getD k 0 ≤ hi := by
  unfold withinB
  rw [List.all_eq_true]
  constructor
  · intro h k hk
    have h2 := h (l.getD k 0) (by rw [List.getD_eq_getElem?_getD, List.getElem?_eq_getElem hk]; exact List.getElem_mem hk)
    simpa using h2
  · intro h x hx
    obtain ⟨k, hk, rfl⟩ := List.mem_iff_getElem.1 hx
    have h2 := h k hk
    rw [List.getD_eq_getElem?_getD, List.getElem?_eq_getElem hk] at h2
    simpa using h2
theorem flErr_right {S : List Int} (h : flErr S = 0) : FlashRight S := by
  unfold flErr at h
  split at h
  · cases h
  split at h
  · cases h
  split at h
  · cases h
  split at h
  · cases h
  rename_i h1 h2 h3 h4
  have h5 := withinB_iff.1 (by simpa using h3)
  exact ⟨by omega, by omega, fun k hk => (h5 k hk).1, fun k hk => (h5 k hk).2, by omega⟩
theorem preS_mono {S : List Int} (h : ∀ k, k < S.length → 1 ≤ S.getD k 0) : ∀ b, b ≤ S.length → ∀ a, a ≤ b → preS S a + ((b : Int) - (a : Int)) ≤ preS S b
  | 0, _, a, ha => by
    obtain rfl : a = 0 := by omega
    simp
  | b + 1, hb, a, ha => by
    by_cases e : a = b + 1
    · subst e; simp
    · have h1 := preS_mono h b (by omega) a (by omega)
      have h2 := h b (by omega)
      show _ ≤ preS S b + S.getD b 0
      omega
/-- The sector of an address: the first one that has it. -/
def secAt (S : List Int) (a : Int) : Option Nat := (List.range S.length).find? fun k => decide (preS S k ≤ a) && decide (a < preS S (k + 1))
theorem secAt_some {S : List Int} {a : Int} {k : Nat} (h : secAt S a = some k) : k < S.length ∧ preS S k ≤ a ∧ a < preS S (k + 1) := by
  have h1 := List.find?_some h
  have h2 := List.mem_of_find?_eq_some h
  simp at h1 h2
  exact ⟨h2, h1⟩
theorem secAt_none {S : List Int} {a : Int} (h : secAt S a = none) (k : Nat) (hk : k < S.length) : ¬ (preS S k ≤ a ∧ a < preS S (k + 1)) := by
  unfold secAt at h
  rw [List.find?_eq_none] at h
  have h2 := h k (by simpa using hk)
  simpa using h2
theorem secAt_is {S : List Int} (hS : FlashRight S) {a : Int} {k : Nat} (hk : k < S.length) (h1 : preS S k ≤ a) (h2 : a < preS S (k + 1)) : secAt S a = some k := by
  cases h : secAt S a with
  | none => exact absurd ⟨h1, h2⟩ (secAt_none h k hk)
  | some j =>
    obtain ⟨j1, j2, j3⟩ := secAt_some h
    by_cases e : j = k
    · rw [e]
    · rcases Nat.lt_or_gt_of_ne e with hl | hl
      · have := preS_mono hS.low k (by omega) (j + 1) (by omega)
        omega
      · have := preS_mono hS.low j (by omega) (k + 1) (by omega)
        omega
theorem secAt_has {S : List Int} (a : Int) (h0 : 0 ≤ a) : ∀ n, n ≤ S.length → a < preS S n → ∃ k, k < n ∧ preS S k ≤ a ∧ a < preS S (k + 1)
  | 0, _, h => by
    have : preS S 0 = 0 := rfl
    omega
  | n + 1, hn, h => by
    by_cases hl : a < preS S n
    · obtain ⟨k, h1, h2⟩ := secAt_has a h0 n (by omega) hl
      exact ⟨k, by omega, h2⟩
    · exact ⟨n, by omega, by omega, h⟩
/-- What an operation makes of words. -/
def doOp (S : List Int) (W : List Int) (o : Opn) : List Int :=
  if o.1 = 1 then (List.range W.length).map fun (j : Nat) => if preS S o.2.1.toNat ≤ (j : Int) ∧ (j : Int) < preS S (o.2.1.toNat + 1) then 65535 else W.getD j 0
  else W.set o.2.1.toNat (((W.getD o.2.1.toNat 0).toNat &&& o.2.2.toNat : Nat) : Int)
def doOps (S : List Int) (W : List Int) (O : List Opn) : List Int := O.foldl (doOp S) W
theorem doOp_len (S W : List Int) (o : Opn) : (doOp S W o).length = W.length := by
  unfold doOp
  split <;> simp
end Go.Proofs.YtfoocnhfppjbbaaGreatDoor
/- Package flash: numbers within a span, the length of a memory, CheckFlash, CheckImage. -/
namespace Go.Proofs.YtfoocnhfppjbbaaGreatDoor
open Go.RowKit

/-- The slice value reads as these numbers. -/
def NumsAt (w : World) (v : Value) (l : List Int) : Prop :=
  ∃ a c, v = .slice a l.length c ∧ l.length ≤ c ∧ (0 < l.length → ∃ g o, a = some ⟨g, o, none⟩ ∧ g < w.heap.size ∧ ∀ j, j < l.length → w.cell? ⟨g, o + j, none⟩ = some (.int .i64 (l.getD j 0)))
theorem NumsAt.later {w w' : World} {v : Value} {l : List Int} (h : NumsAt w v l) (hB : Below w.heap.size w w') : NumsAt w' v l := by
  obtain ⟨a, c, h1, h2, h3⟩ := h
  refine ⟨a, c, h1, h2, fun h0 => ?_⟩
  obtain ⟨g, o, h4, h5, h6⟩ := h3 h0
  exact ⟨g, o, h4, Nat.lt_of_lt_of_le h5 hB.size, fun j hj => (hB.cell (p := ⟨g, o + j, none⟩) h5).trans (h6 j hj)⟩
theorem withinB_take (lo hi : Int) (l : List Int) (k : Nat) (hk : k < l.length) (h : withinB lo hi (l.take k) = true) : withinB lo hi (l.take (k + 1)) = (decide (lo ≤ l.getD k 0) && decide (l.getD k 0 ≤ hi)) := by
  have e : l.getD k 0 = l[k] := by simp [hk]
  unfold withinB at h ⊢
  rw [List.take_succ_eq_append_getElem hk, List.all_append, h, e]
  simp
theorem withinB_no (lo hi : Int) (l : List Int) (k : Nat) (h : withinB lo hi (l.take (k + 1)) = false) : withinB lo hi l = false := by
  cases h2 : withinB lo hi l with
  | false => rfl
  | true =>
    unfold withinB at h h2
    rw [List.all_eq_true] at h2
    have h3 : ((l.take (k + 1)).all fun x => decide (lo ≤ x) && decide (x ≤ hi)) = true := by
      rw [List.all_eq_true]
      exact fun x hx => h2 x (List.mem_of_mem_take hx)
    rw [h3] at h
    cases h
set_option maxRecDepth 100000 in
theorem areWithin1_any (x lo hi : Int) (b1 b2 : Nat) (w : World) (h1 : w.cell? ⟨b1, 0, none⟩ = some (.int .i64 lo)) (h2 : w.cell? ⟨b2, 0, none⟩ = some (.int .i64 hi)) :
    Calls Tryz.prog 75 #[.int .i64 x, .pointer (some ⟨b1, 0, none⟩), .pointer (some ⟨b2, 0, none⟩)] w fun e w' => e = .returned (.bool (!(decide (lo ≤ x) && decide (x ≤ hi)))) ∧ w = w' := by
  by_cases d1 : x < lo
  · rw [show (!(decide (lo ≤ x) && decide (x ≤ hi))) = true by rw [decide_eq_false (show ¬ lo ≤ x by omega)]; rfl]
    go_enter Tryz.func75, Tryz.ntmps75
    go_wp2_with fail
    go_ret
    exact ⟨rfl, rfl⟩
  · rw [show (!(decide (lo ≤ x) && decide (x ≤ hi))) = decide (hi < x) by
      rw [decide_eq_true (show lo ≤ x by omega), Bool.true_and]
      by_cases h : hi < x
      · rw [decide_eq_true h, decide_eq_false (show ¬ x ≤ hi by omega)]; rfl
      · rw [decide_eq_false h, decide_eq_true (show x ≤ hi by omega)]; rfl]
    go_enter Tryz.func75, Tryz.ntmps75
    go_wp2_with fail
    go_ret
    exact ⟨rfl, rfl⟩
set_option maxRecDepth 100000 in
theorem indexWithin_any (l : List Int) (hz : l.length ≤ 1000000) (lo hi : Int) (b1 b2 : Nat) (w : World) (h1 : w.cell? ⟨b1, 0, none⟩ = some (.int .i64 lo)) (h2 : w.cell? ⟨b2, 0, none⟩ = some (.int .i64 hi)) (v : Value) (h : NumsAt w v l) :
    Calls Tryz.prog 42 #[v, .func (.func 75) #[] #[.pointer (some ⟨b1, 0, none⟩), .pointer (some ⟨b2, 0, none⟩)]] w fun e w' => (∃ r : Int, e = .returned (.int .i64 r) ∧ decide (0 ≤ r) = !withinB lo hi l) ∧ Below w.heap.size w w' := by
  obtain ⟨a, c, rfl, -, hop⟩ := h
  have hbl1 : b1 < w.heap.size := World.block_lt_of_cell? w ⟨b1, 0, none⟩ h1
  have hbl2 : b2 < w.heap.size := World.block_lt_of_cell? w ⟨b2, 0, none⟩ h2
  obtain ⟨n, hn⟩ : ∃ n, n = l.length := ⟨_, rfl⟩
  rw [← hn] at hop hz ⊢
  have HC := Lib.hid (⟨hop, hn, h1, h2⟩ : _ ∧ _ ∧ _ ∧ _)
  clear hop hn h1 h2
  go_enter Tryz.func42, Tryz.ntmps42
  go_wp2_with fail
  go_loopw [8] (fun i wr => ∃ (k : Nat), k ≤ n ∧ i = .int .i64 (k : Int) ∧ withinB lo hi (l.take k) = true ∧ Below w.heap.size w wr) (fun i _ => n - (intOf i).toNat)
  case atStart => exact ⟨0, by omega, rfl, by rfl, Below.refl _ _⟩
  case round =>
    obtain ⟨k, hk, rfl, hW, hB⟩ := hrel
    by_cases hlt : k < n
    · obtain ⟨g, o, rfl, hg, hcell⟩ := HC.out.1 (by omega)
      have hc := (hB.cell (p := ⟨g, o + k, none⟩) hg).trans (hcell k hlt)
      have hq := areWithin1_any (l.getD k 0) lo hi b1 b2 wr ((hB.cell (p := ⟨b1, 0, none⟩) hbl1).trans HC.out.2.2.1) ((hB.cell (p := ⟨b2, 0, none⟩) hbl2).trans HC.out.2.2.2)
      have hst := withinB_take lo hi l k (by rw [← HC.out.2.1]; exact hlt) hW
      rw [← hst] at hq
      obtain ⟨y, hy⟩ : ∃ y, y = l.getD k 0 := ⟨_, rfl⟩
      rw [← hy] at hc hq
      have k0 : (0 : Int) ≤ (k : Int) := by omega
      have k1 : (k : Int) < (n : Int) := by omega
      cases hq2 : withinB lo hi (l.take (k + 1)) with
      | true =>
        rw [hq2] at hq
        have HB := Lib.hid (⟨hB, hq2⟩ : _ ∧ _)
        clear hB hcell hy hst hW hq2
        go_wp2_with fail
        refine hq.mono ?_
        rintro e w' ⟨rfl, rfl⟩
        clear hq
        go_wp2_with fail
        go_roundw
        case rel => exact ⟨k + 1, by omega, by go_num, HB.out.2, HB.out.1⟩
        case measure => simp [intOf]; omega
      | false =>
        rw [hq2] at hq
        have hno := withinB_no lo hi l k hq2
        have HB := Lib.hid (⟨hB, hno⟩ : _ ∧ _)
        clear hB hcell hy hst hW hq2 hno
        go_wp2_with fail
        refine hq.mono ?_
        rintro e w' ⟨rfl, rfl⟩
        clear hq
        go_wp2_with fail
        go_ret
        exact ⟨⟨_, rfl, by rw [HB.out.2, decide_eq_true k0]; rfl⟩, HB.out.1⟩
    · obtain rfl : k = n := by omega
      have hall : withinB lo hi l = true := by rw [HC.out.2.1, List.take_length] at hW; exact hW
      have HB := Lib.hid (⟨hB, hall⟩ : _ ∧ _)
      clear hB hW hall
      go_wp2_with fail
      go_ret
      exact ⟨⟨_, rfl, by rw [HB.out.2]; decide⟩, HB.out.1⟩
set_option maxRecDepth 100000 in
theorem areWithin_any (l : List Int) (hz : l.length ≤ 1000000) (lo hi : Int) (w : World) (v : Value) (h : NumsAt w v l) :
    Calls Tryz.prog 53 #[.int .i64 lo, .int .i64 hi, v] w fun e w' => e = .returned (.bool (withinB lo hi l)) ∧ Below w.heap.size w w' := by
  obtain ⟨W2, hW2⟩ : ∃ W2 : World, W2 = (w.alloc (.cells #[.int .i64 lo] 3)).alloc (.cells #[.int .i64 hi] 3) := ⟨_, rfl⟩
  have hB2 : Below w.heap.size w W2 := by rw [hW2]; exact ((Below.refl _ _).alloc (Nat.le_refl _) _).alloc (by simp) _
  have hs2 : W2.heap.size = w.heap.size + 2 := by rw [hW2]; simp
  have e1 : W2.cell? ⟨w.heap.size, 0, none⟩ = some (.int .i64 lo) := by rw [hW2]; simp
  have e2 : W2.cell? ⟨w.heap.size + 1, 0, none⟩ = some (.int .i64 hi) := by rw [hW2]; simp
  have hix := indexWithin_any l hz lo hi (w.heap.size) (w.heap.size + 1) W2 e1 e2 v (h.later hB2)
  have hct : Calls Tryz.prog 19 #[v, .func (.func 75) #[] #[.pointer (some ⟨w.heap.size, 0, none⟩), .pointer (some ⟨w.heap.size + 1, 0, none⟩)]] W2 fun e w' => e = .returned (.bool (!withinB lo hi l)) ∧ Below W2.heap.size W2 w' := by
    clear hB2 e1 e2 hW2
    obtain ⟨a, c, rfl, -, -⟩ := h
    go_enter Tryz.func19, Tryz.ntmps19
    go_wp2_with fail
    refine hix.mono ?_
    rintro e w' ⟨⟨r, rfl, hr⟩, hB⟩
    have HR := Lib.hid (⟨hr, hB⟩ : _ ∧ _)
    clear hix hr hB
    go_wp2_with fail
    go_ret
    exact ⟨by rw [← HR.out.1]; rfl, HR.out.2⟩
  obtain ⟨a, c, rfl, -, -⟩ := h
  generalize withinB lo hi l = q at hct ⊢
  have HB := Lib.hid hB2
  have HW := Lib.hid hW2
  clear hB2 hW2 e1 e2 hix
  go_enter Tryz.func53, Tryz.ntmps53
  go_wp2_with fail
  rw [← HW.out]
  refine hct.mono ?_
  rintro e w' ⟨rfl, hB⟩
  have HB3 := Lib.hid (HB.out.trans (hB.mono HB.out.size))
  clear hct hB
  go_wp2_with fail
  go_ret
  exact ⟨by simp, HB3.out⟩
end Go.Proofs.YtfoocnhfppjbbaaGreatDoor
/- The reference's tests of numbers. -/
namespace Go.Proofs.YtfoocnhfppjbbaaGreatDoor
open Go.RowKit

def inB (n low high : Int) : Bool := decide (low ≤ n) && decide (n ≤ high)
theorem rin_any (n low high : Int) (w : World) : Calls Tryz.prog 25 #[.int .i64 n, .int .i64 low, .int .i64 high] w fun e w' => e = .returned (.bool (inB n low high)) ∧ w = w' := by
  cases h1 : decide (low ≤ n) with
  | false =>
    have e : inB n low high = false := by simp [inB, h1]
    rw [e]
    go_enter Tryz.func25, Tryz.ntmps25
    go_wp2
    go_ret
    exact ⟨rfl, rfl⟩
  | true =>
    cases h2 : decide (n ≤ high) with
    | false =>
      have e : inB n low high = false := by simp [inB, h2]
      rw [e]
      go_enter Tryz.func25, Tryz.ntmps25
      go_wp2
      go_ret
      exact ⟨rfl, rfl⟩
    | true =>
      have e : inB n low high = true := by simp [inB, h1, h2]
      rw [e]
      go_enter Tryz.func25, Tryz.ntmps25
      go_wp2
      go_ret
      exact ⟨rfl, rfl⟩
/-- ErrArg of a number outside a span. -/
def spanErr (n low high : Int) : Int := if inB n low high = true then 0 else 1
/-- ErrKind of a goal. -/
def goalErr (n : Int) : Int := if inB n 1 3 = true then 0 else 4
end Go.Proofs.YtfoocnhfppjbbaaGreatDoor
