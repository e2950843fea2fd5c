/- Package flash, plain: memories, words, operations. -/
import Derived.Test.YtdejjplkignaoaaVgM
namespace Go.Proofs.Ytdejjplkignaoaa

/-- All numbers are from lo to hi. -/
def withinB (lo hi : Int) (l : List Int) : Bool := l.all fun x => decide (lo ≤ x) && decide (x ≤ hi)
/-- How many words the first k sectors have. -/
def preS (S : List Int) : Nat → Int
  | 0 => 0
  | k + 1 => preS S k + S.getD k 0
def sumS (S : List Int) : Int := preS S S.length
/-- What is wrong with a memory. -/
def flErr (S : List Int) : Int := if S.length = 0 then 8 else if 20 < S.length then 2 else if withinB 1 4096 S = false then 1 else if 4096 < sumS S then 2 else 0
/-- What is wrong with the words of a memory that is right. -/
def imErr (S W : List Int) : Int := if (W.length : Int) ≠ sumS S then 3 else if withinB 0 65535 W = false then 1 else 0
/-- An operation: its kind, its address, its value. -/
abbrev Opn := Int × Int × Int
def opErr (secs adrs : Int) (o : Opn) : Int :=
  if o.1 = 1 then (if o.2.1 < 0 ∨ secs - 1 < o.2.1 then 1 else if o.2.2 ≠ 0 then 3 else 0)
  else if o.1 = 2 then (if o.2.1 < 0 ∨ adrs - 1 < o.2.1 ∨ o.2.2 < 0 ∨ 65535 < o.2.2 then 1 else 0)
  else 4
def opsFirst (secs adrs : Int) : List Opn → Int
  | [] => 0
  | o :: O => if opErr secs adrs o = 0 then opsFirst secs adrs O else opErr secs adrs o
def opsErr (S : List Int) (O : List Opn) : Int := if 50000 < O.length then 2 else opsFirst (S.length : Int) (sumS S) O
/-- A right memory. -/
structure FlashRight (S : List Int) : Prop where
  l1 : 1 ≤ S.length
  l2 : S.length ≤ 20
  low : ∀ k, k < S.length → 1 ≤ S.getD k 0
  high : ∀ k, k < S.length → S.getD k 0 ≤ 4096
  sum : sumS S ≤ 4096
theorem withinB_iff {lo hi : Int} {l : List Int} : withinB lo hi l = true ↔ ∀ k, k < l.length → lo ≤ l.getD k 0 ∧ l.getD k 0 ≤ hi := by
  unfold withinB
  rw [List.all_eq_true]
  constructor
  · intro h k hk
    have h2 := h (l.getD k 0) (by rw [List.getD_eq_getElem?_getD, List.getElem?_eq_getElem hk]; exact List.getElem_mem hk)
    simpa using h2
  · intro h x hx
    obtain ⟨k, hk, rfl⟩ := List.mem_iff_getElem.1 hx
    have h2 := h k hk
    rw [List.getD_eq_getElem?_getD, List.getElem?_eq_getElem hk] at h2
    simpa using h2
theorem flErr_right {S : List Int} (h : flErr S = 0) : FlashRight S := by
  unfold flErr at h
  split at h
  · cases h
  split at h
  · cases h
  split at h
  · cases h
  split at h
  · cases h
  rename_i h1 h2 h3 h4
  have h5 := withinB_iff.1 (by simpa using h3)
  exact ⟨by omega, by omega, fun k hk => (h5 k hk).1, fun k hk => (h5 k hk).2, by omega⟩
theorem preS_mono {S : List Int} (h : ∀ k, k < S.length → 1 ≤ S.getD k 0) : ∀ b, b ≤ S.length → ∀ a, a ≤ b → preS S a + ((b : Int) - (a : Int)) ≤ preS S b
  | 0, _, a, ha => by
    obtain rfl : a = 0 := by omega
    simp
  | b + 1, hb, a, ha => by
    by_cases e : a = b + 1
    · subst e; simp
    · have h1 := preS_mono h b (by omega) a (by omega)
      have h2 := h b (by omega)
      show _ ≤ preS S b + S.getD b 0
      omega
/-- The sector of an address: the first one that has it. -/
def secAt (S : List Int) (a : Int) : Option Nat := (List.range S.length).find? fun k => decide (preS S k ≤ a) && decide (a < preS S (k + 1))
theorem secAt_some {S : List Int} {a : Int} {k : Nat} (h : secAt S a = some k) : k < S.length ∧ preS S k ≤ a ∧ a < preS S (k + 1) := by
  have h1 := List.find?_some h
  have h2 := List.mem_of_find?_eq_some h
  simp at h1 h2
  exact ⟨h2, h1⟩
theorem secAt_none {S : List Int} {a : Int} (h : secAt S a = none) (k : Nat) (hk : k < S.length) : ¬ (preS S k ≤ a ∧ a < preS S (k + 1)) := by
  unfold secAt at h
  rw [List.find?_eq_none] at h
  have h2 := h k (by simpa using hk)
  simpa using h2
theorem secAt_is {S : List Int} (hS : FlashRight S) {a : Int} {k : Nat} (hk : k < S.length) (h1 : preS S k ≤ a) (h2 : a < preS S (k + 1)) : secAt S a = some k := by
  cases h : secAt S a with
  | none => exact absurd ⟨h1, h2⟩ (secAt_none h k hk)
  | some j =>
    obtain ⟨j1, j2, j3⟩ := secAt_some h
    by_cases e : j = k
    · rw [e]
    · rcases Nat.lt_or_gt_of_ne e with hl | hl
      · have := preS_mono hS.low k (by omega) (j + 1) (by omega)
        omega
      · have := preS_mono hS.low j (by omega) (k + 1) (by omega)
        omega
theorem secAt_has {S : List Int} (a : Int) (h0 : 0 ≤ a) : ∀ n, n ≤ S.length → a < preS S n → ∃ k, k < n ∧ preS S k ≤ a ∧ a < preS S (k + 1)
  | 0, _, h => by
    have : preS S 0 = 0 := rfl
    omega
  | n + 1, hn, h => by
    by_cases hl : a < preS S n
    · obtain ⟨k, h1, h2⟩ := secAt_has a h0 n (by omega) hl
      exact ⟨k, by omega, h2⟩
    · exact ⟨n, by omega, by omega, h⟩
/-- What an operation makes of words. -/
def doOp (S : List Int) (W : List Int) (o : Opn) : List Int :=
  if o.1 = 1 then (List.range W.length).map fun (j : Nat) => if preS S o.2.1.toNat ≤ (j : Int) ∧ (j : Int) < preS S (o.2.1.toNat + 1) then 65535 else W.getD j 0
  else W.set o.2.1.toNat (((W.getD o.2.1.toNat 0).toNat &&& o.2.2.toNat : Nat) : Int)
def doOps (S : List Int) (W : List Int) (O : List Opn) : List Int := O.foldl (doOp S) W
theorem doOp_len (S W : List Int) (o : Opn) : (doOp S W o).length = W.length := by
  unfold doOp
  split <;> simp
end Go.Proofs.Ytdejjplkignaoaa
