/- The numbers that serve as codes of nets: plain mathematics. -/
import Derived.Test.YtoipgliokelcfaaGreatDoorProg
import Derived.Lib.Hide
namespace Go.Proofs.YtoipgliokelcfaaGreatDoor

/-- The binary digits of a number, so many, the one of the highest value first. -/
def digL (n long : Nat) : List UInt8 := (List.range long).map fun i => if n.testBit (long - 1 - i) = true then 49 else 48
theorem digL_len (n long : Nat) : (digL n long).length = long := by simp [digL]
/-- How many ones there are among the ten last digits. -/
def popN (n : Nat) : Nat := ((List.range 10).filter fun i => n.testBit i).length
/-- Whether a number with so many digits is a code for a goal. -/
def servB (goal long n : Nat) : Bool := if goal = 1 then true else if goal = 2 then (n != 0 && n != 2 ^ long - 1) else popN n == long / 2
/-- The codes among the first k numbers. -/
def codesTo (goal long k : Nat) : List Nat := (List.range k).filter (servB goal long)
def codesL (goal long : Nat) : List Nat := codesTo goal long (2 ^ long)
theorem codesTo_succ (goal long k : Nat) : codesTo goal long (k + 1) = codesTo goal long k ++ if servB goal long k = true then [k] else [] := by
  unfold codesTo
  rw [List.range_succ, List.filter_append]
  congr 1
  cases h : servB goal long k <;> simp [h]
theorem codesTo_len (goal long k : Nat) : (codesTo goal long k).length ≤ k := by
  unfold codesTo
  have := List.length_filter_le (servB goal long) (List.range k)
  simpa using this
/-- The least number of digits for so many nets. -/
def Least (goal nets k : Nat) : Prop := nets ≤ (codesL goal k).length ∧ ∀ j, j < k → (codesL goal j).length < nets
theorem Least.unique {goal nets k k' : Nat} (h : Least goal nets k) (h' : Least goal nets k') : k = k' := by
  rcases Nat.lt_trichotomy k k' with e | e | e
  · have := h'.2 k e
    have := h.1
    omega
  · exact e
  · have := h.2 k' e
    have := h'.1
    omega
theorem codes_nine : ∀ goal, goal < 4 → 1 ≤ goal → 100 ≤ (codesL goal 9).length := by decide +kernel
theorem pow_nine : ∀ k, k ≤ 9 → 2 ^ k ≤ 512 := by decide
/-- The sequences of the nets. -/
def genS (goal nets k : Nat) : List (List UInt8) := ((codesL goal k).take nets).map (digL · k)
/-- Columns of rows. -/
def turnL (S : List (List UInt8)) (long : Nat) : List (List UInt8) := (List.range long).map fun c => S.map fun row => row.getD c 0
theorem genS_len {goal nets k : Nat} (h : nets ≤ (codesL goal k).length) : (genS goal nets k).length = nets := by
  unfold genS
  rw [List.length_map, List.length_take]
  omega
end Go.Proofs.YtoipgliokelcfaaGreatDoor
