/- Two bit strings of one length: changes, apart, and, both, within; isStuck; cmp.Or; equal rows of numbers. -/
import Derived.Test.YtoipgliokelcfaaGreatDoorPvMs
import Derived.Deep.QuietTactic
import Derived.BigQuiet
namespace Go.Proofs.YtoipgliokelcfaaGreatDoor
open Go.RowKit

/-- In how many of the first k places two lists differ. -/
def diffN (x y : List UInt8) (k : Nat) : Nat := ((List.range k).filter fun i => decide (x.getD i 0 ≠ y.getD i 0)).length
theorem diffN_succ (x y : List UInt8) (k : Nat) : diffN x y (k + 1) = diffN x y k + if x.getD k 0 = y.getD k 0 then 0 else 1 := by
  unfold diffN
  rw [List.range_succ, List.filter_append, List.length_append]
  congr 1
  cases hd : decide (x.getD k 0 ≠ y.getD k 0) with
  | true => rw [List.filter_cons, hd, if_neg (of_decide_eq_true hd)]; rfl
  | false => rw [List.filter_cons, hd, if_pos (Decidable.of_not_not (of_decide_eq_false hd))]; rfl
theorem diffN_le (x y : List UInt8) (k : Nat) : diffN x y k ≤ k := by
  unfold diffN
  have := List.length_filter_le (fun i => decide (x.getD i 0 ≠ y.getD i 0)) (List.range k)
  simpa using this
theorem str_at (s : ByteArray) (l : List UInt8) (hs : s = ⟨l.toArray⟩) (k : Nat) (h : k < s.size) : s[k]'h = l.getD k 0 := by
  subst hs
  have h2 : k < l.length := by have : (⟨l.toArray⟩ : ByteArray).size = l.length := by show l.toArray.size = _; simp
                               omega
  rw [List.getD_eq_getElem?_getD, List.getElem?_eq_getElem h2]
  rfl

/-- Whether the first list has a 1 only where the second one has no 0, in the first k places. -/
def withinB (x y : List UInt8) (k : Nat) : Bool := (List.range k).all fun i => !(x.getD i 0 == 49 && y.getD i 0 == 48)
theorem withinB_succ (x y : List UInt8) (k : Nat) : withinB x y (k + 1) = (withinB x y k && !(x.getD k 0 == 49 && y.getD k 0 == 48)) := by
  unfold withinB
  rw [List.range_succ, List.all_append]
  simp
theorem withinB_all (x y : List UInt8) : ∀ (m k : Nat), k ≤ m → withinB x y m = true → withinB x y k = true
  | 0, k, hk, h => by obtain rfl : k = 0 := by omega
                      exact h
  | m + 1, k, hk, h => by
    by_cases e : k = m + 1
    · subst e; exact h
    · rw [withinB_succ, Bool.and_eq_true] at h
      exact withinB_all x y m k (by omega) h.1
theorem u8_eq (a : UInt8) (n : Nat) (hn : n < 256) : ((a.toNat : Int) == (n : Int)) = (a == UInt8.ofNat n) := by
  by_cases e : a = UInt8.ofNat n
  · subst e
    have : (UInt8.ofNat n).toNat = n := by rw [UInt8.toNat_ofNat']; omega
    rw [this]
    simp
  · have h1 : (a == UInt8.ofNat n) = false := by simpa using e
    rw [h1, beq_eq_false_iff_ne]
    intro h
    apply e
    have h2 : a.toNat = n := by exact_mod_cast h
    rw [← h2]
    simp

end Go.Proofs.YtoipgliokelcfaaGreatDoor
