/- What is wrong with rows of strings: the program's checkBits, CheckVectors; the reference's PatternsFault, SequencesFault. -/
import Derived.Test.YtgnkihiibednoaaGreatDoorPvStr
import Derived.Test.YtgnkihiibednoaaGreatDoorVgRf
namespace Go.Proofs.YtgnkihiibednoaaGreatDoor
open Go.RowKit

/-- What is wrong with a string that is to be a bit string of a length. -/
def wordErr (long : Int) (l : List UInt8) : Int := if (l.length : Int) = long then (if l.all bitB = true then 0 else 9) else 3
/-- The first error of a list. -/
def firstErr (f : List UInt8 → Int) : List (List UInt8) → Int
  | [] => 0
  | s :: S => if f s = 0 then firstErr f S else f s
theorem firstErr_at (f : List UInt8 → Int) : ∀ (S : List (List UInt8)) (k : Nat), k < S.length → firstErr f (S.drop k) = if f (S.getD k []) = 0 then firstErr f (S.drop (k + 1)) else f (S.getD k [])
  | [], k, h => absurd h (Nat.not_lt_zero _)
  | s :: S, 0, _ => rfl
  | s :: S, k + 1, h => firstErr_at f S k (by simpa using h)
theorem firstErr_end (f : List UInt8 → Int) (S : List (List UInt8)) : firstErr f (S.drop S.length) = 0 := by rw [List.drop_length]; rfl
def vecErr (n : Int) (S : List (List UInt8)) : Int := if netsErr n = 0 then (if 200 < S.length then 2 else firstErr (wordErr n) S) else 1
def seqErr (S : List (List UInt8)) : Int := if S.length = 0 then 8 else if 100 < S.length ∨ 200 < (S.getD 0 []).length then 2 else firstErr (wordErr ((S.getD 0 []).length : Int)) S

/-- What a slice of strings is. -/
theorem strs_open {B : Nat} {w : World} {v : Value} {S : List (List UInt8)} (h : StrsAt B w v S) : ∃ a c, v = .slice a S.length c ∧ (0 < S.length → ∃ g, a = some ⟨g, 0, none⟩ ∧ g < w.heap.size ∧ ∀ k, k < S.length → w.cell? ⟨g, k, none⟩ = some (strV (S.getD k []))) := by
  have hrow : w.ownsRow B 9 1 v S.length (S.map strV) := h
  obtain ⟨hlen, ⟨e, h0⟩ | ⟨g, cap, cur, e, hBg, hg, -⟩⟩ := h
  · exact ⟨none, 0, by rw [e, h0], fun h => by omega⟩
  · refine ⟨_, _, e, fun _ => ⟨g, rfl, (Array.getElem?_eq_some_iff.1 hg).1, fun k hk => ?_⟩⟩
    rw [e] at hrow
    rw [hrow.cellAt k (by omega)]
    simp [List.getD, hk]
theorem word_dec (l : List UInt8) (s : ByteArray) (hs : s = ⟨l.toArray⟩) : (s.size : Int) = (l.length : Int) ∧ s.data.toList = l := by
  subst hs
  exact ⟨by show ((l.toArray.size : Nat) : Int) = _; simp, by simp⟩

end Go.Proofs.YtgnkihiibednoaaGreatDoor
