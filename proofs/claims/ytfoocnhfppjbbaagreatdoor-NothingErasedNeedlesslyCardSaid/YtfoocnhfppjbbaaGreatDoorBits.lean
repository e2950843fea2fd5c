/- The contracts of the readers of bit strings: IsBits, checkClocks, BitsFault, TmsFault. -/
import Derived.Test.YtfoocnhfppjbbaaGreatDoorTap
import Derived.Test.YtfoocnhfppjbbaaGreatDoorShelf
import Derived.Shelf.Strings.SlTrimAscii
namespace Go.Proofs.YtfoocnhfppjbbaaGreatDoor
open Go.RowKit

theorem dropWhile_nil {p : UInt8 → Bool} : ∀ (l : List UInt8), (l.dropWhile p).isEmpty = l.all p
  | [] => rfl
  | x :: l => by
    by_cases h : p x = true
    · simp [List.dropWhile, h, dropWhile_nil l]
    · simp [List.dropWhile, h]
theorem dropWhile_all {p : UInt8 → Bool} : ∀ (l : List UInt8), (l.dropWhile p).all p = l.all p
  | [] => rfl
  | x :: l => by
    by_cases h : p x = true
    · simp [List.dropWhile, h, dropWhile_all l]
    · simp [List.dropWhile, h]
theorem trim_bits (l : List UInt8) : (Lib.trimS l [48, 49]).isEmpty = l.all bitB := by
  have e : (fun c : UInt8 => [48, 49].contains c) = bitB := by
    funext c
    simp [bitB, List.contains, List.elem]
    cases h1 : (c == 48) <;> cases h2 : (c == 49) <;> rfl
  unfold Lib.trimS Lib.trimLeftS Lib.trimRightS
  rw [e, dropWhile_nil, List.all_reverse, dropWhile_all, List.all_reverse]

/-- What is wrong with a sequence: 2 too long, 9 no bit string, 0 nothing. -/
def clockErr (s : ByteArray) : Int := if 20000 < s.size then 2 else if s.data.toList.all bitB = true then 0 else 9

end Go.Proofs.YtfoocnhfppjbbaaGreatDoor
