/- The contracts of the readers of bit strings: IsBits, checkClocks, BitsFault, TmsFault. -/
import Derived.Test.YtoipgliokelcfaaGreatDoorTap
import Derived.Test.YtoipgliokelcfaaGreatDoorShelf
import Derived.Shelf.Strings.SlTrimAscii
namespace Go.Proofs.YtoipgliokelcfaaGreatDoor
open Go.RowKit

theorem dropWhile_nil {p : UInt8 → Bool} : ∀ (l : List UInt8), (l.dropWhile p).isEmpty = l.all p
  | [] => rfl
  | x :: l => by
    by_cases h : p x = true
    · simp [List.dropWhile, h, dropWhile_nil l]
    · simp [List.dropWhile, h]
theorem dropWhile_all {p : UInt8 → Bool} : ∀ (l : List UInt8), (l.dropWhile p).all p = l.all p
  | [] => rfl
  | x :: l => by
    by_cases h : p x = true
    · simp [List.dropWhile, h, dropWhile_all l]
    · simp [List.dropWhile, h]
theorem trim_bits (l : List UInt8) : (Lib.trimS l [48, 49]).isEmpty = l.all bitB := by
  have e : (fun c : UInt8 => [48, 49].contains c) = bitB := by
    funext c
    simp [bitB, List.contains, List.elem]
    cases h1 : (c == 48) <;> cases h2 : (c == 49) <;> rfl
  unfold Lib.trimS Lib.trimLeftS Lib.trimRightS
  rw [e, dropWhile_nil, List.all_reverse, dropWhile_all, List.all_reverse]

/-- IsBits: whether all bytes are 0 or 1. -/
theorem isBits_any (s : ByteArray) (w : World) (hs : s.size ≤ 9223372036854775807) :
    Calls Tryz.prog 62 #[.string s] w fun e w' => e = .returned (.bool (s.data.toList.all bitB)) ∧ Below w.heap.size w w' := by
  have hcon := Any.strings_Trim_laid Tryz.lays160 (by kernel_rfl) s ⟨#[48, 49]⟩ w hs (by decide) (ascii_of_all (by decide))
  change Calls Tryz.prog 99 _ _ (fun e w' => e = .returned (.string ⟨(Lib.trimS s.data.toList [48, 49]).toArray⟩) ∧ Below w.heap.size w w') at hcon
  rw [← trim_bits]
  generalize Lib.trimS s.data.toList [48, 49] = l at hcon ⊢
  go_enter Tryz.func62, Tryz.ntmps62
  go_wp2_with fail
  refine hcon.mono ?_
  rintro e w' ⟨rfl, hB⟩
  go_wp2_with fail
  go_ret
  exact ⟨rfl, hB⟩

/-- What is wrong with a sequence: 2 too long, 9 no bit string, 0 nothing. -/
def clockErr (s : ByteArray) : Int := if 20000 < s.size then 2 else if s.data.toList.all bitB = true then 0 else 9

/-- checkClocks. -/
theorem checkClocks_any (s : ByteArray) (w : World) (hs : s.size ≤ 9223372036854775807) :
    Calls Tryz.prog 27 #[.string s] w fun e w' => e = .returned (.int .i64 (clockErr s)) ∧ Below w.heap.size w w' := by
  have hcon := isBits_any s w hs
  by_cases h1 : 20000 < s.size
  · have e : clockErr s = 2 := by unfold clockErr; rw [if_pos h1]
    rw [e]
    clear hcon e
    go_enter Tryz.func27, Tryz.ntmps27
    go_wp2_with fail
    go_ret
    exact ⟨rfl, Below.refl _ _⟩
  · cases hb : s.data.toList.all bitB with
    | true =>
      have e : clockErr s = 0 := by unfold clockErr; rw [if_neg h1, if_pos hb]
      rw [e]
      rw [hb] at hcon
      clear e hb
      go_enter Tryz.func27, Tryz.ntmps27
      go_wp2_with fail
      refine hcon.mono ?_
      rintro e w' ⟨rfl, hB⟩
      go_wp2_with fail
      go_ret
      exact ⟨rfl, hB⟩
    | false =>
      have e : clockErr s = 9 := by unfold clockErr; rw [if_neg h1, if_neg (by simp [hb])]
      rw [e]
      rw [hb] at hcon
      clear e hb
      go_enter Tryz.func27, Tryz.ntmps27
      go_wp2_with fail
      refine hcon.mono ?_
      rintro e w' ⟨rfl, hB⟩
      go_wp2_with fail
      go_ret
      exact ⟨rfl, hB⟩
end Go.Proofs.YtoipgliokelcfaaGreatDoor
