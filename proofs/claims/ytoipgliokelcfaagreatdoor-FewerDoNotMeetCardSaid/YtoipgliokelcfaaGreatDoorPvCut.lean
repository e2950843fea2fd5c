/- strings.Cut at a line feed. -/
import Derived.Test.YtoipgliokelcfaaGreatDoorPvFrom
namespace Go.Proofs.YtoipgliokelcfaaGreatDoor
open Go.RowKit

/-- What stands before the first line feed, and behind it. -/
def cutLF : List UInt8 → Option (List UInt8 × List UInt8)
  | [] => none
  | c :: l => if c = 10 then some ([], l) else (cutLF l).map fun p => (c :: p.1, p.2)
theorem cutLF_spec : ∀ (l : List UInt8), (Lib.indexByte l 10 = -1 ∧ cutLF l = none) ∨ ∃ i : Nat, Lib.indexByte l 10 = i ∧ i < l.length ∧ cutLF l = some (l.take i, l.drop (i + 1))
  | [] => .inl ⟨rfl, rfl⟩
  | c :: l => by
    by_cases hc : c = 10
    · subst hc
      exact .inr ⟨0, rfl, by simp, by simp [cutLF]⟩
    · have hb : (c == 10) = false := by simpa using hc
      rcases cutLF_spec l with ⟨h1, h2⟩ | ⟨i, h1, h2, h3⟩
      · refine .inl ⟨?_, ?_⟩
        · simp [Lib.indexByte, hb, h1]
        · simp [cutLF, hc, h2]
      · refine .inr ⟨i + 1, ?_, by simp; omega, ?_⟩
        · simp [Lib.indexByte, hb, h1]
        · simp [cutLF, hc, h3]
theorem cutLF_less {l a b : List UInt8} (h : cutLF l = some (a, b)) : a.length + b.length + 1 = l.length ∧ l ≠ [] := by
  rcases cutLF_spec l with ⟨_, h2⟩ | ⟨i, _, h2, h3⟩
  · rw [h2] at h; cases h
  · rw [h3] at h
    simp only [Option.some.injEq, Prod.mk.injEq] at h
    rw [← h.1, ← h.2]
    refine ⟨by simp; omega, ?_⟩
    intro e
    rw [e] at h2
    simp at h2

theorem lcut_none (s : ByteArray) (w : World) (h : cutLF s.data.toList = none) :
    Calls Tryz.prog 140 #[.string s, .string ⟨#[10]⟩] w fun e w' => e = .returned (.tuple #[.string s, .string ⟨#[]⟩, .bool false]) ∧ w = w' := by
  have hi : Lib.indexByte s.data.toList 10 = -1 := by
    rcases cutLF_spec s.data.toList with ⟨h1, _⟩ | ⟨i, _, _, h3⟩
    · exact h1
    · rw [h3] at h; cases h
  have hc := Tryz.stringslite_Index_one s 10 w
  rw [hi] at hc
  clear hi h
  go_enter Tryz.func140, Tryz.ntmps140
  go_wp2_with fail
  refine hc.mono ?_
  rintro e w' ⟨rfl, rfl⟩
  clear hc
  go_wp2_with fail
  go_ret3
  exact ⟨rfl, rfl⟩
theorem lcut_some (s : ByteArray) (a b : List UInt8) (w : World) (hs : s.size ≤ 1000000) (h : cutLF s.data.toList = some (a, b)) :
    Calls Tryz.prog 140 #[.string s, .string ⟨#[10]⟩] w fun e w' => e = .returned (.tuple #[.string ⟨a.toArray⟩, .string ⟨b.toArray⟩, .bool true]) ∧ ∃ q, w' = w.drewN q := by
  obtain ⟨i, hi, hlt, he⟩ : ∃ i : Nat, Lib.indexByte s.data.toList 10 = i ∧ i < s.data.toList.length ∧ cutLF s.data.toList = some (s.data.toList.take i, s.data.toList.drop (i + 1)) := by
    rcases cutLF_spec s.data.toList with ⟨_, h2⟩ | h
    · rw [h2] at h; cases h
    · exact h
  rw [he] at h
  simp only [Option.some.injEq, Prod.mk.injEq] at h
  have hz : s.data.toList.length = s.size := by simp
  have e1 : s.extract 0 i = ⟨a.toArray⟩ := by
    apply ByteArray.ext
    rw [ByteArray.data_extract]
    apply Array.ext'
    rw [← h.1]
    simp
  have e2 : s.extract (i + 1) s.size = ⟨b.toArray⟩ := by
    apply ByteArray.ext
    rw [ByteArray.data_extract]
    apply Array.ext'
    rw [← h.2]
    simp
    exact List.take_of_length_le (by simp)
  have hc := Tryz.stringslite_Index_one s 10 w
  rw [hi] at hc
  have HE := Lib.hid (⟨e1, e2⟩ : _ ∧ _)
  have h1 : (0 : Int) ≤ (i : Int) := by omega
  have h2 : (i : Int) < (s.size : Int) := by omega
  have h3 : (i : Int) + 1 ≤ (s.size : Int) := by omega
  clear hi h he e1 e2 hz hlt
  go_enter Tryz.func140, Tryz.ntmps140
  go_wp2_with fail
  refine hc.mono ?_
  rintro e w' ⟨rfl, rfl⟩
  clear hc
  go_wp2_with fail
  go_quiet (fail)
  go_wp2_with fail
  go_ret3
  rw [← HE.out.1, ← HE.out.2]
  exact ⟨rfl, _, rfl⟩
theorem cut_none (s : ByteArray) (w : World) (h : cutLF s.data.toList = none) :
    Calls Tryz.prog 130 #[.string s, .string ⟨#[10]⟩] w fun e w' => e = .returned (.tuple #[.string s, .string ⟨#[]⟩, .bool false]) ∧ Below w.heap.size w w' := by
  have hc := lcut_none s w h
  clear h
  go_enter Tryz.func130, Tryz.ntmps130
  go_wp2_with fail
  refine hc.mono ?_
  rintro e w' ⟨rfl, rfl⟩
  clear hc
  go_wp2_with fail
  go_ret3
  exact ⟨rfl, Below.refl _ _⟩
theorem cut_some (s : ByteArray) (a b : List UInt8) (w : World) (hs : s.size ≤ 1000000) (h : cutLF s.data.toList = some (a, b)) :
    Calls Tryz.prog 130 #[.string s, .string ⟨#[10]⟩] w fun e w' => e = .returned (.tuple #[.string ⟨a.toArray⟩, .string ⟨b.toArray⟩, .bool true]) ∧ Below w.heap.size w w' := by
  have hc := lcut_some s a b w hs h
  clear h
  go_enter Tryz.func130, Tryz.ntmps130
  go_wp2_with fail
  refine hc.mono ?_
  rintro e w' ⟨rfl, q, rfl⟩
  clear hc
  go_wp2_with fail
  go_ret3
  exact ⟨rfl, drewN_below _ _⟩
end Go.Proofs.YtoipgliokelcfaaGreatDoor
