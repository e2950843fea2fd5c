/- The contract of Changed: a text with a byte changed, added or removed. -/
import Derived.Test.YtkipkkaloiefpaaGreatDoorStreamTwo
namespace Go.Proofs.YtkipkkaloiefpaaGreatDoor
open Go.RowKit

theorem empty_of_size {s : ByteArray} (h : s.size = 0) : s.toList.isEmpty = true := by
  rw [ByteArray.toList_eq]
  have : s.data.toList.length = 0 := by simpa using h
  rw [List.isEmpty_iff, ← List.length_eq_zero_iff]; exact this
theorem not_empty_of_size {s : ByteArray} (h : 0 < s.size) : s.toList.isEmpty = false := by
  rw [ByteArray.toList_eq]
  have : 0 < s.data.toList.length := by simpa using h
  rw [List.isEmpty_eq_false_iff]; intro e; rw [e] at this; simp at this

theorem changed_any (sb t : Nat) (s wi : ByteArray) (w : World) (hs : Strm w sb t) (ht : t ≤ 1000000) (hsz : s.size ≤ 1000000) (hw0 : 0 < wi.size) (hw1 : wi.size ≤ 1000) :
    Calls Tryz.prog 78 #[.pointer (some ⟨sb, 0, none⟩), .string s, .string wi] w fun e w' => (∃ r : ByteArray, r.size ≤ s.size + wi.size + 4 ∧ e = .returned (.string r)) ∧ Ran sb t 3 w w' := by
  by_cases h0 : s.size = 0
  · have he : s.toList.isEmpty = true := empty_of_size h0
    go_enter Tryz.func78, Tryz.ntmps78
    go_wp2_with fail
    go_ret
    exact ⟨⟨wi, by omega, rfl⟩, (Ran.refl hs).mono (by decide)⟩
  · have he : s.toList.isEmpty = false := not_empty_of_size (by omega)
    have he2 : wi.toList.isEmpty = false := not_empty_of_size hw0
    go_enter Tryz.func78, Tryz.ntmps78
    go_wp2_with fail
    refine (next_any sb t _ _ hs (by omega) (by omega) (by omega)).mono ?_
    rintro e w1 ⟨⟨r1, h1, h2, rfl⟩, hr1⟩
    obtain ⟨t1, ht1, ht1', hs1⟩ := hr1.strm
    obtain ⟨i, rfl⟩ : ∃ i : Nat, r1 = i := ⟨r1.toNat, by omega⟩
    go_wp2_with fail
    refine (next_any sb t1 _ _ hs1 (by omega) (by omega) (by omega)).mono ?_
    rintro e w2 ⟨⟨r2, h3, h4, rfl⟩, hr2⟩
    obtain ⟨t2, ht2, ht2', hs2⟩ := hr2.strm
    obtain ⟨k, rfl⟩ : ∃ k : Nat, r2 = k := ⟨r2.toNat, by omega⟩
    have hkw : k < wi.size := by omega
    have hi : i < s.size := by omega
    go_wp2_with fail
    refine (next_any sb t2 _ _ hs2 (by omega) (by omega) (by omega)).mono ?_
    rintro e w3 ⟨⟨r3, h5, h6, rfl⟩, hr3⟩
    have hrr := (hr1.then ht1 ht1' (hr2.then ht2 ht2' hr3)).mono (show 1 + (1 + 1) ≤ 3 by decide)
    have h012 : r3 = 0 ∨ r3 = 1 ∨ r3 = 2 := by omega
    have hi2 : i ≤ s.size := by omega
    have hi3 : (i : Int) ≤ (s.size : Int) := by omega
    clear h5 h6
    rcases h012 with rfl | rfl | rfl
    · go_wp2_with fail
      have hx := encode_size_le (wrap32 (wi[k].toNat : Int))
      have hA : ¬ 9223372036854775807 < i + (Utf8.encode (wrap32 (wi[k].toNat : Int))).size := by omega
      have hB : ¬ 9223372036854775807 < i + (Utf8.encode (wrap32 (wi[k].toNat : Int))).size + (s.size - (i + 1)) := by omega
      go_quiet (fail)
      clear hA hB
      go_wp2_with fail
      go_ret
      refine ⟨⟨_, ?_, rfl⟩, ?_⟩
      · simp only [ByteArray.size_append, ByteArray.size_extract]; omega
      · obtain ⟨g, t', x, y, z⟩ := hrr
        exact ⟨⟨g.os, g.tape, g.output, g.size, g.block⟩, t', x, y, z.kept fun _ _ => rfl⟩
    · have hx := encode_size_le (wrap32 (wi[k].toNat : Int))
      have hA : ¬ 9223372036854775807 < i + (Utf8.encode (wrap32 (wi[k].toNat : Int))).size := by omega
      have hB : ¬ 9223372036854775807 < i + (Utf8.encode (wrap32 (wi[k].toNat : Int))).size + (s.size - i) := by omega
      go_wp2_with fail
      go_quiet (fail)
      clear hA hB
      go_wp2_with fail
      go_ret
      refine ⟨⟨_, ?_, rfl⟩, ?_⟩
      · simp only [ByteArray.size_append, ByteArray.size_extract]; omega
      · obtain ⟨g, t', x, y, z⟩ := hrr
        exact ⟨⟨g.os, g.tape, g.output, g.size, g.block⟩, t', x, y, z.kept fun _ _ => rfl⟩
    · have hB : ¬ 9223372036854775807 < i + (s.size - (i + 1)) := by omega
      go_wp2_with fail
      go_quiet (fail)
      clear hB
      go_wp2_with fail
      go_ret
      refine ⟨⟨_, ?_, rfl⟩, ?_⟩
      · simp only [ByteArray.size_append, ByteArray.size_extract]; omega
      · obtain ⟨g, t', x, y, z⟩ := hrr
        exact ⟨⟨g.os, g.tape, g.output, g.size, g.block⟩, t', x, y, z.kept fun _ _ => rfl⟩
end Go.Proofs.YtkipkkaloiefpaaGreatDoor
