/- Package pattern's Counting; patterned: the package counts. -/
import Derived.Test.YtoipgliokelcfaaGreatDoorVgGen
import Derived.Test.YtoipgliokelcfaaGreatDoorShelf
namespace Go.Proofs.YtoipgliokelcfaaGreatDoor
open Go.RowKit

theorem drewN_below (w : World) (q : Nat) : Below w.heap.size w (w.drewN q) := ⟨rfl, rfl, rfl, Nat.le_refl _, fun _ _ => rfl⟩
/-- Two rows of strings are compared. -/
theorem seqEqual_any (S1 S2 : List (List UInt8)) (hz : S1.length ≤ 1000 ∧ S2.length ≤ 1000) (B1 B2 : Nat) (v1 v2 : Value) (w : World) (h1 : StrsAt B1 w v1 S1) (h2 : StrsAt B2 w v2 S2) :
    Calls Tryz.prog 23 #[v1, v2] w fun e w' => e = .returned (.bool (decide (S1 = S2))) ∧ Below w.heap.size w w' := by
  have hr1 : w.ownsRow B1 9 1 v1 S1.length (S1.map strV) := h1
  have hr2 : w.ownsRow B2 9 1 v2 S2.length (S2.map strV) := h2
  have hsl : ∀ {B : Nat} {v : Value} {S : List (List UInt8)}, StrsAt B w v S → ∃ a c, v = .slice a S.length c := fun h => by
    obtain ⟨-, ⟨e, h0⟩ | ⟨g, cap, cur, e, -⟩⟩ := h
    · exact ⟨none, 0, by rw [e, h0]⟩
    · exact ⟨_, _, e⟩
  obtain ⟨a1, c1, e1⟩ := hsl h1
  obtain ⟨a2, c2, e2⟩ := hsl h2
  by_cases hl : S1.length = S2.length
  · by_cases h0 : S1.length = 0
    · have hs1 : S1 = [] := List.length_eq_zero_iff.1 h0
      have hs2 : S2 = [] := List.length_eq_zero_iff.1 (by omega)
      subst hs1
      subst hs2
      rw [e1, e2]
      refine (Tryz.slices_Equal_string_empty a1 a2 c1 0 c2 w (by decide)).mono ?_
      rintro e w' ⟨rfl, rfl⟩
      exact ⟨rfl, Below.refl _ _⟩
    · obtain ⟨-, ⟨_, h00⟩ | ⟨g1, cap1, cur1, rfl, -⟩⟩ := h1
      · omega
      obtain ⟨-, ⟨_, h00⟩ | ⟨g2, cap2, cur2, rfl, -⟩⟩ := h2
      · omega
      have hb : ∀ (S : List (List UInt8)) (j : Nat), j < S.length → (S.map fun l => (⟨l.toArray⟩ : ByteArray)).getD j ByteArray.empty = ⟨(S.getD j []).toArray⟩ := fun S j hj => by simp [List.getD, hj]
      have hinj : (S1.map fun l => (⟨l.toArray⟩ : ByteArray)) = (S2.map fun l => (⟨l.toArray⟩ : ByteArray)) ↔ S1 = S2 := by
        constructor
        · intro h
          have h3 := congrArg (List.map fun b : ByteArray => b.data.toList) h
          simpa [Function.comp_def] using h3
        · intro h
          rw [h]
      refine (Tryz.slices_Equal_string g1 0 S1.length cap1 g2 0 S2.length cap2 (S1.map fun l => ⟨l.toArray⟩) (S2.map fun l => ⟨l.toArray⟩) w (by simp) (by simp) (by omega) (by omega) (fun j hj => ?_) (fun j hj => ?_)).mono ?_
      · have hj2 : j < S1.length := by simpa using hj
        rw [Nat.zero_add, hr1.cellAt j (by omega), hb S1 j hj2]
        simp [List.getD, hj2]
      · have hj2 : j < S2.length := by simpa using hj
        rw [Nat.zero_add, hr2.cellAt j (by omega), hb S2 j hj2]
        simp [List.getD, hj2]
      · rintro e w' ⟨rfl, q, rfl⟩
        refine ⟨?_, drewN_below w q⟩
        rw [List.take_of_length_le (by simp), List.take_of_length_le (by simp)]
        congr 2
        exact decide_eq_decide.2 hinj
  · rw [e1, e2]
    refine (Tryz.slices_Equal_string_lens a1 a2 S1.length c1 S2.length c2 w hl).mono ?_
    rintro e w' ⟨rfl, rfl⟩
    refine ⟨?_, Below.refl _ _⟩
    rw [decide_eq_false (fun h => hl (by rw [h]))]

set_option maxRecDepth 100000 in
theorem counting_ok (nets : Nat) (h1 : 1 ≤ nets) (h2 : nets ≤ 100) (w : World) : Calls Tryz.prog 15 #[.int .i64 (nets : Int)] w fun e w' => ∃ (k : Nat) (v : Value), k ≤ 9 ∧ Least 2 nets k ∧ e = .returned (.tuple #[v, .int .i64 0]) ∧ StrsAt w.heap.size w' v (turnL (genS 2 nets k) k) ∧ Below w.heap.size w w' := by
  have hs := generate2_ok nets h1 h2 w
  go_enter Tryz.func15, Tryz.ntmps15
  go_wp2_with fail
  refine hs.mono ?_
  rintro e w2 ⟨k, v, hk, hle, rfl, hv, hB⟩
  clear hs
  have HV := Lib.hid (⟨hle, hv, hB⟩ : _ ∧ _ ∧ _)
  clear hle hB
  obtain ⟨-, ⟨rfl, h0⟩ | ⟨g, cap, cur, rfl, -⟩⟩ := hv
  · clear h0
    go_wp2_with fail
    go_ret2
    exact ⟨k, _, hk, HV.out.1, rfl, HV.out.2⟩
  · go_wp2_with fail
    go_ret2
    exact ⟨k, _, hk, HV.out.1, rfl, HV.out.2⟩
set_option maxRecDepth 100000 in
theorem counting_bad (nets : Int) (h : netsErr nets ≠ 0) (w : World) : Calls Tryz.prog 15 #[.int .i64 nets] w fun e w' => e = .returned (.tuple #[.slice none 0 0, .int .i64 1]) ∧ Below w.heap.size w w' := by
  have hs := generate_bad nets 2 1 (by decide) w (shortest_nets nets 2 h w)
  clear h
  go_enter Tryz.func15, Tryz.ntmps15
  go_wp2_with fail
  refine hs.mono ?_
  rintro e w2 ⟨rfl, hB⟩
  clear hs
  go_wp2_with fail
  go_ret2
  exact ⟨rfl, hB⟩

theorem least_three : Least 2 3 3 := ⟨by decide +kernel, by decide +kernel⟩
theorem turn_three : turnL (genS 2 3 3) 3 = [[48, 48, 48], [48, 49, 49], [49, 48, 49]] := by decide +kernel
end Go.Proofs.YtoipgliokelcfaaGreatDoor
