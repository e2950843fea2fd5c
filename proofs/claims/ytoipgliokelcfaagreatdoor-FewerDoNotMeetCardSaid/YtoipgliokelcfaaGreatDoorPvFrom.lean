/- The program's Sequences and FromSequences. -/
import Derived.Test.YtoipgliokelcfaaGreatDoorPvSeq
namespace Go.Proofs.YtoipgliokelcfaaGreatDoor
open Go.RowKit

theorem firstErr_none (f : List UInt8 → Int) : ∀ (S : List (List UInt8)), firstErr f S = 0 → ∀ s, s ∈ S → f s = 0
  | [], _, s, h => by cases h
  | x :: S, h0, s, h => by
    unfold firstErr at h0
    by_cases e : f x = 0
    · rw [if_pos e] at h0
      rcases List.mem_cons.1 h with rfl | h
      · exact e
      · exact firstErr_none f S h0 s h
    · rw [if_neg e] at h0
      exact absurd h0 e
theorem wordErr_none {long : Int} {l : List UInt8} (h : wordErr long l = 0) : (l.length : Int) = long ∧ l.all bitB = true := by
  unfold wordErr at h
  by_cases h1 : (l.length : Int) = long
  · rw [if_pos h1] at h
    by_cases h2 : l.all bitB = true
    · exact ⟨h1, h2⟩
    · rw [if_neg h2] at h
      cases h
  · rw [if_neg h1] at h
    cases h
theorem vecErr_none {nets : Int} {S : List (List UInt8)} (h : vecErr nets S = 0) : ∃ n : Nat, nets = (n : Int) ∧ 1 ≤ n ∧ n ≤ 100 ∧ S.length ≤ 200 ∧ ∀ s, s ∈ S → s.length = n ∧ s.all bitB = true := by
  unfold vecErr at h
  by_cases h0 : netsErr nets = 0
  · rw [if_pos h0] at h
    have hn : 1 ≤ nets ∧ nets ≤ 100 := by
      unfold netsErr at h0
      by_cases hh : 1 ≤ nets ∧ nets ≤ 100
      · exact hh
      · rw [if_neg hh] at h0; cases h0
    by_cases h2 : 200 < S.length
    · rw [if_pos h2] at h; cases h
    · rw [if_neg h2] at h
      refine ⟨nets.toNat, by omega, by omega, by omega, by omega, fun s hs => ?_⟩
      have := wordErr_none (firstErr_none _ S h s hs)
      exact ⟨by omega, this.2⟩
  · rw [if_neg h0] at h; cases h
theorem seqErr_none {S : List (List UInt8)} (h : seqErr S = 0) : 1 ≤ S.length ∧ S.length ≤ 100 ∧ (S.getD 0 []).length ≤ 200 ∧ ∀ s, s ∈ S → s.length = (S.getD 0 []).length := by
  unfold seqErr at h
  by_cases h0 : S.length = 0
  · rw [if_pos h0] at h; cases h
  rw [if_neg h0] at h
  by_cases h1 : 100 < S.length ∨ 200 < (S.getD 0 []).length
  · rw [if_pos h1] at h; cases h
  rw [if_neg h1] at h
  refine ⟨by omega, by omega, by omega, fun s hs => ?_⟩
  have := wordErr_none (firstErr_none _ S h s hs)
  omega

theorem sequences_bad (S : List (List UInt8)) (nets : Int) (hz : S.length ≤ 1000000) (hb : ∀ k, k < S.length → (S.getD k []).length ≤ 1000000) (he : vecErr nets S ≠ 0) (B : Nat) (w : World) (v : Value) (h : StrsAt B w v S) :
    Calls Tryz.prog 21 #[.int .i64 nets, v] w fun e w' => e = .returned (.tuple #[.slice none 0 0, .int .i64 (vecErr nets S)]) ∧ Below w.heap.size w w' := by
  have hc := checkVectors_any S nets hz hb B w v h
  obtain ⟨a, c, rfl, -⟩ := strs_open h
  generalize vecErr nets S = E at hc he ⊢
  have hne : (E != 0) = true := by simpa using he
  have hne2 : (E == 0) = false := by simpa using he
  clear h hb he
  go_enter Tryz.func21, Tryz.ntmps21
  go_wp2_with fail
  refine hc.mono ?_
  rintro e w' ⟨rfl, hB⟩
  clear hc
  go_wp2_with fail
  go_ret2
  exact ⟨rfl, hB⟩
theorem sequences_ok (S : List (List UInt8)) (n : Nat) (h1 : 1 ≤ n) (h2 : n ≤ 100) (hz : S.length ≤ 200) (hb : ∀ s, s ∈ S → s.length = n) (he : vecErr (n : Int) S = 0) (B : Nat) (w : World) (v : Value) (h : StrsAt B w v S) :
    Calls Tryz.prog 21 #[.int .i64 (n : Int), v] w fun e w' => ∃ v', e = .returned (.tuple #[v', .int .i64 0]) ∧ StrsAt w.heap.size w' v' (turnL S n) ∧ Below w.heap.size w w' := by
  have hb2 : ∀ k, k < S.length → (S.getD k []).length ≤ 1000000 := fun k hk => by
    have e : S.getD k [] = S[k] := by simp [List.getD, hk]
    have := hb (S.getD k []) (by rw [e]; exact List.getElem_mem hk)
    omega
  have hc := checkVectors_any S (n : Int) (by omega) hb2 B w v h
  rw [he] at hc
  have ht := fun (W : World) (hB : Below w.heap.size w W) => turned_all S n (by omega) (by omega) hb B W v (row_later h hB)
  have HT := Lib.hid ht
  obtain ⟨a, c, rfl, -⟩ := strs_open h
  clear h hb he hb2 ht
  go_enter Tryz.func21, Tryz.ntmps21
  go_wp2_with fail
  refine hc.mono ?_
  rintro e w1 ⟨rfl, hB⟩
  clear hc
  have ht := HT.out w1 hB
  have HB := Lib.hid hB
  clear HT hB
  go_wp2_with fail
  refine ht.mono ?_
  rintro e w2 ⟨v', rfl, hS, hB2⟩
  clear ht
  have HO := Lib.hid (⟨row_base hS HB.out.size, HB.out.trans (hB2.mono HB.out.size)⟩ : _ ∧ _)
  obtain ⟨a2, c2, rfl, -⟩ := strs_open hS
  clear hS hB2 HB
  go_wp2_with fail
  go_ret2
  exact ⟨_, rfl, HO.out.1, HO.out.2⟩

set_option maxHeartbeats 2000000 in
theorem fromSequences_bad (S : List (List UInt8)) (hz : S.length ≤ 1000000) (hb : ∀ k, k < S.length → (S.getD k []).length ≤ 1000000) (he : seqErr S ≠ 0) (B : Nat) (w : World) (v : Value) (h : StrsAt B w v S) :
    Calls Tryz.prog 22 #[v] w fun e w' => e = .returned (.tuple #[.slice none 0 0, .int .i64 (seqErr S)]) ∧ Below w.heap.size w w' := by
  obtain ⟨a, c, rfl, hop⟩ := strs_open h
  by_cases h0 : S.length = 0
  · have e : seqErr S = 8 := by unfold seqErr; rw [if_pos h0]
    rw [e, h0]
    clear hop e hb h0 he h
    go_enter Tryz.func22, Tryz.ntmps22
    go_wp2_with fail
    go_ret2
    exact ⟨rfl, Below.refl _ _⟩
  obtain ⟨g, rfl, hg, hcell⟩ := hop (by omega)
  have hc0 := hcell 0 (by omega)
  obtain ⟨s0, hs0⟩ : ∃ s : ByteArray, s = ⟨(S.getD 0 []).toArray⟩ := ⟨_, rfl⟩
  have hw0 := word_dec _ s0 hs0
  change _ = some (Value.string ⟨(S.getD 0 []).toArray⟩) at hc0
  rw [← hs0] at hc0
  have hn0 : ((S.length : Int) == 0) = false := by simpa using h0
  by_cases h1 : 100 < S.length
  · have e : seqErr S = 2 := by unfold seqErr; rw [if_neg h0, if_pos (.inl h1)]
    rw [e]
    have h3 : (100 : Int) < (S.length : Int) := by omega
    clear hop e hb h0 hcell hs0 hw0 he h
    go_enter Tryz.func22, Tryz.ntmps22
    go_wp2_with fail
    go_ret2
    exact ⟨rfl, Below.refl _ _⟩
  have h3 : (S.length : Int) ≤ 100 := by omega
  have hpos : (0 : Int) < (S.length : Int) := by omega
  by_cases h2 : 200 < (S.getD 0 []).length
  · have e : seqErr S = 2 := by unfold seqErr; rw [if_neg h0, if_pos (.inr h2)]
    rw [e]
    have h4 : (200 : Int) < (s0.size : Int) := by have := hw0.1; omega
    clear hop e hb h0 hcell hs0 hw0 h2 he h
    go_enter Tryz.func22, Tryz.ntmps22
    go_wp2_with fail
    go_ret2
    exact ⟨rfl, Below.refl _ _⟩
  · have h4 : (s0.size : Int) ≤ 200 := by have := hw0.1; omega
    have e : seqErr S = firstErr (wordErr (s0.size : Int)) S := by unfold seqErr; rw [if_neg h0, if_neg (by omega), hw0.1]
    have hc := checkBits_any S (s0.size : Int) hz hb B w _ h
    rw [← e] at hc
    generalize seqErr S = E at hc he ⊢
    have hne : (E != 0) = true := by simpa using he
    have hne2 : (E == 0) = false := by simpa using he
    clear hop hb h0 e h1 h2 hcell hs0 hw0 he h
    go_enter Tryz.func22, Tryz.ntmps22
    go_wp2_with fail
    refine hc.mono ?_
    rintro e w' ⟨rfl, hB⟩
    clear hc
    go_wp2_with fail
    go_ret2
    exact ⟨rfl, hB⟩
set_option maxHeartbeats 2000000 in
theorem fromSequences_ok (S : List (List UInt8)) (he : seqErr S = 0) (B : Nat) (w : World) (v : Value) (h : StrsAt B w v S) :
    Calls Tryz.prog 22 #[v] w fun e w' => ∃ v', e = .returned (.tuple #[v', .int .i64 0]) ∧ StrsAt w.heap.size w' v' (turnL S (S.getD 0 []).length) ∧ Below w.heap.size w w' := by
  obtain ⟨h1, h2, h3, h4⟩ := seqErr_none he
  have hb2 : ∀ k, k < S.length → (S.getD k []).length ≤ 1000000 := fun k hk => by
    have e : S.getD k [] = S[k] := by simp [List.getD, hk]
    have := h4 (S.getD k []) (by rw [e]; exact List.getElem_mem hk)
    omega
  obtain ⟨a, c, rfl, hop⟩ := strs_open h
  obtain ⟨g, rfl, hg, hcell⟩ := hop (by omega)
  have hc0 := hcell 0 (by omega)
  obtain ⟨s0, hs0⟩ : ∃ s : ByteArray, s = ⟨(S.getD 0 []).toArray⟩ := ⟨_, rfl⟩
  have hw0 := word_dec _ s0 hs0
  change _ = some (Value.string ⟨(S.getD 0 []).toArray⟩) at hc0
  rw [← hs0] at hc0
  obtain ⟨z, hz⟩ : ∃ z, z = (S.getD 0 []).length := ⟨_, rfl⟩
  rw [← hz] at h3 h4 ⊢
  have hz3 : ¬ 200 < (S.getD 0 []).length := by rw [← hz]; omega
  have hzz : s0.size = z := by have := hw0.1; omega
  have e : firstErr (wordErr (s0.size : Int)) S = 0 := by
    unfold seqErr at he
    rw [if_neg (show ¬ S.length = 0 by omega), if_neg (fun h => h.elim (fun h => by omega) hz3)] at he
    rw [hw0.1]
    exact he
  have hc := checkBits_any S (s0.size : Int) (by omega) hb2 B w _ h
  rw [e] at hc
  have ht := fun (W : World) (hB : Below w.heap.size w W) => turned_all S z (by omega) (by omega) h4 B W _ (row_later h hB)
  rw [← hzz] at ht
  have HT := Lib.hid ht
  rw [← hzz]
  have hn1 : S.length ≠ 0 := by omega
  have hn0 : ((S.length : Int) == 0) = false := by simpa using hn1
  have h5 : (S.length : Int) ≤ 100 := by omega
  have hpos : (0 : Int) < (S.length : Int) := by omega
  have h6 : (s0.size : Int) ≤ 200 := by omega
  clear hop hcell hs0 hw0 h he hb2 ht e h4 hz hzz h3 hz3 hn1
  go_enter Tryz.func22, Tryz.ntmps22
  go_wp2_with fail
  refine hc.mono ?_
  rintro e w1 ⟨rfl, hB⟩
  clear hc
  have ht := HT.out w1 hB
  have HB := Lib.hid hB
  clear HT hB
  go_wp2_with fail
  refine ht.mono ?_
  rintro e w2 ⟨v', rfl, hS, hB2⟩
  clear ht
  have HO := Lib.hid (⟨row_base hS HB.out.size, HB.out.trans (hB2.mono HB.out.size)⟩ : _ ∧ _)
  obtain ⟨a2, c2, rfl, -⟩ := strs_open hS
  clear hS hB2 HB
  go_wp2_with fail
  go_ret2
  exact ⟨_, rfl, HO.out.1, HO.out.2⟩
end Go.Proofs.YtoipgliokelcfaaGreatDoor
