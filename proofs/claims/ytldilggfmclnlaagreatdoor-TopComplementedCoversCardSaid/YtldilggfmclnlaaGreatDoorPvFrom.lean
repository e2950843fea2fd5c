/- The program's Sequences and FromSequences. -/
import Derived.Test.YtldilggfmclnlaaGreatDoorPvSeq
namespace Go.Proofs.YtldilggfmclnlaaGreatDoor
open Go.RowKit

theorem firstErr_none (f : List UInt8 → Int) : ∀ (S : List (List UInt8)), firstErr f S = 0 → ∀ s, s ∈ S → f s = 0
  | [], _, s, h => by cases h
  | x :: S, h0, s, h => by
    unfold firstErr at h0
    by_cases e : f x = 0
    · rw [if_pos e] at h0
      rcases List.mem_cons.1 h with rfl | h
      · exact e
      · exact firstErr_none f S h0 s h
    · rw [if_neg e] at h0
      exact absurd h0 e
theorem wordErr_none {long : Int} {l : List UInt8} (h : wordErr long l = 0) : (l.length : Int) = long ∧ l.all bitB = true := by
  unfold wordErr at h
  by_cases h1 : (l.length : Int) = long
  · rw [if_pos h1] at h
    by_cases h2 : l.all bitB = true
    · exact ⟨h1, h2⟩
    · rw [if_neg h2] at h
      cases h
  · rw [if_neg h1] at h
    cases h
theorem vecErr_none {nets : Int} {S : List (List UInt8)} (h : vecErr nets S = 0) : ∃ n : Nat, nets = (n : Int) ∧ 1 ≤ n ∧ n ≤ 100 ∧ S.length ≤ 200 ∧ ∀ s, s ∈ S → s.length = n ∧ s.all bitB = true := by
  unfold vecErr at h
  by_cases h0 : netsErr nets = 0
  · rw [if_pos h0] at h
    have hn : 1 ≤ nets ∧ nets ≤ 100 := by
      unfold netsErr at h0
      by_cases hh : 1 ≤ nets ∧ nets ≤ 100
      · exact hh
      · rw [if_neg hh] at h0; cases h0
    by_cases h2 : 200 < S.length
    · rw [if_pos h2] at h; cases h
    · rw [if_neg h2] at h
      refine ⟨nets.toNat, by omega, by omega, by omega, by omega, fun s hs => ?_⟩
      have := wordErr_none (firstErr_none _ S h s hs)
      exact ⟨by omega, this.2⟩
  · rw [if_neg h0] at h; cases h
theorem seqErr_none {S : List (List UInt8)} (h : seqErr S = 0) : 1 ≤ S.length ∧ S.length ≤ 100 ∧ (S.getD 0 []).length ≤ 200 ∧ ∀ s, s ∈ S → s.length = (S.getD 0 []).length := by
  unfold seqErr at h
  by_cases h0 : S.length = 0
  · rw [if_pos h0] at h; cases h
  rw [if_neg h0] at h
  by_cases h1 : 100 < S.length ∨ 200 < (S.getD 0 []).length
  · rw [if_pos h1] at h; cases h
  rw [if_neg h1] at h
  refine ⟨by omega, by omega, by omega, fun s hs => ?_⟩
  have := wordErr_none (firstErr_none _ S h s hs)
  omega

theorem sequences_bad (S : List (List UInt8)) (nets : Int) (hz : S.length ≤ 1000000) (hb : ∀ k, k < S.length → (S.getD k []).length ≤ 1000000) (he : vecErr nets S ≠ 0) (B : Nat) (w : World) (v : Value) (h : StrsAt B w v S) :
    Calls Tryz.prog 6 #[.int .i64 nets, v] w fun e w' => e = .returned (.tuple #[.slice none 0 0, .int .i64 (vecErr nets S)]) ∧ Below w.heap.size w w' := by
  have hc := checkVectors_any S nets hz hb B w v h
  obtain ⟨a, c, rfl, -⟩ := strs_open h
  generalize vecErr nets S = E at hc he ⊢
  have hne : (E != 0) = true := by simpa using he
  have hne2 : (E == 0) = false := by simpa using he
  clear h hb he
  go_enter Tryz.func6, Tryz.ntmps6
  go_wp2_with fail
  refine hc.mono ?_
  rintro e w' ⟨rfl, hB⟩
  clear hc
  go_wp2_with fail
  go_ret2
  exact ⟨rfl, hB⟩
theorem sequences_ok (S : List (List UInt8)) (n : Nat) (h1 : 1 ≤ n) (h2 : n ≤ 100) (hz : S.length ≤ 200) (hb : ∀ s, s ∈ S → s.length = n) (he : vecErr (n : Int) S = 0) (B : Nat) (w : World) (v : Value) (h : StrsAt B w v S) :
    Calls Tryz.prog 6 #[.int .i64 (n : Int), v] w fun e w' => ∃ v', e = .returned (.tuple #[v', .int .i64 0]) ∧ StrsAt w.heap.size w' v' (turnL S n) ∧ Below w.heap.size w w' := by
  have hb2 : ∀ k, k < S.length → (S.getD k []).length ≤ 1000000 := fun k hk => by
    have e : S.getD k [] = S[k] := by simp [List.getD, hk]
    have := hb (S.getD k []) (by rw [e]; exact List.getElem_mem hk)
    omega
  have hc := checkVectors_any S (n : Int) (by omega) hb2 B w v h
  rw [he] at hc
  have ht := fun (W : World) (hB : Below w.heap.size w W) => turned_all S n (by omega) (by omega) hb B W v (row_later h hB)
  have HT := Lib.hid ht
  obtain ⟨a, c, rfl, -⟩ := strs_open h
  clear h hb he hb2 ht
  go_enter Tryz.func6, Tryz.ntmps6
  go_wp2_with fail
  refine hc.mono ?_
  rintro e w1 ⟨rfl, hB⟩
  clear hc
  have ht := HT.out w1 hB
  have HB := Lib.hid hB
  clear HT hB
  go_wp2_with fail
  refine ht.mono ?_
  rintro e w2 ⟨v', rfl, hS, hB2⟩
  clear ht
  have HO := Lib.hid (⟨row_base hS HB.out.size, HB.out.trans (hB2.mono HB.out.size)⟩ : _ ∧ _)
  obtain ⟨a2, c2, rfl, -⟩ := strs_open hS
  clear hS hB2 HB
  go_wp2_with fail
  go_ret2
  exact ⟨_, rfl, HO.out.1, HO.out.2⟩

end Go.Proofs.YtldilggfmclnlaaGreatDoor
