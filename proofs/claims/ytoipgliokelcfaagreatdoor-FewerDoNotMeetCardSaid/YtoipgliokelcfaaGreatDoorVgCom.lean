/- Package pattern's Complemented. -/
import Derived.Test.YtoipgliokelcfaaGreatDoorVgInv
namespace Go.Proofs.YtoipgliokelcfaaGreatDoor
open Go.RowKit

/-- A number's digits, and the same inverted. -/
def compL (n long : Nat) : List UInt8 := digL n long ++ invL n long
theorem compL_len (n long : Nat) : (compL n long).length = 2 * long := by
  unfold compL invL
  rw [List.length_append, List.length_map, digL_len]
  omega
theorem strs_append (a b : List UInt8) : (⟨a.toArray⟩ : ByteArray) ++ ⟨b.toArray⟩ = ⟨(a ++ b).toArray⟩ := by
  apply ByteArray.ext
  rw [ByteArray.data_append]
  apply Array.ext'
  simp

set_option maxRecDepth 100000 in
theorem complemented1_any (n long : Nat) (hl : long < 8) (hn : n < 128) (W : World) (pl : Nat) (hpl : W.cell? ⟨pl, 0, none⟩ = some (.int .i64 (long : Int))) (hU : U8T W) :
    Calls Tryz.prog 43 #[.int .i64 (n : Int), .pointer (some ⟨pl, 0, none⟩)] W fun e w' => e = .returned (strV (compL n long)) ∧ Below W.heap.size W w' := by
  have hd : Calls Tryz.prog 44 #[.int .i64 (n : Int), .int .i64 (long : Int)] W fun e w' => e = .returned (strV (digL n long)) ∧ _ := digits_any n long (by omega) (by omega) W
  have hm := fun W2 (hU2 : U8T W2) => pmap_any n long hl hn W2 hU2
  obtain ⟨l1, l2⟩ := hU.lt
  have hres : (⟨(digL n long).toArray⟩ : ByteArray) ++ ⟨(invL n long).toArray⟩ = ⟨(compL n long).toArray⟩ := strs_append _ _
  have hz1 : (⟨(digL n long).toArray⟩ : ByteArray).size = long := by
    show (digL n long).toArray.size = long
    rw [List.size_toArray, digL_len]
  have hz2 : (⟨(invL n long).toArray⟩ : ByteArray).size = long := by
    show (invL n long).toArray.size = long
    unfold invL
    rw [List.size_toArray, List.length_map, digL_len]
  obtain ⟨s1, hs1⟩ : ∃ s1, s1 = (⟨(digL n long).toArray⟩ : ByteArray) := ⟨_, rfl⟩
  obtain ⟨s2, hs2⟩ : ∃ s2, s2 = (⟨(invL n long).toArray⟩ : ByteArray) := ⟨_, rfl⟩
  obtain ⟨s3, hs3⟩ : ∃ s3, s3 = (⟨(compL n long).toArray⟩ : ByteArray) := ⟨_, rfl⟩
  show Calls _ _ _ _ fun e w' => e = .returned (.string ⟨(compL n long).toArray⟩) ∧ _
  change Calls _ _ _ _ fun e w' => e = .returned (.string ⟨(digL n long).toArray⟩) ∧ Below W.heap.size W w' at hd
  change ∀ W2, U8T W2 → Calls _ _ _ _ fun e w' => e = .returned (.string ⟨(invL n long).toArray⟩) ∧ Below W2.heap.size W2 w' at hm
  rw [← hs1, ← hs2, ← hs3] at hres
  rw [← hs1] at hd hm hz1
  rw [← hs2] at hm hz2
  rw [← hs3]
  have hcat : ¬ 9223372036854775807 < s1.size + s2.size := by omega
  have HR := Lib.hid hres
  have HU := Lib.hid hU
  have HM := Lib.hid hm
  clear hs1 hs2 hs3 hres hz1 hz2 hU hm
  go_enter Tryz.func43, Tryz.ntmps43
  go_wp2_with fail
  refine hd.mono ?_
  rintro e w2 ⟨rfl, hB⟩
  have hm2 := HM.out w2 (HU.out.below hB l1 l2)
  have HB := Lib.hid hB
  clear hd hB
  go_wp2_with fail
  refine hm2.mono ?_
  rintro e w3 ⟨rfl, hB3⟩
  have HB3 := Lib.hid (HB.out.trans (hB3.mono HB.out.size))
  clear hm2 hB3
  go_wp2_with fail
  go_ret
  rw [← HR.out]
  exact ⟨rfl, HB3.out⟩

/-- How many digits the numbers below so many nets have, at least one. -/
def cLen (nets : Nat) : Nat := max (Lib.bitLen (nets - 1)) 1
theorem cLen_le : ∀ nets, nets < 101 → 1 ≤ cLen nets ∧ cLen nets < 8 := by decide +kernel
/-- The sequences. -/
def compS (nets : Nat) : List (List UInt8) := (List.range nets).map fun n => compL n (cLen nets)

set_option maxRecDepth 100000 in
theorem complemented_bad (nets : Int) (h : netsErr nets ≠ 0) (w : World) : Calls Tryz.prog 16 #[.int .i64 nets] w fun e w' => e = .returned (.tuple #[.slice none 0 0, .int .i64 1]) ∧ w = w' := by
  have hc := checkNets_any nets w
  have e1 : netsErr nets = 1 := by
    unfold netsErr at h ⊢
    split
    · rename_i h2; rw [if_pos h2] at h; exact absurd rfl h
    · rfl
  rw [e1] at hc
  clear e1 h
  go_enter Tryz.func16, Tryz.ntmps16
  go_wp2_with fail
  refine hc.mono ?_
  rintro e w' ⟨rfl, rfl⟩
  go_wp2_with fail
  go_ret2
  exact ⟨rfl, rfl⟩

set_option maxHeartbeats 2000000 in
set_option maxRecDepth 100000 in
theorem complemented_ok (nets : Nat) (h1 : 1 ≤ nets) (h2 : nets ≤ 100) (w : World) (hU : U8T w) : Calls Tryz.prog 16 #[.int .i64 (nets : Int)] w fun e w' => ∃ v : Value, e = .returned (.tuple #[v, .int .i64 0]) ∧ StrsAt w.heap.size w' v (turnL (compS nets) (2 * cLen nets)) ∧ Below w.heap.size w w' := by
  have hc := checkNets_any (nets : Int) w
  have e1 : netsErr (nets : Int) = 0 := if_pos (by omega)
  rw [e1] at hc
  have hlen : Calls Tryz.prog 41 #[.int .u64 ((nets : Int) - 1)] w fun e w' => e = .returned (.int .i64 ((Lib.bitLen (nets - 1) : Nat) : Int)) ∧ w = w' := by
    refine (Tryz.bits_Len ((nets : Int) - 1) w (by omega) (by omega)).mono ?_
    rintro e w' ⟨rfl, rfl⟩
    refine ⟨?_, rfl⟩
    have : ((nets : Int) - 1).toNat = nets - 1 := by omega
    rw [this]
  obtain ⟨L, hL⟩ : ∃ L, L = Lib.bitLen (nets - 1) := ⟨_, rfl⟩
  obtain ⟨c, hc0⟩ : ∃ c, c = cLen nets := ⟨_, rfl⟩
  have hcl := cLen_le nets (by omega)
  rw [← hc0] at hcl
  have hcL : c = max L 1 := by rw [hc0, hL]; rfl
  have hcS : (List.range nets).map (fun n => compL n c) = compS nets := by unfold compS; rw [hc0]
  rw [← hL] at hlen
  rw [← hc0, ← hcS]
  obtain ⟨l1, l2⟩ := hU.lt
  have hn1 : (0 : Int) ≤ (nets : Int) - 1 := by omega
  have hn2 : (nets : Int) - 1 ≤ 100 := by omega
  have hvec := fun (W : World) (pl : Nat) (hpl : W.cell? ⟨pl, 0, none⟩ = some (.int .i64 (c : Int))) (hplW : pl < W.heap.size) (hUW : U8T W) => vectorsOfComplemented1_any nets (2 * c) h1 (by omega) (by omega) (fun j => compL j c) (fun j _ => compL_len _ _) W pl (fun W2 j hW hj =>
    complemented1_any j c hcl.2 (by omega) W2 pl ((hW.cell (p := ⟨pl, 0, none⟩) hplW).trans hpl) (hUW.below hW hUW.lt.1 hUW.lt.2))
  have HVEC := Lib.hid hvec
  have HU := Lib.hid hU
  have hcz : (c : Int) = max (L : Int) 1 := by omega
  have hm1 : (1 : Int) ≤ max (L : Int) 1 := by omega
  have hm2 : max (L : Int) 1 ≤ 8 := by omega
  have hpl : (w.alloc (.cells #[.int .i64 (max (L : Int) 1)] 3)).cell? ⟨w.heap.size, 0, none⟩ = some (.int .i64 (c : Int)) := by
    rw [hcz]
    exact (fresh_at w _ #[.int .i64 (max (L : Int) 1)] 3 (Below.refl _ _) 0).1
  have hBa : Below w.heap.size w (w.alloc (.cells #[.int .i64 (max (L : Int) 1)] 3)) := (Below.refl _ _).alloc (Nat.le_refl _) _
  have hv := HVEC.out _ w.heap.size hpl (by simp) (HU.out.below hBa l1 l2)
  have hcast : ((2 * c : Nat) : Int) = 2 * max (L : Int) 1 := by omega
  rw [hcast] at hv
  have HB := Lib.hid hBa
  clear hvec hU e1 hL hc0 hcL hcS hcz hpl hBa hcast hcl
  go_enter Tryz.func16, Tryz.ntmps16
  go_wp2_with fail
  refine hc.mono ?_
  rintro e w' ⟨rfl, rfl⟩
  clear hc
  go_wp2_with fail
  refine hlen.mono ?_
  rintro e w' ⟨rfl, rfl⟩
  clear hlen
  go_wp2_with fail
  refine hv.mono ?_
  rintro e w4 ⟨v', rfl, hS, hB4⟩
  clear hv
  have hb0 := HB.out.size
  have HF := Lib.hid (⟨row_base hS hb0, HB.out.trans (hB4.mono hb0)⟩ : w4.ownsRow w.heap.size 9 1 v' _ _ ∧ _)
  have hS2 := hS
  clear hS hB4
  obtain ⟨-, ⟨rfl, -⟩ | ⟨g2, cap2, cur2, rfl, -⟩⟩ := hS2
  · go_wp2_with fail
    go_ret2
    exact ⟨_, rfl, HF.out⟩
  · go_wp2_with fail
    go_ret2
    exact ⟨_, rfl, HF.out⟩
end Go.Proofs.YtoipgliokelcfaaGreatDoor
