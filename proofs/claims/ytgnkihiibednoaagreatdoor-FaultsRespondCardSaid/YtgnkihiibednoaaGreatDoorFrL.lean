/- The reference: CombinedOf. -/
import Derived.Test.YtgnkihiibednoaaGreatDoorFrK
namespace Go.Proofs.YtgnkihiibednoaaGreatDoor
open Go.RowKit

set_option maxHeartbeats 8000000 in
set_option maxRecDepth 100000 in
theorem combinedOf_any (T : List (List UInt8)) (n m : Nat) (hT : TestRight T n m) (L : List Flt) (hL : ∀ f, f ∈ L → FltRight n f) (hz : L.length ≤ 20000) (B : Nat) (w : World) (tv lv : Value) (h : StrsAt B w tv T) (hL2 : FltsAt w lv L) :
    Calls Tryz.prog 17 #[tv, lv] w fun e w' => ∃ v', e = .returned v' ∧ StrsAt w.heap.size w' v' (combL m T L) ∧ Below w.heap.size w w' := by
  have hn1 := hT.n1
  have hn2 := hT.n2
  have hres : ∀ k, k ≤ L.length → TestRight (combL m T (L.take k)) n m := fun k _ => combL_right T hT _ fun f hf => hL f (List.mem_of_mem_take hf)
  have hget : ∀ k, k < L.length → FltRight n (L.getD k (0, [])) ∧ L.take (k + 1) = L.take k ++ [L.getD k (0, [])] := fun k hk => by
    have e : L.getD k (0, []) = L[k] := by simp [hk]
    exact ⟨by rw [e]; exact hL _ (List.getElem_mem hk), by rw [List.take_succ_eq_append_getElem hk, e]⟩
  have htl := List.take_length (l := L)
  have hcl : Calls Tryz.prog 46 #[tv] w fun e w' => ∃ v', e = .returned v' ∧ StrsAt w.heap.size w' v' T ∧ Below w.heap.size w w' := by
    obtain ⟨a, c, rfl, hop⟩ := strs_open h
    obtain ⟨g, rfl, hg, hcell⟩ := hop (by rw [hT.len]; omega)
    have hlz : (T.map fun l => (⟨l.toArray⟩ : ByteArray)).length = T.length := by simp
    refine (Tryz.slices_Clone_string g 0 T.length c (T.map fun l => (⟨l.toArray⟩ : ByteArray)) w (by omega) (by rw [hT.len]; omega) (fun j hj => ?_)).mono ?_
    · have hj2 : j < T.length := by omega
      rw [Nat.zero_add, hcell j hj2]
      simp [hj2]
    · rintro e w' ⟨v', rfl, hrow, -, hB⟩
      refine ⟨v', rfl, ?_, hB⟩
      unfold StrsAt
      rw [List.take_of_length_le (by omega), List.map_map] at hrow
      exact hrow
  obtain ⟨ta, tc, rfl, -⟩ := strs_open h
  obtain ⟨la, lc, rfl, hop⟩ := hL2
  obtain ⟨M, hM⟩ : ∃ M, M = L.length := ⟨_, rfl⟩
  rw [← hM] at hres hget hop hz ⊢
  rw [← hM] at htl
  generalize T.length = tn at hcl ⊢
  have HH := Lib.hid (⟨hop, hres, hget, htl⟩ : _ ∧ _ ∧ _ ∧ _)
  clear hop hres hget htl h hL hM hT
  go_enter Tryz.func17, Tryz.ntmps17
  go_wp2_with fail
  refine hcl.mono ?_
  rintro e w2 ⟨ov, rfl, hov, hB2⟩
  have H2 := Lib.hid (⟨hov, hB2⟩ : _ ∧ _)
  obtain ⟨oa0, oc0, rfl, -⟩ := strs_open hov
  clear hcl hov hB2
  generalize T.length = tn2 at H2 ⊢
  go_wp2_with fail
  go_loopw [5, 12] (fun out ix wr => ∃ k : Nat, k ≤ M ∧ ix = .int .i64 (k : Int) ∧ StrsAt w.heap.size wr out (combL m T (L.take k)) ∧ Below w.heap.size w wr) (fun _ ix _ => M - (intOf ix).toNat)
  case atStart => exact ⟨0, by omega, rfl, H2.out⟩
  case round =>
    clear H2
    obtain ⟨k, hk, rfl, hout, hB⟩ := hrel
    have hTR := HH.out.2.1 k hk
    by_cases hlt : k < M
    · obtain ⟨hfr, htk⟩ := HH.out.2.2.1 k hlt
      obtain ⟨g, rfl, hg, hcell⟩ := HH.out.1 (by omega)
      obtain ⟨c0, nv, c1, hN⟩ := hcell k hlt
      have hB1 : Below w.heap.size w (wr.alloc (.cells #[.int .i64 (L.getD k (0, [])).1, nv] 30)) := hB.alloc hB.size _
      have hbs := hB.size
      have hBx : Below wr.heap.size wr (wr.alloc (.cells #[.int .i64 (L.getD k (0, [])).1, nv] 30)) := (Below.refl _ _).alloc (Nat.le_refl _) _
      have hq := responseOf_any (combL m T (L.take k)) n m hTR (L.getD k (0, [])) hfr w.heap.size _ _ nv (row_later hout hBx) (hN.later hB1)
      rw [← combL_snoc, ← htk] at hq
      have c0' := (hB.cell (p := ⟨g, k * 2, none⟩) hg).trans c0
      have c1' := (hB.cell (p := ⟨g, k * 2 + 1, none⟩) hg).trans c1
      obtain ⟨nk, hnk⟩ : ∃ x, x = (L.getD k (0, [])).1 := ⟨_, rfl⟩
      rw [← hnk] at hq c0' hB1
      obtain ⟨na, nc, hform, -⟩ := hN
      rw [hform] at hq c1' hB1
      generalize (L.getD k (0, [])).2.length = nl at hq c1' hB1
      have k0 : (0 : Int) ≤ (k : Int) := by omega
      have k1 : (k : Int) < (M : Int) := by omega
      obtain ⟨oa, oc, rfl, -⟩ := strs_open hout
      generalize (combL m T (L.take k)).length = ol at hq ⊢
      have HB := Lib.hid hB1
      clear hB hB1 hcell c0 c1 hnk hform hout hTR hfr htk hBx
      go_wp2_with fail
      refine hq.mono ?_
      rintro e w3 ⟨rv, rfl, hrv, hB3⟩
      have hB4 := HB.out.trans (hB3.mono HB.out.size)
      have hrv2 := row_base hrv HB.out.size
      have H4 := Lib.hid (⟨hrv2, hB4⟩ : _ ∧ _)
      obtain ⟨ra, rc, rfl, -⟩ := strs_open hrv
      clear hq hB3 hrv hB4 hrv2
      go_wp2_with fail
      go_roundw
      case rel => exact ⟨k + 1, by omega, by go_num, H4.out⟩
      case measure => simp [intOf]; omega
    · obtain rfl : k = M := by omega
      rw [HH.out.2.2.2] at hout
      obtain ⟨oa, oc, rfl, -⟩ := strs_open hout
      have H4 := Lib.hid (⟨hout, hB⟩ : _ ∧ _)
      clear hout hB hTR
      go_wp2_with fail
      go_ret
      exact ⟨_, rfl, H4.out⟩
end Go.Proofs.YtgnkihiibednoaaGreatDoor
