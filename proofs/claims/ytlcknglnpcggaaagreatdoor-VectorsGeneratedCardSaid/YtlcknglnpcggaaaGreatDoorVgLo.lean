/- The reference's LeastOf and GeneratedOf. -/
import Derived.Test.YtlcknglnpcggaaaGreatDoorVgRc
namespace Go.Proofs.YtlcknglnpcggaaaGreatDoor
open Go.RowKit

theorem codes_mem {goal k nets n : Nat} (h : n ∈ (codesL goal k).take nets) : n < 2 ^ k := by
  have h1 := List.mem_of_mem_take h
  unfold codesL codesTo at h1
  exact List.mem_range.1 (List.mem_filter.1 h1).1

set_option maxHeartbeats 2000000 in
set_option maxRecDepth 100000 in
theorem least1_any (nets : Nat) (hn1 : 1 ≤ nets) (hn2 : nets ≤ 100) (w : World) (hT : Tz w) : Calls Tryz.prog 20 #[.int .i64 (nets : Int), .int .i64 1] w fun e w' => ∃ k : Nat, k ≤ 9 ∧ Least 1 nets k ∧ e = .returned (.int .i64 (k : Int)) ∧ Below w.heap.size w w' := by
  have HT := Lib.hid hT
  have HR := Lib.hid (fun k hk W hW => rcodes1_any k nets hk hn1 hn2 W hW)
  clear hT
  go_enter Tryz.func20, Tryz.ntmps20
  go_wp2_with fail
  go_loopw [5] (fun i wr => ∃ k : Nat, k ≤ 9 ∧ i = .int .i64 (k : Int) ∧ (∀ j, j < k → (codesL 1 j).length < nets) ∧ Below w.heap.size w wr) (fun i _ => 9 - (intOf i).toNat)
  case atStart => exact ⟨0, by omega, rfl, fun j hj => absurd hj (by omega), Below.refl _ _⟩
  case round =>
    obtain ⟨k, hk, rfl, hlow, hB⟩ := hrel
    have hr := HR.out k hk wr (HT.out.below hB HT.out.lt)
    have hb := hB.size
    have H := Lib.hid (⟨hlow, hB⟩ : _ ∧ _)
    clear hlow hB
    go_wp2_with fail
    refine hr.mono ?_
    rintro e w2 ⟨v, rfl, hv, hB2⟩
    clear hr
    have hBn := H.out.2.trans (hB2.mono hb)
    obtain ⟨L, hL⟩ : ∃ L, L = ((codesL 1 k).take nets).length := ⟨_, rfl⟩
    have hL2 := hL
    rw [List.length_take] at hL2
    obtain ⟨hz, ⟨rfl, h0⟩ | ⟨g, cap, cur, rfl, -⟩⟩ := hv
    · have h9 : k < 9 := by
        rcases Nat.lt_or_ge k 9 with h | h
        · exact h
        · obtain rfl : k = 9 := by omega
          have := codes_nine 1 (by decide) (by decide)
          omega
      have hl : (codesL 1 k).length < nets := by omega
      have hp : (0 : Int) < (nets : Int) := by omega
      have HB := Lib.hid (⟨hl, hBn⟩ : _ ∧ _)
      clear hl hBn hL hL2 h0 hz hB2
      go_wp2_with fail
      go_roundw
      case rel => exact ⟨k + 1, by omega, by go_num, fun j hj => by
        by_cases e : j = k
        · subst e; exact HB.out.1
        · exact H.out.1 j (by omega), HB.out.2⟩
      case measure => simp [intOf]; omega
    · rw [← hL]
      by_cases hlt : L < nets
      · have h9 : k < 9 := by
          rcases Nat.lt_or_ge k 9 with h | h
          · exact h
          · obtain rfl : k = 9 := by omega
            have := codes_nine 1 (by decide) (by decide)
            omega
        have hl : (codesL 1 k).length < nets := by omega
        have hp : (L : Int) < (nets : Int) := by omega
        have HB := Lib.hid (⟨hl, hBn⟩ : _ ∧ _)
        clear hl hBn hL hL2 hz hB2 hlt
        go_wp2_with fail
        go_roundw
        case rel => exact ⟨k + 1, by omega, by go_num, fun j hj => by
          by_cases e : j = k
          · subst e; exact HB.out.1
          · exact H.out.1 j (by omega), HB.out.2⟩
        case measure => simp [intOf]; omega
      · have hl : nets ≤ (codesL 1 k).length := by omega
        have hp : ¬ (L : Int) < (nets : Int) := by omega
        have HB := Lib.hid (⟨hl, hBn⟩ : _ ∧ _)
        clear hl hBn hL hL2 hz hB2 hlt
        go_wp2_with fail
        go_ret
        exact ⟨k, hk, ⟨HB.out.1, H.out.1⟩, rfl, HB.out.2⟩

set_option maxHeartbeats 2000000 in
set_option maxRecDepth 100000 in
theorem generated1_any (nets : Nat) (hn1 : 1 ≤ nets) (hn2 : nets ≤ 100) (w : World) (hT : Tz w) : Calls Tryz.prog 21 #[.int .i64 (nets : Int), .int .i64 1] w fun e w' => ∃ (k : Nat) (v : Value), k ≤ 9 ∧ Least 1 nets k ∧ e = .returned v ∧ StrsAt w.heap.size w' v (turnL (genS 1 nets k) k) ∧ Below w.heap.size w w' := by
  obtain ⟨i0, hi, hz0, hz1, hz2⟩ := info_parts Tryz.infoStrv
  have hle := least1_any nets hn1 hn2 w hT
  have HT := Lib.hid hT
  clear hT
  go_enter Tryz.func21, Tryz.ntmps21
  go_wp2_with fail
  refine hle.mono ?_
  rintro e w1 ⟨K, hK, hLeast, rfl, hB1⟩
  clear hle
  have hr := rcodes1_any K nets hK hn1 hn2 w1 (HT.out.below hB1 HT.out.lt)
  go_wp2_with fail
  refine hr.mono ?_
  rintro e w2 ⟨v, rfl, hv, hB2⟩
  clear hr
  have hBw2 := hB1.trans (hB2.mono hB1.size)
  obtain ⟨CL, hCL⟩ : ∃ CL, CL = (codesL 1 K).take nets := ⟨_, rfl⟩
  have hmem : ∀ n, n ∈ CL → n < 2 ^ K := fun n hn => codes_mem (by rw [← hCL]; exact hn)
  have hgl : genS 1 nets K = CL.map (digL · K) := by unfold genS; rw [hCL]
  have hCl : CL.length = nets := by rw [hCL, List.length_take]; have := hLeast.1; omega
  rw [← hCL] at hv
  have hrow : w2.ownsRow w1.heap.size 3 1 v CL.length (CL.map natV) := hv
  have HROW := Lib.hid hrow
  obtain ⟨-, ⟨rfl, h0⟩ | ⟨g, cap, cur, rfl, -, hg, -⟩⟩ := hv
  · omega
  have hgl2 : g < w2.heap.size := (Array.getElem?_eq_some_iff.1 hg).1
  have hgetS : ∀ k (hk : k < nets), w2.cell? ⟨g, k, none⟩ = some (.int .i64 ((CL.getD k 0 : Nat) : Int)) ∧ CL.getD k 0 < 2 ^ K ∧ CL.take (k + 1) = CL.take k ++ [CL.getD k 0] := fun k hk => by
    have hk2 : k < CL.length := by omega
    have e : CL.getD k 0 = CL[k] := by simp [List.getD, hk2]
    refine ⟨?_, ?_, ?_⟩
    · rw [HROW.out.cellAt k (by omega)]
      simp [List.getD, hk2, natV]
    · rw [e]
      exact hmem _ (List.getElem_mem hk2)
    · rw [e, List.take_add_one, List.getElem?_eq_getElem hk2]
      rfl
  have HG := Lib.hid (⟨hgetS, hgl, hCl, hLeast, hBw2, hmem⟩ : _ ∧ _ ∧ _ ∧ _ ∧ _ ∧ _)
  rw [hCl]
  have hb12 := hB2.size
  have hb1 := hB1.size
  have HDG := Lib.hid (fun n hn W hW => digitsOf_any n K hK hn W hW)
  have HTw := Lib.hid ((HT.out.below hBw2 HT.out.lt))
  clear hgetS hgl hCl hLeast hBw2 hmem hCL hrow HROW hg hB1 hB2
  go_wp2_with fail
  go_loopw [6, 17] (fun vv i wr => ∃ (k : Nat) (v : Value), k ≤ nets ∧ v = vv ∧ i = .int .i64 (k : Int) ∧ StrsAt w2.heap.size wr v ((CL.take k).map (digL · K)) ∧ Below w2.heap.size w2 wr) (fun _ i _ => nets - (intOf i).toNat)
  case atStart => exact ⟨0, _, by omega, rfl, rfl, World.ownsRow_nil _ _ _ _, Below.refl _ _⟩
  case round =>
    obtain ⟨k, v, hk, rfl, rfl, hown, hB⟩ := hrel
    by_cases hlt : k < nets
    · obtain ⟨hc0, hx, htk⟩ := HG.out.1 k hlt
      have hc := (hB.cell (p := ⟨g, k, none⟩) hgl2).trans hc0
      have hs := HDG.out _ hx wr (HTw.out.below hB HTw.out.lt)
      have hsucc : (CL.take (k + 1)).map (digL · K) = (CL.take k).map (digL · K) ++ [digL (CL.getD k 0) K] := by rw [htk, List.map_append]; rfl
      have hlen : ((CL.take k).map (digL · K)).length = k := by rw [List.length_map, List.length_take, HG.out.2.2.1]; omega
      have hrow : wr.ownsRow w2.heap.size 9 1 v ((CL.take k).map (digL · K)).length (((CL.take k).map (digL · K)).map strV) := hown
      rw [hlen] at hrow
      have HR := Lib.hid hrow
      have HS := Lib.hid hsucc
      clear hown hrow hsucc hlen hc0 hx htk
      generalize digL (CL.getD k 0) K = sk at hs HS
      generalize CL.getD k 0 = x at hs hc
      have hki0 : (0 : Int) ≤ (k : Int) := by omega
      have hki1 : (k : Int) < (nets : Int) := by omega
      have hb2 := hB.size
      go_wp2_with fail
      refine hs.mono ?_
      rintro e w3 ⟨rfl, hB3⟩
      clear hs hc
      have hrow2 := row_later HR.out hB3
      have hb3 := hB3.size
      go_wp2_with (at_builtin; refine wpList_append_own _ rfl _ _ 31 rfl w2.heap.size 9 i0 (.string ⟨#[]⟩) 1 16 Tryz.underlying31 hi hz0 hz1 hz2 rfl (by decide) _ _ _ rfl (hrow2.alloc _) ⟨w3.heap.size, 0, none⟩ 1 1 [strV sk] rfl rfl ?c1 ?c2 ?c3 ?c4 ?c5 ?_)
      case c1 => exact cell_one_new _ _ _
      case c2 => simp [Value.oneCell']
      case c3 => unfold maxLen; omega
      case c4 => omega
      case c5 => simp; omega
      intro v' w4 hown' hg4 _
      have hBw3 := hB.trans (hB3.mono hb2)
      have hB4 : Below w2.heap.size w2 w4 := (hBw3.alloc (by omega) _).grown hg4 (by simp; omega) (fun j hj => (hrow2.lt j hj).1)
      have HO := Lib.hid (⟨hown', hB4⟩ : _ ∧ _)
      clear hown' hB4 hg4 hBw3 hrow2 hB3
      have hmin : min k CL.length = k := by
        have := HG.out.2.2.1
        omega
      have HM := Lib.hid hmin
      clear hmin
      go_wp2_with fail
      go_roundw
      case rel => exact ⟨k + 1, _, by omega, rfl, by go_num, by rw [HS.out]; unfold StrsAt; have h := HO.out.1; simpa [HM.out] using h, HO.out.2⟩
      case measure => simp [intOf]; omega
    · obtain rfl : k = nets := by omega
      obtain ⟨-, hgl, hCl, -, -, hmem⟩ := HG.out
      have htake : CL.take k = CL := by rw [List.take_of_length_le]; omega
      rw [htake] at hown
      have ht := rvectors_any (CL.map (digL · K)) K (by rw [List.length_map]; omega) (by rw [List.length_map]; omega) (by omega) (fun s hs => by
        obtain ⟨j, hj, rfl⟩ := List.mem_map.1 hs
        exact digL_len _ _) w2.heap.size wr v hown
      rw [← hgl] at ht
      have hb3 := hB.size
      have HB := Lib.hid (HG.out.2.2.2.2.1.trans (hB.mono (by omega)))
      clear hown hB hgl hCl hmem htake
      go_wp2_with fail
      refine ht.mono ?_
      rintro e w5 ⟨v', rfl, hS2, hB5⟩
      clear ht
      have HO := Lib.hid (⟨row_base hS2 (by omega), HB.out.trans (hB5.mono (by omega))⟩ : w5.ownsRow w.heap.size 9 1 v' _ _ ∧ _)
      clear hB5
      obtain ⟨-, ⟨rfl, -⟩ | ⟨g3, cap3, cur3, rfl, -⟩⟩ := hS2
      · go_wp2_with fail
        go_ret
        exact ⟨K, _, hK, HG.out.2.2.2.1, rfl, HO.out.1, HO.out.2⟩
      · go_wp2_with fail
        go_ret
        exact ⟨K, _, hK, HG.out.2.2.2.1, rfl, HO.out.1, HO.out.2⟩

set_option maxHeartbeats 2000000 in
set_option maxRecDepth 100000 in
theorem least2_any (nets : Nat) (hn1 : 1 ≤ nets) (hn2 : nets ≤ 100) (w : World) (hT : Tz w) : Calls Tryz.prog 20 #[.int .i64 (nets : Int), .int .i64 2] w fun e w' => ∃ k : Nat, k ≤ 9 ∧ Least 2 nets k ∧ e = .returned (.int .i64 (k : Int)) ∧ Below w.heap.size w w' := by
  have HT := Lib.hid hT
  have HR := Lib.hid (fun k hk W hW => rcodes2_any k nets hk hn1 hn2 W hW)
  clear hT
  go_enter Tryz.func20, Tryz.ntmps20
  go_wp2_with fail
  go_loopw [5] (fun i wr => ∃ k : Nat, k ≤ 9 ∧ i = .int .i64 (k : Int) ∧ (∀ j, j < k → (codesL 2 j).length < nets) ∧ Below w.heap.size w wr) (fun i _ => 9 - (intOf i).toNat)
  case atStart => exact ⟨0, by omega, rfl, fun j hj => absurd hj (by omega), Below.refl _ _⟩
  case round =>
    obtain ⟨k, hk, rfl, hlow, hB⟩ := hrel
    have hr := HR.out k hk wr (HT.out.below hB HT.out.lt)
    have hb := hB.size
    have H := Lib.hid (⟨hlow, hB⟩ : _ ∧ _)
    clear hlow hB
    go_wp2_with fail
    refine hr.mono ?_
    rintro e w2 ⟨v, rfl, hv, hB2⟩
    clear hr
    have hBn := H.out.2.trans (hB2.mono hb)
    obtain ⟨L, hL⟩ : ∃ L, L = ((codesL 2 k).take nets).length := ⟨_, rfl⟩
    have hL2 := hL
    rw [List.length_take] at hL2
    obtain ⟨hz, ⟨rfl, h0⟩ | ⟨g, cap, cur, rfl, -⟩⟩ := hv
    · have h9 : k < 9 := by
        rcases Nat.lt_or_ge k 9 with h | h
        · exact h
        · obtain rfl : k = 9 := by omega
          have := codes_nine 2 (by decide) (by decide)
          omega
      have hl : (codesL 2 k).length < nets := by omega
      have hp : (0 : Int) < (nets : Int) := by omega
      have HB := Lib.hid (⟨hl, hBn⟩ : _ ∧ _)
      clear hl hBn hL hL2 h0 hz hB2
      go_wp2_with fail
      go_roundw
      case rel => exact ⟨k + 1, by omega, by go_num, fun j hj => by
        by_cases e : j = k
        · subst e; exact HB.out.1
        · exact H.out.1 j (by omega), HB.out.2⟩
      case measure => simp [intOf]; omega
    · rw [← hL]
      by_cases hlt : L < nets
      · have h9 : k < 9 := by
          rcases Nat.lt_or_ge k 9 with h | h
          · exact h
          · obtain rfl : k = 9 := by omega
            have := codes_nine 2 (by decide) (by decide)
            omega
        have hl : (codesL 2 k).length < nets := by omega
        have hp : (L : Int) < (nets : Int) := by omega
        have HB := Lib.hid (⟨hl, hBn⟩ : _ ∧ _)
        clear hl hBn hL hL2 hz hB2 hlt
        go_wp2_with fail
        go_roundw
        case rel => exact ⟨k + 1, by omega, by go_num, fun j hj => by
          by_cases e : j = k
          · subst e; exact HB.out.1
          · exact H.out.1 j (by omega), HB.out.2⟩
        case measure => simp [intOf]; omega
      · have hl : nets ≤ (codesL 2 k).length := by omega
        have hp : ¬ (L : Int) < (nets : Int) := by omega
        have HB := Lib.hid (⟨hl, hBn⟩ : _ ∧ _)
        clear hl hBn hL hL2 hz hB2 hlt
        go_wp2_with fail
        go_ret
        exact ⟨k, hk, ⟨HB.out.1, H.out.1⟩, rfl, HB.out.2⟩

set_option maxHeartbeats 2000000 in
set_option maxRecDepth 100000 in
theorem generated2_any (nets : Nat) (hn1 : 1 ≤ nets) (hn2 : nets ≤ 100) (w : World) (hT : Tz w) : Calls Tryz.prog 21 #[.int .i64 (nets : Int), .int .i64 2] w fun e w' => ∃ (k : Nat) (v : Value), k ≤ 9 ∧ Least 2 nets k ∧ e = .returned v ∧ StrsAt w.heap.size w' v (turnL (genS 2 nets k) k) ∧ Below w.heap.size w w' := by
  obtain ⟨i0, hi, hz0, hz1, hz2⟩ := info_parts Tryz.infoStrv
  have hle := least2_any nets hn1 hn2 w hT
  have HT := Lib.hid hT
  clear hT
  go_enter Tryz.func21, Tryz.ntmps21
  go_wp2_with fail
  refine hle.mono ?_
  rintro e w1 ⟨K, hK, hLeast, rfl, hB1⟩
  clear hle
  have hr := rcodes2_any K nets hK hn1 hn2 w1 (HT.out.below hB1 HT.out.lt)
  go_wp2_with fail
  refine hr.mono ?_
  rintro e w2 ⟨v, rfl, hv, hB2⟩
  clear hr
  have hBw2 := hB1.trans (hB2.mono hB1.size)
  obtain ⟨CL, hCL⟩ : ∃ CL, CL = (codesL 2 K).take nets := ⟨_, rfl⟩
  have hmem : ∀ n, n ∈ CL → n < 2 ^ K := fun n hn => codes_mem (by rw [← hCL]; exact hn)
  have hgl : genS 2 nets K = CL.map (digL · K) := by unfold genS; rw [hCL]
  have hCl : CL.length = nets := by rw [hCL, List.length_take]; have := hLeast.1; omega
  rw [← hCL] at hv
  have hrow : w2.ownsRow w1.heap.size 3 1 v CL.length (CL.map natV) := hv
  have HROW := Lib.hid hrow
  obtain ⟨-, ⟨rfl, h0⟩ | ⟨g, cap, cur, rfl, -, hg, -⟩⟩ := hv
  · omega
  have hgl2 : g < w2.heap.size := (Array.getElem?_eq_some_iff.1 hg).1
  have hgetS : ∀ k (hk : k < nets), w2.cell? ⟨g, k, none⟩ = some (.int .i64 ((CL.getD k 0 : Nat) : Int)) ∧ CL.getD k 0 < 2 ^ K ∧ CL.take (k + 1) = CL.take k ++ [CL.getD k 0] := fun k hk => by
    have hk2 : k < CL.length := by omega
    have e : CL.getD k 0 = CL[k] := by simp [List.getD, hk2]
    refine ⟨?_, ?_, ?_⟩
    · rw [HROW.out.cellAt k (by omega)]
      simp [List.getD, hk2, natV]
    · rw [e]
      exact hmem _ (List.getElem_mem hk2)
    · rw [e, List.take_add_one, List.getElem?_eq_getElem hk2]
      rfl
  have HG := Lib.hid (⟨hgetS, hgl, hCl, hLeast, hBw2, hmem⟩ : _ ∧ _ ∧ _ ∧ _ ∧ _ ∧ _)
  rw [hCl]
  have hb12 := hB2.size
  have hb1 := hB1.size
  have HDG := Lib.hid (fun n hn W hW => digitsOf_any n K hK hn W hW)
  have HTw := Lib.hid ((HT.out.below hBw2 HT.out.lt))
  clear hgetS hgl hCl hLeast hBw2 hmem hCL hrow HROW hg hB1 hB2
  go_wp2_with fail
  go_loopw [6, 17] (fun vv i wr => ∃ (k : Nat) (v : Value), k ≤ nets ∧ v = vv ∧ i = .int .i64 (k : Int) ∧ StrsAt w2.heap.size wr v ((CL.take k).map (digL · K)) ∧ Below w2.heap.size w2 wr) (fun _ i _ => nets - (intOf i).toNat)
  case atStart => exact ⟨0, _, by omega, rfl, rfl, World.ownsRow_nil _ _ _ _, Below.refl _ _⟩
  case round =>
    obtain ⟨k, v, hk, rfl, rfl, hown, hB⟩ := hrel
    by_cases hlt : k < nets
    · obtain ⟨hc0, hx, htk⟩ := HG.out.1 k hlt
      have hc := (hB.cell (p := ⟨g, k, none⟩) hgl2).trans hc0
      have hs := HDG.out _ hx wr (HTw.out.below hB HTw.out.lt)
      have hsucc : (CL.take (k + 1)).map (digL · K) = (CL.take k).map (digL · K) ++ [digL (CL.getD k 0) K] := by rw [htk, List.map_append]; rfl
      have hlen : ((CL.take k).map (digL · K)).length = k := by rw [List.length_map, List.length_take, HG.out.2.2.1]; omega
      have hrow : wr.ownsRow w2.heap.size 9 1 v ((CL.take k).map (digL · K)).length (((CL.take k).map (digL · K)).map strV) := hown
      rw [hlen] at hrow
      have HR := Lib.hid hrow
      have HS := Lib.hid hsucc
      clear hown hrow hsucc hlen hc0 hx htk
      generalize digL (CL.getD k 0) K = sk at hs HS
      generalize CL.getD k 0 = x at hs hc
      have hki0 : (0 : Int) ≤ (k : Int) := by omega
      have hki1 : (k : Int) < (nets : Int) := by omega
      have hb2 := hB.size
      go_wp2_with fail
      refine hs.mono ?_
      rintro e w3 ⟨rfl, hB3⟩
      clear hs hc
      have hrow2 := row_later HR.out hB3
      have hb3 := hB3.size
      go_wp2_with (at_builtin; refine wpList_append_own _ rfl _ _ 31 rfl w2.heap.size 9 i0 (.string ⟨#[]⟩) 1 16 Tryz.underlying31 hi hz0 hz1 hz2 rfl (by decide) _ _ _ rfl (hrow2.alloc _) ⟨w3.heap.size, 0, none⟩ 1 1 [strV sk] rfl rfl ?c1 ?c2 ?c3 ?c4 ?c5 ?_)
      case c1 => exact cell_one_new _ _ _
      case c2 => simp [Value.oneCell']
      case c3 => unfold maxLen; omega
      case c4 => omega
      case c5 => simp; omega
      intro v' w4 hown' hg4 _
      have hBw3 := hB.trans (hB3.mono hb2)
      have hB4 : Below w2.heap.size w2 w4 := (hBw3.alloc (by omega) _).grown hg4 (by simp; omega) (fun j hj => (hrow2.lt j hj).1)
      have HO := Lib.hid (⟨hown', hB4⟩ : _ ∧ _)
      clear hown' hB4 hg4 hBw3 hrow2 hB3
      have hmin : min k CL.length = k := by
        have := HG.out.2.2.1
        omega
      have HM := Lib.hid hmin
      clear hmin
      go_wp2_with fail
      go_roundw
      case rel => exact ⟨k + 1, _, by omega, rfl, by go_num, by rw [HS.out]; unfold StrsAt; have h := HO.out.1; simpa [HM.out] using h, HO.out.2⟩
      case measure => simp [intOf]; omega
    · obtain rfl : k = nets := by omega
      obtain ⟨-, hgl, hCl, -, -, hmem⟩ := HG.out
      have htake : CL.take k = CL := by rw [List.take_of_length_le]; omega
      rw [htake] at hown
      have ht := rvectors_any (CL.map (digL · K)) K (by rw [List.length_map]; omega) (by rw [List.length_map]; omega) (by omega) (fun s hs => by
        obtain ⟨j, hj, rfl⟩ := List.mem_map.1 hs
        exact digL_len _ _) w2.heap.size wr v hown
      rw [← hgl] at ht
      have hb3 := hB.size
      have HB := Lib.hid (HG.out.2.2.2.2.1.trans (hB.mono (by omega)))
      clear hown hB hgl hCl hmem htake
      go_wp2_with fail
      refine ht.mono ?_
      rintro e w5 ⟨v', rfl, hS2, hB5⟩
      clear ht
      have HO := Lib.hid (⟨row_base hS2 (by omega), HB.out.trans (hB5.mono (by omega))⟩ : w5.ownsRow w.heap.size 9 1 v' _ _ ∧ _)
      clear hB5
      obtain ⟨-, ⟨rfl, -⟩ | ⟨g3, cap3, cur3, rfl, -⟩⟩ := hS2
      · go_wp2_with fail
        go_ret
        exact ⟨K, _, hK, HG.out.2.2.2.1, rfl, HO.out.1, HO.out.2⟩
      · go_wp2_with fail
        go_ret
        exact ⟨K, _, hK, HG.out.2.2.2.1, rfl, HO.out.1, HO.out.2⟩

set_option maxHeartbeats 2000000 in
set_option maxRecDepth 100000 in
theorem least3_any (nets : Nat) (hn1 : 1 ≤ nets) (hn2 : nets ≤ 100) (w : World) (hT : Tz w) : Calls Tryz.prog 20 #[.int .i64 (nets : Int), .int .i64 3] w fun e w' => ∃ k : Nat, k ≤ 9 ∧ Least 3 nets k ∧ e = .returned (.int .i64 (k : Int)) ∧ Below w.heap.size w w' := by
  have HT := Lib.hid hT
  have HR := Lib.hid (fun k hk W hW => rcodes3_any k nets hk hn1 hn2 W hW)
  clear hT
  go_enter Tryz.func20, Tryz.ntmps20
  go_wp2_with fail
  go_loopw [5] (fun i wr => ∃ k : Nat, k ≤ 9 ∧ i = .int .i64 (k : Int) ∧ (∀ j, j < k → (codesL 3 j).length < nets) ∧ Below w.heap.size w wr) (fun i _ => 9 - (intOf i).toNat)
  case atStart => exact ⟨0, by omega, rfl, fun j hj => absurd hj (by omega), Below.refl _ _⟩
  case round =>
    obtain ⟨k, hk, rfl, hlow, hB⟩ := hrel
    have hr := HR.out k hk wr (HT.out.below hB HT.out.lt)
    have hb := hB.size
    have H := Lib.hid (⟨hlow, hB⟩ : _ ∧ _)
    clear hlow hB
    go_wp2_with fail
    refine hr.mono ?_
    rintro e w2 ⟨v, rfl, hv, hB2⟩
    clear hr
    have hBn := H.out.2.trans (hB2.mono hb)
    obtain ⟨L, hL⟩ : ∃ L, L = ((codesL 3 k).take nets).length := ⟨_, rfl⟩
    have hL2 := hL
    rw [List.length_take] at hL2
    obtain ⟨hz, ⟨rfl, h0⟩ | ⟨g, cap, cur, rfl, -⟩⟩ := hv
    · have h9 : k < 9 := by
        rcases Nat.lt_or_ge k 9 with h | h
        · exact h
        · obtain rfl : k = 9 := by omega
          have := codes_nine 3 (by decide) (by decide)
          omega
      have hl : (codesL 3 k).length < nets := by omega
      have hp : (0 : Int) < (nets : Int) := by omega
      have HB := Lib.hid (⟨hl, hBn⟩ : _ ∧ _)
      clear hl hBn hL hL2 h0 hz hB2
      go_wp2_with fail
      go_roundw
      case rel => exact ⟨k + 1, by omega, by go_num, fun j hj => by
        by_cases e : j = k
        · subst e; exact HB.out.1
        · exact H.out.1 j (by omega), HB.out.2⟩
      case measure => simp [intOf]; omega
    · rw [← hL]
      by_cases hlt : L < nets
      · have h9 : k < 9 := by
          rcases Nat.lt_or_ge k 9 with h | h
          · exact h
          · obtain rfl : k = 9 := by omega
            have := codes_nine 3 (by decide) (by decide)
            omega
        have hl : (codesL 3 k).length < nets := by omega
        have hp : (L : Int) < (nets : Int) := by omega
        have HB := Lib.hid (⟨hl, hBn⟩ : _ ∧ _)
        clear hl hBn hL hL2 hz hB2 hlt
        go_wp2_with fail
        go_roundw
        case rel => exact ⟨k + 1, by omega, by go_num, fun j hj => by
          by_cases e : j = k
          · subst e; exact HB.out.1
          · exact H.out.1 j (by omega), HB.out.2⟩
        case measure => simp [intOf]; omega
      · have hl : nets ≤ (codesL 3 k).length := by omega
        have hp : ¬ (L : Int) < (nets : Int) := by omega
        have HB := Lib.hid (⟨hl, hBn⟩ : _ ∧ _)
        clear hl hBn hL hL2 hz hB2 hlt
        go_wp2_with fail
        go_ret
        exact ⟨k, hk, ⟨HB.out.1, H.out.1⟩, rfl, HB.out.2⟩

set_option maxHeartbeats 2000000 in
set_option maxRecDepth 100000 in
theorem generated3_any (nets : Nat) (hn1 : 1 ≤ nets) (hn2 : nets ≤ 100) (w : World) (hT : Tz w) : Calls Tryz.prog 21 #[.int .i64 (nets : Int), .int .i64 3] w fun e w' => ∃ (k : Nat) (v : Value), k ≤ 9 ∧ Least 3 nets k ∧ e = .returned v ∧ StrsAt w.heap.size w' v (turnL (genS 3 nets k) k) ∧ Below w.heap.size w w' := by
  obtain ⟨i0, hi, hz0, hz1, hz2⟩ := info_parts Tryz.infoStrv
  have hle := least3_any nets hn1 hn2 w hT
  have HT := Lib.hid hT
  clear hT
  go_enter Tryz.func21, Tryz.ntmps21
  go_wp2_with fail
  refine hle.mono ?_
  rintro e w1 ⟨K, hK, hLeast, rfl, hB1⟩
  clear hle
  have hr := rcodes3_any K nets hK hn1 hn2 w1 (HT.out.below hB1 HT.out.lt)
  go_wp2_with fail
  refine hr.mono ?_
  rintro e w2 ⟨v, rfl, hv, hB2⟩
  clear hr
  have hBw2 := hB1.trans (hB2.mono hB1.size)
  obtain ⟨CL, hCL⟩ : ∃ CL, CL = (codesL 3 K).take nets := ⟨_, rfl⟩
  have hmem : ∀ n, n ∈ CL → n < 2 ^ K := fun n hn => codes_mem (by rw [← hCL]; exact hn)
  have hgl : genS 3 nets K = CL.map (digL · K) := by unfold genS; rw [hCL]
  have hCl : CL.length = nets := by rw [hCL, List.length_take]; have := hLeast.1; omega
  rw [← hCL] at hv
  have hrow : w2.ownsRow w1.heap.size 3 1 v CL.length (CL.map natV) := hv
  have HROW := Lib.hid hrow
  obtain ⟨-, ⟨rfl, h0⟩ | ⟨g, cap, cur, rfl, -, hg, -⟩⟩ := hv
  · omega
  have hgl2 : g < w2.heap.size := (Array.getElem?_eq_some_iff.1 hg).1
  have hgetS : ∀ k (hk : k < nets), w2.cell? ⟨g, k, none⟩ = some (.int .i64 ((CL.getD k 0 : Nat) : Int)) ∧ CL.getD k 0 < 2 ^ K ∧ CL.take (k + 1) = CL.take k ++ [CL.getD k 0] := fun k hk => by
    have hk2 : k < CL.length := by omega
    have e : CL.getD k 0 = CL[k] := by simp [List.getD, hk2]
    refine ⟨?_, ?_, ?_⟩
    · rw [HROW.out.cellAt k (by omega)]
      simp [List.getD, hk2, natV]
    · rw [e]
      exact hmem _ (List.getElem_mem hk2)
    · rw [e, List.take_add_one, List.getElem?_eq_getElem hk2]
      rfl
  have HG := Lib.hid (⟨hgetS, hgl, hCl, hLeast, hBw2, hmem⟩ : _ ∧ _ ∧ _ ∧ _ ∧ _ ∧ _)
  rw [hCl]
  have hb12 := hB2.size
  have hb1 := hB1.size
  have HDG := Lib.hid (fun n hn W hW => digitsOf_any n K hK hn W hW)
  have HTw := Lib.hid ((HT.out.below hBw2 HT.out.lt))
  clear hgetS hgl hCl hLeast hBw2 hmem hCL hrow HROW hg hB1 hB2
  go_wp2_with fail
  go_loopw [6, 17] (fun vv i wr => ∃ (k : Nat) (v : Value), k ≤ nets ∧ v = vv ∧ i = .int .i64 (k : Int) ∧ StrsAt w2.heap.size wr v ((CL.take k).map (digL · K)) ∧ Below w2.heap.size w2 wr) (fun _ i _ => nets - (intOf i).toNat)
  case atStart => exact ⟨0, _, by omega, rfl, rfl, World.ownsRow_nil _ _ _ _, Below.refl _ _⟩
  case round =>
    obtain ⟨k, v, hk, rfl, rfl, hown, hB⟩ := hrel
    by_cases hlt : k < nets
    · obtain ⟨hc0, hx, htk⟩ := HG.out.1 k hlt
      have hc := (hB.cell (p := ⟨g, k, none⟩) hgl2).trans hc0
      have hs := HDG.out _ hx wr (HTw.out.below hB HTw.out.lt)
      have hsucc : (CL.take (k + 1)).map (digL · K) = (CL.take k).map (digL · K) ++ [digL (CL.getD k 0) K] := by rw [htk, List.map_append]; rfl
      have hlen : ((CL.take k).map (digL · K)).length = k := by rw [List.length_map, List.length_take, HG.out.2.2.1]; omega
      have hrow : wr.ownsRow w2.heap.size 9 1 v ((CL.take k).map (digL · K)).length (((CL.take k).map (digL · K)).map strV) := hown
      rw [hlen] at hrow
      have HR := Lib.hid hrow
      have HS := Lib.hid hsucc
      clear hown hrow hsucc hlen hc0 hx htk
      generalize digL (CL.getD k 0) K = sk at hs HS
      generalize CL.getD k 0 = x at hs hc
      have hki0 : (0 : Int) ≤ (k : Int) := by omega
      have hki1 : (k : Int) < (nets : Int) := by omega
      have hb2 := hB.size
      go_wp2_with fail
      refine hs.mono ?_
      rintro e w3 ⟨rfl, hB3⟩
      clear hs hc
      have hrow2 := row_later HR.out hB3
      have hb3 := hB3.size
      go_wp2_with (at_builtin; refine wpList_append_own _ rfl _ _ 31 rfl w2.heap.size 9 i0 (.string ⟨#[]⟩) 1 16 Tryz.underlying31 hi hz0 hz1 hz2 rfl (by decide) _ _ _ rfl (hrow2.alloc _) ⟨w3.heap.size, 0, none⟩ 1 1 [strV sk] rfl rfl ?c1 ?c2 ?c3 ?c4 ?c5 ?_)
      case c1 => exact cell_one_new _ _ _
      case c2 => simp [Value.oneCell']
      case c3 => unfold maxLen; omega
      case c4 => omega
      case c5 => simp; omega
      intro v' w4 hown' hg4 _
      have hBw3 := hB.trans (hB3.mono hb2)
      have hB4 : Below w2.heap.size w2 w4 := (hBw3.alloc (by omega) _).grown hg4 (by simp; omega) (fun j hj => (hrow2.lt j hj).1)
      have HO := Lib.hid (⟨hown', hB4⟩ : _ ∧ _)
      clear hown' hB4 hg4 hBw3 hrow2 hB3
      have hmin : min k CL.length = k := by
        have := HG.out.2.2.1
        omega
      have HM := Lib.hid hmin
      clear hmin
      go_wp2_with fail
      go_roundw
      case rel => exact ⟨k + 1, _, by omega, rfl, by go_num, by rw [HS.out]; unfold StrsAt; have h := HO.out.1; simpa [HM.out] using h, HO.out.2⟩
      case measure => simp [intOf]; omega
    · obtain rfl : k = nets := by omega
      obtain ⟨-, hgl, hCl, -, -, hmem⟩ := HG.out
      have htake : CL.take k = CL := by rw [List.take_of_length_le]; omega
      rw [htake] at hown
      have ht := rvectors_any (CL.map (digL · K)) K (by rw [List.length_map]; omega) (by rw [List.length_map]; omega) (by omega) (fun s hs => by
        obtain ⟨j, hj, rfl⟩ := List.mem_map.1 hs
        exact digL_len _ _) w2.heap.size wr v hown
      rw [← hgl] at ht
      have hb3 := hB.size
      have HB := Lib.hid (HG.out.2.2.2.2.1.trans (hB.mono (by omega)))
      clear hown hB hgl hCl hmem htake
      go_wp2_with fail
      refine ht.mono ?_
      rintro e w5 ⟨v', rfl, hS2, hB5⟩
      clear ht
      have HO := Lib.hid (⟨row_base hS2 (by omega), HB.out.trans (hB5.mono (by omega))⟩ : w5.ownsRow w.heap.size 9 1 v' _ _ ∧ _)
      clear hB5
      obtain ⟨-, ⟨rfl, -⟩ | ⟨g3, cap3, cur3, rfl, -⟩⟩ := hS2
      · go_wp2_with fail
        go_ret
        exact ⟨K, _, hK, HG.out.2.2.2.1, rfl, HO.out.1, HO.out.2⟩
      · go_wp2_with fail
        go_ret
        exact ⟨K, _, hK, HG.out.2.2.2.1, rfl, HO.out.1, HO.out.2⟩

theorem countingOf_any (nets : Nat) (hn1 : 1 ≤ nets) (hn2 : nets ≤ 100) (w : World) (hT : Tz w) : Calls Tryz.prog 16 #[.int .i64 (nets : Int)] w fun e w' => ∃ (k : Nat) (v : Value), k ≤ 9 ∧ Least 2 nets k ∧ e = .returned v ∧ StrsAt w.heap.size w' v (turnL (genS 2 nets k) k) ∧ Below w.heap.size w w' := by
  have h := generated2_any nets hn1 hn2 w hT
  go_enter Tryz.func16, Tryz.ntmps16
  go_wp2_with fail
  refine h.mono ?_
  rintro e w' ⟨k, v, hk, hL, rfl, hS, hB⟩
  have HO := Lib.hid (⟨hk, hL, hS, hB⟩ : _ ∧ _ ∧ _ ∧ _)
  clear hk hL hB
  obtain ⟨-, ⟨rfl, -⟩ | ⟨g3, cap3, cur3, rfl, -⟩⟩ := hS
  · go_wp2_with fail
    go_ret
    exact ⟨k, _, HO.out.1, HO.out.2.1, rfl, HO.out.2.2⟩
  · go_wp2_with fail
    go_ret
    exact ⟨k, _, HO.out.1, HO.out.2.1, rfl, HO.out.2.2⟩
end Go.Proofs.YtlcknglnpcggaaaGreatDoor
