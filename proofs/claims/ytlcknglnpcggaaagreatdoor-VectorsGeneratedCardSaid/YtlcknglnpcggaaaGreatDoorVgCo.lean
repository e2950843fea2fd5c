/- The reference's ComplementedOf. -/
import Derived.Test.YtlcknglnpcggaaaGreatDoorVgLo
namespace Go.Proofs.YtlcknglnpcggaaaGreatDoor
open Go.RowKit

theorem cLen_pow : ∀ nets, nets < 101 → 1 ≤ nets → nets ≤ 2 ^ cLen nets ∧ ∀ j, j < 8 → 1 ≤ j → j < cLen nets → 2 ^ j < nets := by decide +kernel
set_option maxHeartbeats 2000000 in
set_option maxRecDepth 100000 in
theorem complementedOf_any (nets : Nat) (hn1 : 1 ≤ nets) (hn2 : nets ≤ 100) (w : World) (hT : Tz w) (hU : U8T w) : Calls Tryz.prog 17 #[.int .i64 (nets : Int)] w fun e w' => ∃ v : Value, e = .returned v ∧ StrsAt w.heap.size w' v (turnL (compS nets) (2 * cLen nets)) ∧ Below w.heap.size w w' := by
  obtain ⟨i0, hi, hz0, hz1, hz2⟩ := info_parts Tryz.infoStrv
  obtain ⟨hc1, hc8⟩ := cLen_le nets (by omega)
  obtain ⟨hp1, hp2⟩ := cLen_pow nets (by omega) hn1
  obtain ⟨c, hc0⟩ : ∃ c, c = cLen nets := ⟨_, rfl⟩
  have hcS : compS nets = (List.range nets).map (fun n => compL n c) := by unfold compS; rw [hc0]
  rw [← hc0] at hc1 hc8 hp1 hp2 ⊢
  rw [hcS]
  have HT := Lib.hid hT
  have HU := Lib.hid hU
  have HP := Lib.hid (⟨hp1, hp2⟩ : _ ∧ _)
  have hdg := fun n (hn : n < nets) W hW => digitsOf_any n c (by omega) (by omega) W hW
  have hiv := fun n (hn : n < nets) W hW => rinverted_any n c hc8 (by omega) W hW
  have HDG := Lib.hid (⟨hdg, hiv⟩ : _ ∧ _)
  clear hT hU hc0 hcS hp1 hp2 hdg hiv
  go_enter Tryz.func17, Tryz.ntmps17
  go_wp2_with fail
  go_loopw [3] (fun i wr => ∃ k : Nat, 1 ≤ k ∧ k ≤ c ∧ i = .int .i64 (k : Int) ∧ w = wr) (fun i _ => c - (intOf i).toNat)
  case atStart => exact ⟨1, by omega, by omega, rfl, rfl⟩
  case round =>
    obtain ⟨k, hk1, hk, rfl, rfl⟩ := hrel
    obtain ⟨m, hm⟩ : ∃ m, m = 2 ^ k := ⟨_, rfl⟩
    have hm2 : m ≤ 512 := by rw [hm]; exact pow_nine k (by omega)
    have hsh : IntKind.i64.wrap (2 ^ k) = (m : Int) := by
      have : ((2 : Int) ^ k) = ((2 ^ k : Nat) : Int) := by simp
      rw [this, ← hm, IntWalk.i64_in _ (by omega)]
    have hk0 : (0 : Int) ≤ (k : Int) := by omega
    have hk9 : (k : Int) ≤ 9 := by omega
    by_cases hlt : k < c
    · have := HP.out.2 k (by omega) hk1 hlt
      rw [← hm] at this
      have hl : (m : Int) < (nets : Int) := by omega
      clear hm this
      go_wp2_with fail
      go_roundw
      case rel => exact ⟨k + 1, by omega, by omega, by go_num, trivial⟩
      case measure => simp [intOf]; omega
    · obtain rfl : k = c := by omega
      have := HP.out.1
      rw [← hm] at this
      have hl : ¬ (m : Int) < (nets : Int) := by omega
      clear hm this
      go_wp2_with fail
      go_loopw [4, 13] (fun vv i wr => ∃ (j : Nat) (v : Value), j ≤ nets ∧ v = vv ∧ i = .int .i64 (j : Int) ∧ StrsAt w.heap.size wr v ((List.range j).map (fun n => compL n k)) ∧ Below w.heap.size w wr) (fun _ i _ => nets - (intOf i).toNat)
      case atStart => exact ⟨0, _, by omega, rfl, rfl, World.ownsRow_nil _ _ _ _, Below.refl _ _⟩
      case round =>
        obtain ⟨j, v, hj, rfl, rfl, hown, hB⟩ := hrel
        by_cases hlt2 : j < nets
        · have hd := fun W hW => HDG.out.1 j hlt2 W hW
          have hv := fun W hW => HDG.out.2 j hlt2 W hW
          have hsucc : (List.range (j + 1)).map (fun n => compL n k) = (List.range j).map (fun n => compL n k) ++ [compL j k] := by rw [List.range_succ, List.map_append]; rfl
          have hlen : ((List.range j).map (fun n => compL n k)).length = j := by simp
          have hrow : wr.ownsRow w.heap.size 9 1 v ((List.range j).map (fun n => compL n k)).length (((List.range j).map (fun n => compL n k)).map strV) := hown
          rw [hlen] at hrow
          have hcat : (⟨(digL j k).toArray⟩ : ByteArray) ++ ⟨(invL j k).toArray⟩ = ⟨(compL j k).toArray⟩ := strs_append _ _
          unfold strV at hd hv
          have hzd : (⟨(digL j k).toArray⟩ : ByteArray).size = k := by
            show (digL j k).toArray.size = k
            rw [List.size_toArray, digL_len]
          have hzi : (⟨(invL j k).toArray⟩ : ByteArray).size = k := by
            show (invL j k).toArray.size = k
            unfold invL
            rw [List.size_toArray, List.length_map, digL_len]
          obtain ⟨sd, hsd⟩ : ∃ sd, sd = (⟨(digL j k).toArray⟩ : ByteArray) := ⟨_, rfl⟩
          obtain ⟨si, hsi⟩ : ∃ si, si = (⟨(invL j k).toArray⟩ : ByteArray) := ⟨_, rfl⟩
          rw [← hsd] at hd hv hcat hzd
          rw [← hsi] at hv hcat hzi
          have hcs : ¬ 9223372036854775807 < sd.size + si.size := by omega
          have HR := Lib.hid hrow
          have HS := Lib.hid (⟨hsucc, hcat⟩ : _ ∧ _)
          have HV := Lib.hid hv
          have HD := Lib.hid hd
          have hd1 := hd wr (HT.out.below hB HT.out.lt)
          clear hown hrow hsucc hlen hcat hv hd hsd hsi hzd hzi
          have hb1 := hB.size
          go_wp2_with fail
          refine hd1.mono ?_
          rintro e w2 ⟨rfl, hB2⟩
          clear hd1
          have hBa := hB.trans (hB2.mono hb1)
          have hd2 := HD.out w2 (HT.out.below hBa HT.out.lt)
          go_wp2_with fail
          refine hd2.mono ?_
          rintro e w3 ⟨rfl, hB3⟩
          clear hd2
          have hBb := hBa.trans (hB3.mono hBa.size)
          have hv3 := HV.out w3 (HU.out.below hBb HU.out.lt.1 HU.out.lt.2)
          go_wp2_with fail
          refine hv3.mono ?_
          rintro e w4 ⟨rfl, hB4⟩
          clear hv3
          have hBc := hBb.trans (hB4.mono hBb.size)
          have hrow2 := row_later (row_later (row_later HR.out hB2) hB3) hB4
          have hb4 := hBc.size
          clear hBa hBb hB2 hB3 hB4 hB
          go_wp2_with (at_builtin; refine wpList_append_own _ rfl _ _ 31 rfl w.heap.size 9 i0 (.string ⟨#[]⟩) 1 16 Tryz.underlying31 hi hz0 hz1 hz2 rfl (by decide) _ _ _ rfl (hrow2.alloc _) ⟨w4.heap.size, 0, none⟩ 1 1 [.string (sd ++ si)] rfl rfl ?c1 ?c2 ?c3 ?c4 ?c5 ?_)
          case c1 => exact cell_one_new _ _ _
          case c2 => simp [Value.oneCell']
          case c3 => unfold maxLen; omega
          case c4 => omega
          case c5 => simp; omega
          intro v' w5 hown' hg5 _
          have hB5 : Below w.heap.size w w5 := (hBc.alloc (by omega) _).grown hg5 (by simp; omega) (fun j hj => (hrow2.lt j hj).1)
          rw [HS.out.2] at hown'
          have HO := Lib.hid (⟨hown', hB5⟩ : _ ∧ _)
          clear hown' hB5 hg5 hBc hrow2
          go_wp2_with fail
          go_roundw
          case rel => exact ⟨j + 1, _, by omega, rfl, by go_num, by rw [HS.out.1]; unfold StrsAt; have h := HO.out.1; simpa using h, HO.out.2⟩
          case measure => simp [intOf]; omega
        · obtain rfl : j = nets := by omega
          have ht := rvectors_any ((List.range j).map (fun n => compL n k)) (2 * k) (by simp; omega) (by simp; omega) (by omega) (fun s hs => by
            obtain ⟨x, hx, rfl⟩ := List.mem_map.1 hs
            exact compL_len _ _) w.heap.size wr v hown
          have hb3 := hB.size
          have HB := Lib.hid hB
          clear hown hB
          go_wp2_with fail
          refine ht.mono ?_
          rintro e w5 ⟨v', rfl, hS2, hB5⟩
          clear ht
          have HO := Lib.hid (⟨row_base hS2 (by omega), HB.out.trans (hB5.mono (by omega))⟩ : w5.ownsRow w.heap.size 9 1 v' _ _ ∧ _)
          clear hB5
          obtain ⟨-, ⟨rfl, -⟩ | ⟨g3, cap3, cur3, rfl, -⟩⟩ := hS2
          · go_wp2_with fail
            go_ret
            exact ⟨_, rfl, HO.out.1, HO.out.2⟩
          · go_wp2_with fail
            go_ret
            exact ⟨_, rfl, HO.out.1, HO.out.2⟩
end Go.Proofs.YtlcknglnpcggaaaGreatDoor
