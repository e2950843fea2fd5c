/- The reference's WalkingOf. -/
import Derived.Test.YtlcknglnpcggaaaGreatDoorVgCo
namespace Go.Proofs.YtlcknglnpcggaaaGreatDoor
open Go.RowKit

theorem walkL_get (nets bit k c : Nat) (hk : k < nets) (hc : c < nets) : (walkL nets bit k).getD c 0 = if c = k then (if bit = 0 then 48 else 49) else (if bit = 0 then 49 else 48) := by
  unfold walkL
  rw [List.append_assoc, List.getD_eq_getElem?_getD, List.getElem?_append, List.length_replicate]
  by_cases h1 : c < k
  · rw [if_pos h1, List.getElem?_replicate, if_pos h1, if_neg (show ¬ c = k by omega)]
    rfl
  · rw [if_neg h1]
    by_cases h2 : c = k
    · subst h2
      rw [if_pos rfl, Nat.sub_self]
      rfl
    · rw [if_neg h2]
      obtain ⟨d, hd⟩ : ∃ d, c - k = d + 1 := ⟨c - k - 1, by omega⟩
      rw [hd]
      show ((List.replicate (nets - 1 - k) _)[d]?).getD 0 = _
      rw [List.getElem?_replicate, if_pos (by omega)]
      rfl
/-- The walking vectors are their own columns. -/
theorem walk_sym (nets bit : Nat) (_ : nets ≤ 1000) : turnL (walkS nets bit) nets = walkS nets bit := by
  unfold turnL walkS
  apply List.ext_getElem
  · simp
  · intro c h1 h2
    have hc : c < nets := by simpa using h1
    simp only [List.getElem_map, List.getElem_range, List.map_map]
    apply List.ext_getElem
    · simp [walkL_len nets bit c hc]
    · intro k h3 h4
      have hk : k < nets := by simpa using h3
      simp only [List.getElem_map, List.getElem_range, Function.comp]
      have e : (walkL nets bit c)[k] = (walkL nets bit c).getD k 0 := by
        rw [List.getD_eq_getElem?_getD, List.getElem?_eq_getElem h4]
        rfl
      rw [e, walkL_get nets bit k c hk hc, walkL_get nets bit c k hc hk]
      by_cases h : c = k
      · subst h; rfl
      · rw [if_neg h, if_neg (show ¬ k = c from fun h2 => h h2.symm)]

theorem itoa0_any (w : World) : Calls Tryz.prog 38 #[.int .i64 0] w fun e w' => e = .returned (.string ⟨#[48]⟩) ∧ w = w' := by
  have h := Tryz.strconv_Itoa_small 0 (by decide) w
  have e : Lib.decDigits 0 = [48] := by decide +kernel
  rw [e] at h
  exact h.mono fun e w' hh => ⟨hh.1, hh.2.symm⟩

theorem itoa1_any (w : World) : Calls Tryz.prog 38 #[.int .i64 1] w fun e w' => e = .returned (.string ⟨#[49]⟩) ∧ w = w' := by
  have h := Tryz.strconv_Itoa_small 1 (by decide) w
  have e : Lib.decDigits 1 = [49] := by decide +kernel
  rw [e] at h
  exact h.mono fun e w' hh => ⟨hh.1, hh.2.symm⟩

set_option maxHeartbeats 2000000 in
set_option maxRecDepth 100000 in
theorem walkingOf0_any (nets : Nat) (hn1 : 1 ≤ nets) (hn2 : nets ≤ 100) (w : World) : Calls Tryz.prog 18 #[.int .i64 (nets : Int), .int .i64 0] w fun e w' => ∃ v : Value, e = .returned v ∧ StrsAt w.heap.size w' v (turnL (walkS nets 0) nets) ∧ Below w.heap.size w w' := by
  have hflip : turnL (walkS nets 0) nets = walkS nets 0 := walk_sym nets 0 (by omega)
  rw [hflip]
  unfold walkS
  obtain ⟨i0, hi, hz0, hz1, hz2⟩ := info_parts Tryz.infoStrv
  have hi1 := itoa0_any
  have hi2 := itoa1_any
  clear hflip
  go_enter Tryz.func18, Tryz.ntmps18
  go_wp2_with fail
  refine (hi1 _).mono ?_
  rintro e w' ⟨rfl, rfl⟩
  clear hi1
  go_wp2_with fail
  refine (hi2 _).mono ?_
  rintro e w2 ⟨rfl, rfl⟩
  clear hi2
  go_wp2_with fail
  go_loopw [7, 15] (fun vv i wr => ∃ (j : Nat) (v : Value), j ≤ nets ∧ v = vv ∧ i = .int .i64 (j : Int) ∧ StrsAt w.heap.size wr v ((List.range j).map (walkL nets 0)) ∧ Below w.heap.size w wr) (fun _ i _ => nets - (intOf i).toNat)
  case atStart => exact ⟨0, _, by omega, rfl, rfl, World.ownsRow_nil _ _ _ _, Below.refl _ _⟩
  case round =>
    obtain ⟨j, v, hj, rfl, rfl, hown, hB⟩ := hrel
    by_cases hlt2 : j < nets
    · have hsucc : (List.range (j + 1)).map (walkL nets 0) = (List.range j).map (walkL nets 0) ++ [walkL nets 0 j] := by rw [List.range_succ, List.map_append]; rfl
      have hlen : ((List.range j).map (walkL nets 0)).length = j := by simp
      have hrow : wr.ownsRow w.heap.size 9 1 v ((List.range j).map (walkL nets 0)).length (((List.range j).map (walkL nets 0)).map strV) := hown
      rw [hlen] at hrow
      obtain ⟨r1, hr1⟩ : ∃ r1, r1 = (⟨(List.replicate j (49 : UInt8)).toArray⟩ : ByteArray) := ⟨_, rfl⟩
      obtain ⟨r2, hr2⟩ : ∃ r2, r2 = (⟨(List.replicate (nets - 1 - j) (49 : UInt8)).toArray⟩ : ByteArray) := ⟨_, rfl⟩
      have z1 : r1.size = j := by rw [hr1]; show (List.replicate j (49 : UInt8)).toArray.size = j; simp
      have z2 : r2.size = nets - 1 - j := by rw [hr2]; show (List.replicate (nets - 1 - j) (49 : UInt8)).toArray.size = _; simp
      have hres : r1 ++ ⟨#[48]⟩ ++ r2 = ⟨(walkL nets 0 j).toArray⟩ := by
        rw [hr1, hr2]
        have := strs_append (List.replicate j (49 : UInt8)) [48]
        rw [show (⟨#[48]⟩ : ByteArray) = ⟨([48] : List UInt8).toArray⟩ from rfl, this, strs_append]
        rfl
      have hrep1 := repeat_one 49 j (by omega) wr
      have hrep2 := fun W => repeat_one 49 (nets - 1 - j) (by omega) W
      rw [← hr1] at hrep1
      rw [← hr2] at hrep2
      rw [show ((nets - 1 - j : Nat) : Int) = (nets : Int) - 1 - (j : Int) from by omega] at hrep2
      have hc1 : ¬ 9223372036854775807 < r1.size + 1 := by omega
      have hc2 : ¬ 9223372036854775807 < (r1 ++ ⟨#[48]⟩).size + r2.size := by
        rw [show (r1 ++ ⟨#[48]⟩ : ByteArray).size = r1.size + 1 from ByteArray.size_append]
        omega
      have hc3 : ¬ 9223372036854775807 < r1.size + 1 + r2.size := by omega
      have hn3 : (1 : Int) ≤ (nets : Int) := by omega
      have hn4 : (nets : Int) ≤ 100 := by omega
      have hj0 : (0 : Int) ≤ (j : Int) := by omega
      have hj1 : (j : Int) < (nets : Int) := by omega
      have hj3 : (0 : Int) ≤ (nets : Int) - 1 - (j : Int) := by omega
      have HR := Lib.hid hrow
      have HS := Lib.hid (⟨hsucc, hres⟩ : _ ∧ _)
      clear hown hrow hsucc hlen hr1 hr2 z1 z2 hres
      have hb1 := hB.size
      go_wp2_with fail
      refine hrep1.mono ?_
      rintro e w3 ⟨rfl, hB3⟩
      clear hrep1
      have hBa := hB.trans (hB3.mono hb1)
      go_wp2_with fail
      refine (hrep2 _).mono ?_
      rintro e w4 ⟨rfl, hB4⟩
      clear hrep2
      have hBc := hBa.trans (hB4.mono hBa.size)
      have hrow2 := row_later (row_later HR.out hB3) hB4
      have hb4 := hBc.size
      clear hBa hB3 hB4 hB
      go_wp2_with (at_builtin; refine wpList_append_own _ rfl _ _ 31 rfl w.heap.size 9 i0 (.string ⟨#[]⟩) 1 16 Tryz.underlying31 hi hz0 hz1 hz2 rfl (by decide) _ _ _ rfl (hrow2.alloc _) ⟨w4.heap.size, 0, none⟩ 1 1 [.string (r1 ++ ⟨#[48]⟩ ++ r2)] rfl rfl ?c1 ?c2 ?c3 ?c4 ?c5 ?_)
      case c1 => exact cell_one_new _ _ _
      case c2 => simp [Value.oneCell']
      case c3 => unfold maxLen; omega
      case c4 => omega
      case c5 => simp; omega
      intro v' w5 hown' hg5 _
      have hB5 : Below w.heap.size w w5 := (hBc.alloc (by omega) _).grown hg5 (by simp; omega) (fun j hj => (hrow2.lt j hj).1)
      rw [HS.out.2] at hown'
      have HO := Lib.hid (⟨hown', hB5⟩ : _ ∧ _)
      clear hown' hB5 hg5 hBc hrow2
      go_wp2_with fail
      go_roundw
      case rel => exact ⟨j + 1, _, by omega, rfl, by go_num, by rw [HS.out.1]; unfold StrsAt; have h := HO.out.1; simpa using h, HO.out.2⟩
      case measure => simp [intOf]; omega
    · obtain rfl : j = nets := by omega
      have HO := Lib.hid (⟨hown, hB⟩ : _ ∧ _)
      clear hB
      obtain ⟨-, ⟨rfl, -⟩ | ⟨g3, cap3, cur3, rfl, -⟩⟩ := hown
      · go_wp2_with fail
        go_ret
        exact ⟨_, rfl, HO.out.1, HO.out.2⟩
      · go_wp2_with fail
        go_ret
        exact ⟨_, rfl, HO.out.1, HO.out.2⟩

set_option maxHeartbeats 2000000 in
set_option maxRecDepth 100000 in
theorem walkingOf1_any (nets : Nat) (hn1 : 1 ≤ nets) (hn2 : nets ≤ 100) (w : World) : Calls Tryz.prog 18 #[.int .i64 (nets : Int), .int .i64 1] w fun e w' => ∃ v : Value, e = .returned v ∧ StrsAt w.heap.size w' v (turnL (walkS nets 1) nets) ∧ Below w.heap.size w w' := by
  have hflip : turnL (walkS nets 1) nets = walkS nets 1 := walk_sym nets 1 (by omega)
  rw [hflip]
  unfold walkS
  obtain ⟨i0, hi, hz0, hz1, hz2⟩ := info_parts Tryz.infoStrv
  have hi1 := itoa1_any
  have hi2 := itoa0_any
  clear hflip
  go_enter Tryz.func18, Tryz.ntmps18
  go_wp2_with fail
  refine (hi1 _).mono ?_
  rintro e w' ⟨rfl, rfl⟩
  clear hi1
  go_wp2_with fail
  refine (hi2 _).mono ?_
  rintro e w2 ⟨rfl, rfl⟩
  clear hi2
  go_wp2_with fail
  go_loopw [7, 15] (fun vv i wr => ∃ (j : Nat) (v : Value), j ≤ nets ∧ v = vv ∧ i = .int .i64 (j : Int) ∧ StrsAt w.heap.size wr v ((List.range j).map (walkL nets 1)) ∧ Below w.heap.size w wr) (fun _ i _ => nets - (intOf i).toNat)
  case atStart => exact ⟨0, _, by omega, rfl, rfl, World.ownsRow_nil _ _ _ _, Below.refl _ _⟩
  case round =>
    obtain ⟨j, v, hj, rfl, rfl, hown, hB⟩ := hrel
    by_cases hlt2 : j < nets
    · have hsucc : (List.range (j + 1)).map (walkL nets 1) = (List.range j).map (walkL nets 1) ++ [walkL nets 1 j] := by rw [List.range_succ, List.map_append]; rfl
      have hlen : ((List.range j).map (walkL nets 1)).length = j := by simp
      have hrow : wr.ownsRow w.heap.size 9 1 v ((List.range j).map (walkL nets 1)).length (((List.range j).map (walkL nets 1)).map strV) := hown
      rw [hlen] at hrow
      obtain ⟨r1, hr1⟩ : ∃ r1, r1 = (⟨(List.replicate j (48 : UInt8)).toArray⟩ : ByteArray) := ⟨_, rfl⟩
      obtain ⟨r2, hr2⟩ : ∃ r2, r2 = (⟨(List.replicate (nets - 1 - j) (48 : UInt8)).toArray⟩ : ByteArray) := ⟨_, rfl⟩
      have z1 : r1.size = j := by rw [hr1]; show (List.replicate j (48 : UInt8)).toArray.size = j; simp
      have z2 : r2.size = nets - 1 - j := by rw [hr2]; show (List.replicate (nets - 1 - j) (48 : UInt8)).toArray.size = _; simp
      have hres : r1 ++ ⟨#[49]⟩ ++ r2 = ⟨(walkL nets 1 j).toArray⟩ := by
        rw [hr1, hr2]
        have := strs_append (List.replicate j (48 : UInt8)) [49]
        rw [show (⟨#[49]⟩ : ByteArray) = ⟨([49] : List UInt8).toArray⟩ from rfl, this, strs_append]
        rfl
      have hrep1 := repeat_one 48 j (by omega) wr
      have hrep2 := fun W => repeat_one 48 (nets - 1 - j) (by omega) W
      rw [← hr1] at hrep1
      rw [← hr2] at hrep2
      rw [show ((nets - 1 - j : Nat) : Int) = (nets : Int) - 1 - (j : Int) from by omega] at hrep2
      have hc1 : ¬ 9223372036854775807 < r1.size + 1 := by omega
      have hc2 : ¬ 9223372036854775807 < (r1 ++ ⟨#[49]⟩).size + r2.size := by
        rw [show (r1 ++ ⟨#[49]⟩ : ByteArray).size = r1.size + 1 from ByteArray.size_append]
        omega
      have hc3 : ¬ 9223372036854775807 < r1.size + 1 + r2.size := by omega
      have hn3 : (1 : Int) ≤ (nets : Int) := by omega
      have hn4 : (nets : Int) ≤ 100 := by omega
      have hj0 : (0 : Int) ≤ (j : Int) := by omega
      have hj1 : (j : Int) < (nets : Int) := by omega
      have hj3 : (0 : Int) ≤ (nets : Int) - 1 - (j : Int) := by omega
      have HR := Lib.hid hrow
      have HS := Lib.hid (⟨hsucc, hres⟩ : _ ∧ _)
      clear hown hrow hsucc hlen hr1 hr2 z1 z2 hres
      have hb1 := hB.size
      go_wp2_with fail
      refine hrep1.mono ?_
      rintro e w3 ⟨rfl, hB3⟩
      clear hrep1
      have hBa := hB.trans (hB3.mono hb1)
      go_wp2_with fail
      refine (hrep2 _).mono ?_
      rintro e w4 ⟨rfl, hB4⟩
      clear hrep2
      have hBc := hBa.trans (hB4.mono hBa.size)
      have hrow2 := row_later (row_later HR.out hB3) hB4
      have hb4 := hBc.size
      clear hBa hB3 hB4 hB
      go_wp2_with (at_builtin; refine wpList_append_own _ rfl _ _ 31 rfl w.heap.size 9 i0 (.string ⟨#[]⟩) 1 16 Tryz.underlying31 hi hz0 hz1 hz2 rfl (by decide) _ _ _ rfl (hrow2.alloc _) ⟨w4.heap.size, 0, none⟩ 1 1 [.string (r1 ++ ⟨#[49]⟩ ++ r2)] rfl rfl ?c1 ?c2 ?c3 ?c4 ?c5 ?_)
      case c1 => exact cell_one_new _ _ _
      case c2 => simp [Value.oneCell']
      case c3 => unfold maxLen; omega
      case c4 => omega
      case c5 => simp; omega
      intro v' w5 hown' hg5 _
      have hB5 : Below w.heap.size w w5 := (hBc.alloc (by omega) _).grown hg5 (by simp; omega) (fun j hj => (hrow2.lt j hj).1)
      rw [HS.out.2] at hown'
      have HO := Lib.hid (⟨hown', hB5⟩ : _ ∧ _)
      clear hown' hB5 hg5 hBc hrow2
      go_wp2_with fail
      go_roundw
      case rel => exact ⟨j + 1, _, by omega, rfl, by go_num, by rw [HS.out.1]; unfold StrsAt; have h := HO.out.1; simpa using h, HO.out.2⟩
      case measure => simp [intOf]; omega
    · obtain rfl : j = nets := by omega
      have HO := Lib.hid (⟨hown, hB⟩ : _ ∧ _)
      clear hB
      obtain ⟨-, ⟨rfl, -⟩ | ⟨g3, cap3, cur3, rfl, -⟩⟩ := hown
      · go_wp2_with fail
        go_ret
        exact ⟨_, rfl, HO.out.1, HO.out.2⟩
      · go_wp2_with fail
        go_ret
        exact ⟨_, rfl, HO.out.1, HO.out.2⟩
end Go.Proofs.YtlcknglnpcggaaaGreatDoor
