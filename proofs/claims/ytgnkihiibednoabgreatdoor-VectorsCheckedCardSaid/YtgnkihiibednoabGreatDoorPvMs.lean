/- The makers of right vectors, of texts of vectors, of sequences. -/
import Derived.Test.YtgnkihiibednoabGreatDoorPvMk
namespace Go.Proofs.YtgnkihiibednoabGreatDoor
open Go.RowKit

set_option maxHeartbeats 2000000 in
set_option maxRecDepth 100000 in
theorem rightPatterns_any (sb t most : Nat) (w : World) (hs : Strm w sb t) (ht : t ≤ 800000) (hm : most ≤ 10) :
    Calls Tryz.prog 37 #[.pointer (some ⟨sb, 0, none⟩), .int .i64 (most : Int)] w fun e w' => ∃ (z : Int) (v : Value), e = .returned (.tuple #[.int .i64 z, v]) ∧ PatSt sb t 600 w 11 12 v w' := by
  have hsb := hs.lt
  have hR0 : Ran sb t (100 * 0) w w := Ran.refl hs
  have HR0 := Lib.hid hR0
  clear hR0 hs
  go_enter Tryz.func37, Tryz.ntmps37
  go_wp2_with fail
  go_loopw [8] (fun c wr => ∃ k : Nat, k ≤ 6 ∧ c = .int .i64 (k : Int) ∧ Ran sb t (100 * k) w wr) (fun c _ => 6 - (intOf c).toNat)
  case atStart => exact ⟨0, by omega, rfl, HR0.out⟩
  case round =>
    clear HR0
    obtain ⟨k, hk, rfl, hr⟩ := hrel
    by_cases hlt : k < 6
    · obtain ⟨t1, ht1, ht1', hs1⟩ := hr.strm
      have HR := Lib.hid hr
      have hgl : w.heap.size ≤ wr.heap.size := hr.1.size
      clear hr
      go_wp2_with fail
      refine (patterns_any sb t1 most _ hs1 (by omega) hm).mono ?_
      rintro e w2 ⟨z, v, rfl, S, hS, hl, hz, hr2⟩
      have hr3 : Ran sb t (100 * (k + 1)) w w2 := (HR.out.then ht1 ht1' hr2).mono (by omega)
      have hS3 := row_base hS hgl
      obtain ⟨a, c, rfl, -⟩ := strs_open hS
      have hpf := patternsFault_any S z (by omega) (fun k hk => by have := hz k hk; omega) _ w2 _ hS
      have H := Lib.hid (⟨hS3, hl, hz, hr3⟩ : _ ∧ _ ∧ _ ∧ _)
      clear hS hS3 hz hr2 hr3 HR hs1
      by_cases hE : vecErr z S = 0
      · rw [hE] at hpf
        clear hE
        go_wp2_with fail
        refine hpf.mono ?_
        rintro e w3 ⟨rfl, hB3⟩
        clear hpf
        have HF := Lib.hid (⟨row_later H.out.1 hB3, H.out.2.2.2.then_below hB3⟩ : _ ∧ _)
        clear hB3
        go_wp2_with fail
        go_ret2
        exact ⟨_, _, rfl, S, HF.out.1, H.out.2.1, H.out.2.2.1, HF.out.2.mono (by omega)⟩
      · generalize vecErr z S = E at hpf hE
        have hne : (E != 0) = true := by simpa using hE
        have hne2 : (E == 0) = false := by simpa using hE
        clear hE
        go_wp2_with fail
        refine hpf.mono ?_
        rintro e w3 ⟨rfl, hB3⟩
        clear hpf
        have HF := Lib.hid (H.out.2.2.2.then_below hB3)
        clear hB3
        go_wp2_with fail
        go_roundw
        case rel => exact ⟨k + 1, by omega, by go_num, HF.out⟩
        case measure => simp [intOf]; omega
    · obtain rfl : k = 6 := by omega
      have HR := Lib.hid hr
      clear hr
      go_wp2_with fail
      go_ret2
      exact ⟨_, _, rfl, [], World.ownsRow_nil _ _ _ _, by decide, (fun k hk => by cases hk), HR.out⟩

set_option maxHeartbeats 2000000 in
set_option maxRecDepth 100000 in
theorem patternString_any (sb t : Nat) (w : World) (hs : Strm w sb t) (ht : t ≤ 800000) :
    Calls Tryz.prog 17 #[.pointer (some ⟨sb, 0, none⟩)] w fun e w' => (∃ s : ByteArray, s.size ≤ 1000 ∧ e = .returned (.string s)) ∧ Ran sb t 700 w w' := by
  have hsb := hs.lt
  go_enter Tryz.func17, Tryz.ntmps17
  go_wp2_with fail
  refine (rightPatterns_any sb t 4 _ hs (by omega) (by decide)).mono ?_
  rintro e w2 ⟨z, v, rfl, S, hS, hl, hz, hr2⟩
  have hpl := patternLines_any S (by omega) (fun k hk => by have := hz k hk; omega) _ w2 v hS
  have hlen : (textL S).length ≤ 143 := by
    have h := textL_len S 12 hz S.length (Nat.le_refl _)
    rw [textL_all] at h
    have : S.length * 13 ≤ 11 * 13 := Nat.mul_le_mul_right _ hl
    omega
  generalize textL S = T at hpl hlen
  obtain ⟨x, hx⟩ : ∃ s : ByteArray, s = ⟨T.toArray⟩ := ⟨_, rfl⟩
  have hw := word_dec _ x hx
  rw [← hx] at hpl
  have hxz : x.size ≤ 143 := by have := hw.1; omega
  obtain ⟨a, c, rfl, -⟩ := strs_open hS
  have HR := Lib.hid hr2
  clear hS hz hr2 hx hw hlen hs
  go_wp2_with fail
  refine hpl.mono ?_
  rintro e w3 ⟨rfl, hB3⟩
  clear hpl
  have hr3 := HR.out.then_below hB3
  obtain ⟨t3, ht3, ht3', hs3⟩ := hr3.strm
  have HR3 := Lib.hid hr3
  have hlt3 := hs3.lt
  clear hB3 hr3 HR
  go_wp2_with fail
  refine (pick_any sb t3 w3.heap.size 0 4 4 (fun k => [0, 0, 1, 2].getD k 0) _ (hs3.alloc _) (by omega) (by decide) (by decide) (by omega) (ints_fresh w3 [0, 0, 1, 2] _)).mono ?_
  rintro e w4 ⟨⟨k, hk, rfl⟩, hr4⟩
  have hm : ∃ m : Nat, m ≤ 2 ∧ [0, 0, 1, 2].getD k (0 : Int) = (m : Int) := by
    have : k = 0 ∨ k = 1 ∨ k = 2 ∨ k = 3 := by omega
    rcases this with rfl | rfl | rfl | rfl
    · exact ⟨0, by decide, rfl⟩
    · exact ⟨0, by decide, rfl⟩
    · exact ⟨1, by decide, rfl⟩
    · exact ⟨2, by decide, rfl⟩
  obtain ⟨m, hm2, hme⟩ := hm
  rw [hme]
  have hr5 : Ran sb t (601 + 3 * 0) w w4 := HR3.out.then ht3 ht3' hr4.after_alloc
  have HR5 := Lib.hid hr5
  clear hr4 hr5 hme hs3 HR3
  go_wp2_with fail
  go_loopw [5, 16] (fun tv c wr => ∃ (k : Nat) (x : ByteArray), k ≤ m ∧ c = .int .i64 (k : Int) ∧ tv = .string x ∧ x.size ≤ 143 + 10 * k ∧ Ran sb t (601 + 3 * k) w wr) (fun _ c _ => m - (intOf c).toNat)
  case atStart => exact ⟨0, x, by omega, rfl, rfl, by omega, HR5.out⟩
  case round =>
    clear HR5
    obtain ⟨k, x, hk, rfl, rfl, hxz, hr⟩ := hrel
    by_cases hlt : k < m
    · obtain ⟨t6, ht6, ht6', hs6⟩ := hr.strm
      have HR := Lib.hid hr
      clear hr
      go_wp2_with fail
      refine (changed_any sb t6 x ⟨#[48, 49, 10, 50]⟩ _ hs6 (by omega) (by omega) (by decide) (by decide)).mono ?_
      rintro e w7 ⟨⟨r, hrz, rfl⟩, hr7⟩
      have hr8 : Ran sb t (601 + 3 * (k + 1)) w w7 := (HR.out.then ht6 ht6' hr7).mono (by omega)
      have hrz2 : r.size ≤ 143 + 10 * (k + 1) := by have : (⟨#[48, 49, 10, 50]⟩ : ByteArray).size = 4 := rfl; omega
      have HF := Lib.hid (⟨hr8, hrz2⟩ : _ ∧ _)
      clear hr8 hrz2 hr7 hrz HR hs6
      go_wp2_with fail
      go_roundw
      case rel => exact ⟨k + 1, r, by omega, by go_num, rfl, HF.out.2, HF.out.1⟩
      case measure => simp [intOf]; omega
    · obtain rfl : k = m := by omega
      have HR := Lib.hid hr
      clear hr
      go_wp2_with fail
      go_ret
      exact ⟨⟨x, by omega, rfl⟩, HR.out.mono (by omega)⟩

set_option maxHeartbeats 4000000 in
set_option maxRecDepth 100000 in
theorem sequenceList_any (sb t : Nat) (w : World) (hs : Strm w sb t) (ht : t ≤ 800000) :
    Calls Tryz.prog 5 #[.pointer (some ⟨sb, 0, none⟩)] w fun e w' => ∃ v : Value, e = .returned v ∧ PatSt sb t 100 w 6 12 v w' := by
  obtain ⟨i0, hi, hz0, hz1, hz2⟩ := info_parts Tryz.infoStrv
  have hsb := hs.lt
  go_enter Tryz.func5, Tryz.ntmps5
  go_wp2_with fail
  refine (range_any sb t 0 5 _ hs (by omega) (by decide) (by decide) (by decide)).mono ?_
  rintro e w1 ⟨⟨zn, hn0, hn1, rfl⟩, hr1⟩
  obtain ⟨n, rfl⟩ : ∃ n : Nat, zn = (n : Int) := ⟨zn.toNat, by omega⟩
  obtain ⟨t1, ht1, ht1', hs1⟩ := hr1.strm
  go_wp2_with fail
  refine (range_any sb t1 1 6 _ hs1 (by omega) (by decide) (by omega) (by omega)).mono ?_
  rintro e w2 ⟨⟨zm, hm0, hm1, rfl⟩, hr2⟩
  obtain ⟨m, rfl⟩ : ∃ m : Nat, zm = (m : Int) := ⟨zm.toNat, by omega⟩
  have hr12 : Ran sb t 2 w w2 := hr1.then ht1 ht1' hr2
  have HA := Lib.hid (⟨World.ownsRow_nil _ _ _ _, hr12⟩ : StrsAt w.heap.size w2 (.slice none 0 0) [] ∧ Ran sb t (2 + 6 * 0) w w2)
  clear hr1 hr2 hr12 hs hs1
  go_wp2_with fail
  go_loopw [4, 9] (fun v c wr => ∃ (k : Nat) (S : List (List UInt8)), k ≤ m ∧ c = .int .i64 (k : Int) ∧ S.length = k ∧ StrsAt w.heap.size wr v S ∧ (∀ k, k < S.length → (S.getD k []).length ≤ 5) ∧ Ran sb t (2 + 6 * k) w wr) (fun _ c _ => m - (intOf c).toNat)
  case atStart => exact ⟨0, [], by omega, rfl, rfl, HA.out.1, (fun k hk => by cases hk), HA.out.2⟩
  case round =>
    clear HA
    obtain ⟨k, S, hk, rfl, hl, hS, hz, hr⟩ := hrel
    obtain ⟨a, c, rfl, -⟩ := strs_open hS
    by_cases hlt : k < m
    · obtain ⟨t2, ht2, ht2', hs2⟩ := hr.strm
      have HL := Lib.hid hl
      clear hl
      go_wp2_with fail
      refine (bits_any sb t2 n _ hs2 (by omega)).mono ?_
      rintro e w3 ⟨⟨s, hsz, -, rfl⟩, hr3⟩
      have hr4 : Ran sb t (2 + 6 * k + n) w w3 := hr.then ht2 ht2' hr3
      have hrow2 : w3.ownsRow w.heap.size 9 1 (.slice a S.length c) S.length (S.map strV) := row_ran hS hr3 hsb
      have hgl : w.heap.size ≤ w3.heap.size := hr4.1.size
      have H := Lib.hid (⟨hr4, hz, hsz⟩ : _ ∧ _ ∧ _)
      have hSl : S.length ≤ 6 := by have := HL.out; omega
      clear hr hr3 hS hs2 hr4 hz hsz
      go_wp2_with (at_builtin; refine wpList_append_own _ rfl _ _ 26 rfl w.heap.size 9 i0 (.string ⟨#[]⟩) 1 16 Tryz.underlying26 hi hz0 hz1 hz2 rfl (by decide) _ _ _ rfl (hrow2.alloc _) ⟨w3.heap.size, 0, none⟩ 1 1 [.string s] rfl rfl ?c1 ?c2 ?c3 ?c4 ?c5 ?_)
      case c1 => exact cell_one_new _ _ _
      case c2 => simp [Value.oneCell']
      case c3 => unfold maxLen; omega
      case c4 => omega
      case c5 => simp; omega
      intro v' w4 hown' hg4 _
      have hr5 : Ran sb t (2 + 6 * (k + 1)) w w4 := ((H.out.1.alloc _).grown hg4 (fun j hj => (hrow2.lt j hj).1) hsb).mono (by omega)
      have hS5 := strs_snoc s hown'
      have hz5 := getD_snoc S s.data.toList 5 H.out.2.1 (by have := H.out.2.2; simp; omega)
      obtain ⟨a4, c4, rfl, -⟩ := strs_open hS5
      have HP := Lib.hid (⟨hS5, hz5, hr5⟩ : _ ∧ _ ∧ _)
      clear hr5 hS5 hz5 hown' hg4 hrow2 H
      go_wp2_with fail
      go_roundw
      case rel => exact ⟨k + 1, _, by omega, by go_num, by simp [HL.out], HP.out⟩
      case measure => simp [intOf]; omega
    · obtain rfl : k = m := by omega
      have hr6 : Ran sb t 38 w wr := hr.mono (by omega)
      obtain ⟨t3, ht3, ht3', hs3⟩ := hr6.strm
      have hSl : S.length ≤ 6 := by omega
      have hSp : 0 < S.length := by omega
      have HS := Lib.hid (⟨hS, hz, hr6⟩ : _ ∧ _ ∧ _)
      clear hr hr6 hS hz hl
      go_wp2_with fail
      refine (flip_any sb t3 15 _ hs3 (by omega) (by decide) (by decide)).mono ?_
      rintro e w4 ⟨⟨fl, rfl⟩, hr4⟩
      have hr40 : Ran sb t 39 w w4 := HS.out.2.2.then ht3 ht3' hr4
      obtain ⟨t4, ht4, ht4', hs4⟩ := hr40.strm
      have H4 := Lib.hid (⟨row_ran HS.out.1 hr4 hsb, HS.out.2.1, hr40⟩ : StrsAt w.heap.size w4 (.slice a S.length c) S ∧ _ ∧ _)
      clear hr4 hs3 HS hr40
      go_upto_if 19 with (fail)
      go_cut [4] (fun v wx => ∃ (n : Nat) (a : Option Addr) (c : Nat), v = .slice a n c ∧ PatSt sb t 90 w 6 12 (.slice a n c) wx)
      case first =>
        cases fl with
        | false =>
          go_wp2_with fail
          go_meet
          exact ⟨_, a, c, rfl, PatSt.mono (K := 39) (m := 6) (z := 5) ⟨S, H4.out.1, hSl, H4.out.2.1, H4.out.2.2⟩ (by decide) (by decide) (by decide)⟩
        | true =>
          obtain ⟨g, rfl, hg, hcell⟩ : ∃ g, a = some ⟨g, 0, none⟩ ∧ g < w4.heap.size ∧ ∀ k, k < S.length → w4.cell? ⟨g, k, none⟩ = some (strV (S.getD k [])) := by
            obtain ⟨a', c', he, hop⟩ := strs_open H4.out.1
            obtain ⟨g, ha, hg, hcell⟩ := hop (by omega)
            injection he with h1 h2 h3
            exact ⟨g, h1.trans ha, hg, hcell⟩
          clear hcell
          go_wp2_with fail
          refine (next_any sb t4 (S.length : Int) _ hs4 (by omega) (by omega) (by omega)).mono ?_
          rintro e w5 ⟨⟨zi, hi0', hi1, rfl⟩, hr5⟩
          obtain ⟨i, rfl⟩ : ∃ i : Nat, zi = (i : Int) := ⟨zi.toNat, by omega⟩
          have hr41 : Ran sb t 40 w w5 := H4.out.2.2.then ht4 ht4' hr5
          have hrow5 := row_ran H4.out.1 hr5 hsb
          have hiS : i < S.length := by omega
          obtain ⟨t5, ht5, ht5', hs5⟩ := hr41.strm
          have hgB : w.heap.size ≤ g := (hrow5.lt g rfl).1
          have H5 := Lib.hid (⟨hrow5, hr41⟩ : _ ∧ _)
          have hnb : ∀ W, Strm W sb t5 → Calls Tryz.prog 28 #[.pointer (some ⟨sb, 0, none⟩), .int .i64 ((n : Int) + 1)] W fun e w' => (∃ s : ByteArray, s.size ≤ n + 1 + 6 ∧ e = .returned (.string s)) ∧ Ran sb t5 (n + 1 + 4) W w' := fun W h => nearlyBits_any sb t5 (n + 1) W h (by omega)
          clear hrow5 hr41 hr5 hs4
          go_wp2_with fail
          refine (hnb _ hs5).mono ?_
          rintro e w6 ⟨⟨s, hsz, rfl⟩, hr6⟩
          have hr61 := H5.out.2.then ht5 ht5' hr6
          have hrow6 := row_ran H5.out.1 hr6 hsb
          have hcl := hrow6.cellAt i (by omega)
          have hcf := hrow6.frozenAt i
          have hxv : (S.map strV)[i]? = some (strV (S.getD i [])) := by simp [List.getD, hiS]
          rw [hxv] at hcl
          have hput := strs_put (i := i) s hrow6
          have hP : PatSt sb t 90 w 6 12 (.slice (some ⟨g, 0, none⟩) S.length c) (w6.setCell ⟨g, i, none⟩ (.string s)) := ⟨S.set i s.data.toList, hput, by simpa using hSl, getD_put S i _ 12 (fun k hk => by have := H4.out.2.1 k hk; omega) (by simp; omega), (hr61.setCell hgB hsb _).mono (by omega)⟩
          have HP := Lib.hid hP
          have hi2 : (i : Int) < (S.length : Int) := by omega
          have hi1 : (0 : Int) ≤ (i : Int) := by omega
          clear hP hput hr61 hrow6 hxv hr6 hnb
          go_wp2_with fail
          go_meet
          exact ⟨_, _, c, rfl, HP.out⟩
      case rest =>
        obtain ⟨n5, a5, c5, rfl, hP⟩ := hcut
        obtain ⟨S6, q1, q2, q3, q4⟩ := hP
        obtain ⟨t7, ht7, ht7', hs7⟩ := q4.strm
        have HP := Lib.hid (⟨q1, q2, q3, q4⟩ : _ ∧ _ ∧ _ ∧ _)
        clear H4 q1 q2 q3 q4 hs4
        go_wp2_with fail
        refine (flip_any sb t7 40 _ hs7 (by omega) (by decide) (by decide)).mono ?_
        rintro e w8 ⟨⟨fl, rfl⟩, hr8⟩
        have HQ := Lib.hid (⟨row_ran HP.out.1 hr8 hsb, HP.out.2.2.2.then ht7 ht7' hr8⟩ : _ ∧ _)
        clear hr8 hs7
        cases fl with
        | false =>
          go_wp2_with fail
          go_ret
          exact ⟨_, rfl, S6, HQ.out.1, HP.out.2.1, HP.out.2.2.1, HQ.out.2.mono (by decide)⟩
        | true =>
          go_wp2_with fail
          go_ret
          exact ⟨_, rfl, [], World.ownsRow_nil _ _ _ _, by decide, (fun k hk => by cases hk), HQ.out.2.mono (by decide)⟩
end Go.Proofs.YtgnkihiibednoabGreatDoor
