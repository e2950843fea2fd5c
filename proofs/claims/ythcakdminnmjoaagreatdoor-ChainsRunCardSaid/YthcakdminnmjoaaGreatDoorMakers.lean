/- The contracts of NearlyBits and Shifted. -/
import Derived.Test.YthcakdminnmjoaaGreatDoorTms
import Derived.Test.YthcakdminnmjoaaGreatDoorShelf
namespace Go.Proofs.YthcakdminnmjoaaGreatDoor
open Go.RowKit

theorem nearlyBits_any (sb t n : Nat) (w : World) (hs : Strm w sb t) (ht : t + n ≤ 900000) :
    Calls Tryz.prog 6 #[.pointer (some ⟨sb, 0, none⟩), .int .i64 (n : Int)] w fun e w' => (∃ s : ByteArray, s.size ≤ n + 6 ∧ e = .returned (.string s)) ∧ Ran sb t (n + 4) w w' := by
  go_enter Tryz.func6, Tryz.ntmps6
  go_wp2_with fail
  refine (bits_any sb t n _ hs (by omega)).mono ?_
  rintro e w1 ⟨⟨s, hsz, _, rfl⟩, hr⟩
  obtain ⟨t1, ht1, ht1', hs1⟩ := hr.strm
  go_wp2_with fail
  refine (flip_any sb t1 _ _ hs1 (by omega) (by decide) (by decide)).mono ?_
  rintro e w2 ⟨⟨fl, rfl⟩, hr2⟩
  obtain ⟨t2, ht2, ht2', hs2⟩ := hr2.strm
  have hr12 := hr.then ht1 ht1' hr2
  clear hr hr2
  cases fl with
  | true =>
    go_wp2_with fail
    refine (changed_any sb t2 s ⟨#[50, 120]⟩ _ hs2 (by omega) (by omega) (by decide) (by decide)).mono ?_
    rintro e w3 ⟨⟨r, hrs, rfl⟩, hr3⟩
    go_wp2_with fail
    go_ret
    exact ⟨⟨r, by have : (⟨#[50, 120]⟩ : ByteArray).size = 2 := rfl; omega, rfl⟩, (hr12.then (by omega) (by omega) hr3).mono (by omega)⟩
  | false =>
    go_wp2_with fail
    go_ret
    exact ⟨⟨s, by omega, rfl⟩, hr12.mono (by omega)⟩

theorem Ran.then_below {sb t K : Nat} {w w1 w2 : World} (h : Ran sb t K w w1) (hb : Below w1.heap.size w1 w2) : Ran sb t K w w2 := by
  obtain ⟨hg, t', a, b, hs⟩ := h
  exact ⟨hg.trans ⟨hb.os, hb.tape, hb.output, hb.size, fun k hk _ => hb.block k hk⟩, t', a, b, hs.below hb hs.lt⟩

theorem repeat_any (s : ByteArray) (c : Nat) (w : World) (hc : c ≤ 1000000) (hs : s.size ≤ 1000) :
    Calls Tryz.prog 22 #[.string s, .int .i64 (c : Int)] w fun e w' => (∃ r : ByteArray, r.size = c * s.size ∧ e = .returned (.string r)) ∧ Below w.heap.size w w' := by
  have hm : s.size * c ≤ 1000 * 1000000 := Nat.mul_le_mul hs hc
  refine (Tryz.strings_Repeat s c w (by omega) (by omega)).mono ?_
  rintro e w' ⟨rfl, hB⟩
  refine ⟨⟨_, ?_, rfl⟩, hB⟩
  show (Lib.repeatL s.data.toList c).toArray.size = _
  rw [List.size_toArray, Lib.repeatL_length]
  simp

theorem sizes_at (j : Nat) (hj : j < 6) : ∃ z : Nat, ([32, 32, 32, 40, 31, 5] : List Int).getD j 0 = (z : Int) ∧ z ≤ 40 := by
  have : j = 0 ∨ j = 1 ∨ j = 2 ∨ j = 3 ∨ j = 4 ∨ j = 5 := by omega
  rcases this with rfl | rfl | rfl | rfl | rfl | rfl
  · exact ⟨32, rfl, by decide⟩
  · exact ⟨32, rfl, by decide⟩
  · exact ⟨32, rfl, by decide⟩
  · exact ⟨40, rfl, by decide⟩
  · exact ⟨31, rfl, by decide⟩
  · exact ⟨5, rfl, by decide⟩

set_option maxRecDepth 100000 in
theorem shifted_any (sb t : Nat) (w : World) (hs : Strm w sb t) (ht : t ≤ 900000) :
    Calls Tryz.prog 13 #[.pointer (some ⟨sb, 0, none⟩)] w fun e w' => (∃ s : ByteArray, s.size ≤ 300 ∧ e = .returned (.string s)) ∧ Ran sb t 200 w w' := by
  go_enter Tryz.func13, Tryz.ntmps13
  go_wp2_with fail
  refine (range_any sb t 0 4 _ hs (by omega) (by decide) (by decide) (by decide)).mono ?_
  rintro e w1 ⟨⟨n, hn0, hn4, rfl⟩, hr⟩
  obtain ⟨m, rfl⟩ : ∃ m : Nat, n = (m : Int) := ⟨n.toNat, by omega⟩
  have hr1 : Ran sb t (1 + 32 * 0) w w1 := hr
  clear hr
  go_wp2_with fail
  go_loopw [3, 6] (fun out c wr => ∃ k : Nat, k ≤ m ∧ c = .int .i64 (k : Int) ∧ (∃ s : ByteArray, s.size ≤ 32 * k ∧ out = .string s) ∧ Ran sb t (1 + 32 * k) w wr) (fun _ c _ => m - (intOf c).toNat)
  case atStart => exact ⟨0, by omega, rfl, ⟨⟨#[]⟩, by decide, rfl⟩, hr1⟩
  case round =>
    clear hr1
    obtain ⟨k, hk, rfl, ⟨s, hsz, rfl⟩, hr⟩ := hrel
    obtain ⟨t1, ht1, ht1', hs1⟩ := hr.strm
    by_cases hlt : k < m
    · go_wp2_with fail
      refine (flip_any sb t1 _ _ hs1 (by omega) (by decide) (by decide)).mono ?_
      rintro e w2 ⟨⟨fl, rfl⟩, hr2⟩
      obtain ⟨t2, ht2, ht2', hs2⟩ := hr2.strm
      have hr12 := hr.then ht1 ht1' hr2
      clear hr hr2
      cases fl with
      | true =>
        have hcat : ¬ 9223372036854775807 < s.size + 1 := by omega
        have hsx : (s ++ ⟨#[48]⟩).size = s.size + 1 := ByteArray.size_append
        have HS := Lib.hid hsx
        clear hsx
        go_wp2_with fail
        go_roundw
        case rel => exact ⟨k + 1, by omega, by go_num, ⟨_, by rw [HS.out]; omega, rfl⟩, hr12.mono (by omega)⟩
        case measure => simp [intOf]; omega
      | false =>
        go_wp2_with fail
        refine (bits_any sb t2 31 _ hs2 (by omega)).mono ?_
        rintro e w3 ⟨⟨b, hbz, _, rfl⟩, hr3⟩
        have hr13 := hr12.then (by omega) (by omega) hr3
        clear hr12 hr3
        have hcat : ¬ 9223372036854775807 < 1 + b.size := by omega
        have hsx : ((⟨#[49]⟩ : ByteArray) ++ b).size = 1 + b.size := ByteArray.size_append
        have hcat2 : ¬ 9223372036854775807 < s.size + ((⟨#[49]⟩ : ByteArray) ++ b).size := by rw [hsx]; omega
        have hsy : (s ++ ((⟨#[49]⟩ : ByteArray) ++ b)).size = s.size + ((⟨#[49]⟩ : ByteArray) ++ b).size := ByteArray.size_append
        have hfin : (s ++ ((⟨#[49]⟩ : ByteArray) ++ b)).size ≤ 32 * (k + 1) := by rw [hsy, hsx]; omega
        have HS := Lib.hid hfin
        clear hsx hsy hfin hbz
        go_wp2_with fail
        go_roundw
        case rel => exact ⟨k + 1, by omega, by go_num, ⟨_, HS.out, rfl⟩, hr13.mono (by omega)⟩
        case measure => simp [intOf]; omega
    · obtain rfl : k = m := by omega
      have hsz2 : s.size ≤ 128 := by omega
      have hr2 : Ran sb t 140 w wr := hr.mono (by omega)
      clear hr hlt hk
      go_wp2_with fail
      obtain ⟨t2, ht2, ht2', hs2⟩ := hr2.strm
      refine (flip_any sb t2 _ _ hs2 (by omega) (by decide) (by decide)).mono ?_
      rintro e w3 ⟨⟨fl, rfl⟩, hr3⟩
      have hr3' : Ran sb t 141 w w3 := hr2.then ht2 ht2' hr3
      clear hr2 hr3
      cases fl with
      | true =>
        go_wp2_with fail
        refine (repeat_any ⟨#[48]⟩ 21 _ (by decide) (by decide)).mono ?_
        rintro e wq ⟨⟨r, hrz, rfl⟩, hB4⟩
        have hrz' : r.size = 21 := hrz
        have hrq := hr3'.then_below hB4
        have hcat : ¬ 9223372036854775807 < s.size + r.size := by omega
        have hx : (s ++ r).size ≤ 149 := by rw [show (s ++ r).size = s.size + r.size from ByteArray.size_append]; omega
        clear hr3' hB4 hrz
        have hrzH := Lib.hid hrz'
        clear hrz'
        go_wp2_with fail
        clear hcat
        generalize s ++ r = x at hx ⊢
        obtain ⟨tq, htq, htq', hsq⟩ := hrq.strm
        have hltq := hsq.lt
        go_wp2_with fail
        refine (pick_any sb tq wq.heap.size 0 6 6 (fun k => ([32, 32, 32, 40, 31, 5] : List Int).getD k 0) _ (hsq.alloc _) (by omega) (by decide) (by decide) (by omega) (ints_fresh wq [32, 32, 32, 40, 31, 5] _)).mono ?_
        rintro e w5 ⟨⟨j, hj, rfl⟩, hr5⟩
        have hr5' := hrq.then htq htq' hr5.after_alloc
        obtain ⟨z, hz, hzb⟩ := sizes_at j hj
        rw [hz]
        clear hz hr5
        go_wp2_with fail
        refine (repeat_any ⟨#[49]⟩ z _ (by omega) (by decide)).mono ?_
        rintro e w6 ⟨⟨y, hy, rfl⟩, hB6⟩
        have hy' : y.size ≤ 40 := by rw [hy]; show z * 1 ≤ 40; omega
        have hr6 := hr5'.then_below hB6
        obtain ⟨t6, ht6, ht6', hs6⟩ := hr6.strm
        clear hB6 hr5' hy
        have hcat : ¬ 9223372036854775807 < x.size + y.size := by omega
        have hsz3 : (x ++ y).size ≤ 189 := by rw [show (x ++ y).size = x.size + y.size from ByteArray.size_append]; omega
        go_wp2_with fail
        clear hcat
        generalize x ++ y = v at hsz3 ⊢
        refine (flip_any sb t6 _ _ hs6 (by omega) (by decide) (by decide)).mono ?_
        rintro e w7 ⟨⟨f2, rfl⟩, hr7⟩
        have hr7' := hr6.then ht6 ht6' hr7
        obtain ⟨t7, ht7, ht7', hs7⟩ := hr7'.strm
        cases f2 with
        | true =>
          go_wp2_with fail
          refine (changed_any sb t7 v ⟨#[120, 48, 49]⟩ _ hs7 (by omega) (by omega) (by decide) (by decide)).mono ?_
          rintro e w8 ⟨⟨r, hrs, rfl⟩, hr8⟩
          go_wp2_with fail
          go_ret
          exact ⟨⟨r, by have : (⟨#[120, 48, 49]⟩ : ByteArray).size = 3 := rfl; omega, rfl⟩, (hr7'.then ht7 ht7' hr8).mono (by omega)⟩
        | false =>
          go_wp2_with fail
          go_ret
          exact ⟨⟨v, by omega, rfl⟩, hr7'.mono (by omega)⟩
      | false =>
        obtain ⟨x, rfl⟩ : ∃ x, x = s := ⟨_, rfl⟩
        have hx : x.size ≤ 149 := by omega
        obtain ⟨wq, rfl⟩ : ∃ wq, wq = w3 := ⟨_, rfl⟩
        have hrq := hr3'
        obtain ⟨tq, htq, htq', hsq⟩ := hrq.strm
        have hltq := hsq.lt
        go_wp2_with fail
        refine (pick_any sb tq wq.heap.size 0 6 6 (fun k => ([32, 32, 32, 40, 31, 5] : List Int).getD k 0) _ (hsq.alloc _) (by omega) (by decide) (by decide) (by omega) (ints_fresh wq [32, 32, 32, 40, 31, 5] _)).mono ?_
        rintro e w5 ⟨⟨j, hj, rfl⟩, hr5⟩
        have hr5' := hrq.then htq htq' hr5.after_alloc
        obtain ⟨z, hz, hzb⟩ := sizes_at j hj
        rw [hz]
        clear hz hr5
        go_wp2_with fail
        refine (repeat_any ⟨#[49]⟩ z _ (by omega) (by decide)).mono ?_
        rintro e w6 ⟨⟨y, hy, rfl⟩, hB6⟩
        have hy' : y.size ≤ 40 := by rw [hy]; show z * 1 ≤ 40; omega
        have hr6 := hr5'.then_below hB6
        obtain ⟨t6, ht6, ht6', hs6⟩ := hr6.strm
        clear hB6 hr5' hy
        have hcat : ¬ 9223372036854775807 < x.size + y.size := by omega
        have hsz3 : (x ++ y).size ≤ 189 := by rw [show (x ++ y).size = x.size + y.size from ByteArray.size_append]; omega
        go_wp2_with fail
        clear hcat
        generalize x ++ y = v at hsz3 ⊢
        refine (flip_any sb t6 _ _ hs6 (by omega) (by decide) (by decide)).mono ?_
        rintro e w7 ⟨⟨f2, rfl⟩, hr7⟩
        have hr7' := hr6.then ht6 ht6' hr7
        obtain ⟨t7, ht7, ht7', hs7⟩ := hr7'.strm
        cases f2 with
        | true =>
          go_wp2_with fail
          refine (changed_any sb t7 v ⟨#[120, 48, 49]⟩ _ hs7 (by omega) (by omega) (by decide) (by decide)).mono ?_
          rintro e w8 ⟨⟨r, hrs, rfl⟩, hr8⟩
          go_wp2_with fail
          go_ret
          exact ⟨⟨r, by have : (⟨#[120, 48, 49]⟩ : ByteArray).size = 3 := rfl; omega, rfl⟩, (hr7'.then ht7 ht7' hr8).mono (by omega)⟩
        | false =>
          go_wp2_with fail
          go_ret
          exact ⟨⟨v, by omega, rfl⟩, hr7'.mono (by omega)⟩
end Go.Proofs.YthcakdminnmjoaaGreatDoor
