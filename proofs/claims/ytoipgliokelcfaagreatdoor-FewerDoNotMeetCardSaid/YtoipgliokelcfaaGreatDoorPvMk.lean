/- The maker of vectors: Patterns. -/
import Derived.Test.YtoipgliokelcfaaGreatDoorPwRead
import Derived.Deep.RegionLaw
import Derived.IntWalk
import Derived.Deep.CutBlock
import Derived.Deep.DeepCutAuto
namespace Go.Proofs.YtoipgliokelcfaaGreatDoor
open Go.RowKit

theorem Ran.setCell {sb t K : Nat} {w w' : World} (h : Ran sb t K w w') {a : Addr} (ha : w.heap.size ≤ a.block) (hlt : sb < w.heap.size) (v : Value) : Ran sb t K w (w'.setCell a v) := by
  obtain ⟨hg, t', h1, h2, hs⟩ := h
  refine ⟨⟨hg.os, hg.tape, hg.output, ?_, fun k hk hne => ?_⟩, t', h1, h2, hs.kept fun b hb => Below.heap_setCell _ _ _ b (by omega)⟩
  · simpa [World.setCell] using hg.size
  · exact (Below.heap_setCell _ _ _ k (by omega)).trans (hg.block k hk hne)
theorem Ran.grown {sb t K : Nat} {w w' w2 : World} (h : Ran sb t K w w') {row : Option Nat} (hg : w'.grownBy w2 row) (hr : ∀ g, row = some g → w.heap.size ≤ g) (hlt : sb < w.heap.size) : Ran sb t K w w2 := by
  obtain ⟨hg1, t', h1, h2, hs⟩ := h
  have hl := hs.lt
  refine ⟨⟨hg.os.trans hg1.os, hg.tape.trans hg1.tape, hg.output.trans hg1.output, Nat.le_trans hg1.size hg.size, fun k hk hne => ?_⟩, t', h1, h2, hs.kept fun b hb => hg.block b (by omega) (fun e => by have := hr b e.symm; omega)⟩
  exact (hg.block k (Nat.lt_of_lt_of_le hk hg1.size) (fun e => by have := hr k e.symm; omega)).trans (hg1.block k hk hne)
theorem ran_frozen {sb t K : Nat} {w w' : World} (h : Ran sb t K w w') {b : Nat} (hb : b ≠ sb) (hl : b < w.heap.size) (j : Nat) {v : Bool} (hf : w.frozen? ⟨b, j, none⟩ = v) : w'.frozen? ⟨b, j, none⟩ = v := (World.frozen?_of_block (a := ⟨b, j, none⟩) (h.1.block b hl (fun e => hb (Option.some.inj e)))).trans hf
theorem Ran.undrew {sb t K : Nat} {w w' : World} (h : Ran sb t K w.drew w') : Ran sb t K w w' := ⟨⟨h.1.os, h.1.tape, h.1.output, h.1.size, h.1.block⟩, h.2⟩

theorem Ran.drew {sb t K : Nat} {w w' : World} (h : Ran sb t K w w') : Ran sb t K w w'.drew := by
  obtain ⟨g, t', x, y, z⟩ := h
  exact ⟨⟨g.os, g.tape, g.output, g.size, g.block⟩, t', x, y, z.kept fun _ _ => rfl⟩
theorem row_ran {sb t K : Nat} {w w' : World} {B : Nat} {e : TypeId} {size : Nat} {v : Value} {n : Nat} {xs : List Value} (h : w.ownsRow B e size v n xs) (hr : Ran sb t K w w') (hB : sb < B) : w'.ownsRow B e size v n xs :=
  row_kept h fun g hg hlt => hr.1.block g hlt (fun e => by have := Option.some.inj e; omega)
/-- What was made so far: rows, the stream went on. -/
def PatSt (sb t K : Nat) (w : World) (m z : Nat) (v : Value) (wx : World) : Prop := ∃ S : List (List UInt8), StrsAt w.heap.size wx v S ∧ S.length ≤ m ∧ (∀ k, k < S.length → (S.getD k []).length ≤ z) ∧ Ran sb t K w wx
theorem PatSt.mono {sb t K K' : Nat} {w : World} {m m' z z' : Nat} {v : Value} {wx : World} (h : PatSt sb t K w m z v wx) (hK : K ≤ K') (hm : m ≤ m') (hz : z ≤ z') : PatSt sb t K' w m' z' v wx := by
  obtain ⟨S, h1, h2, h3, h4⟩ := h
  exact ⟨S, h1, by omega, fun k hk => by have := h3 k hk; omega, h4.mono hK⟩
theorem getD_snoc (S : List (List UInt8)) (x : List UInt8) (z : Nat) (h : ∀ k, k < S.length → (S.getD k []).length ≤ z) (hx : x.length ≤ z) : ∀ k, k < (S ++ [x]).length → ((S ++ [x]).getD k []).length ≤ z := fun k hk => by
  by_cases e : k < S.length
  · have h1 := h k e
    have e2 : (S ++ [x]).getD k [] = S.getD k [] := by simp [List.getD, List.getElem?_append, e]
    rw [e2]
    exact h1
  · have e1 : k = S.length := by simp at hk; omega
    have e2 : (S ++ [x]).getD k [] = x := by subst e1; simp [List.getD]
    rw [e2]
    exact hx
theorem getD_put (S : List (List UInt8)) (i : Nat) (x : List UInt8) (z : Nat) (h : ∀ k, k < S.length → (S.getD k []).length ≤ z) (hx : x.length ≤ z) : ∀ k, k < (S.set i x).length → ((S.set i x).getD k []).length ≤ z := fun k hk => by
  have hk2 : k < S.length := by simpa using hk
  by_cases e : i = k
  · subst e
    have e2 : (S.set i x).getD i [] = x := by simp [List.getD, hk2]
    rw [e2]
    exact hx
  · have e2 : (S.set i x).getD k [] = S.getD k [] := by simp [List.getD, e]
    rw [e2]
    exact h k hk2
theorem strs_snoc {B : Nat} {w : World} {v' : Value} {S : List (List UInt8)} (s : ByteArray) (h : w.ownsRow B 9 1 v' (S.length + 1) (S.map strV ++ [.string s])) : StrsAt B w v' (S ++ [s.data.toList]) := by
  unfold StrsAt
  rw [List.length_append, List.map_append]
  exact h
theorem strs_put {B : Nat} {w : World} {g i c : Nat} {S : List (List UInt8)} (s : ByteArray) (h : StrsAt B w (.slice (some ⟨g, 0, none⟩) S.length c) S) : StrsAt B (w.setCell ⟨g, i, none⟩ (.string s)) (.slice (some ⟨g, 0, none⟩) S.length c) (S.set i s.data.toList) := by
  have h2 := (World.ownsRow.stored h i (.string s)).1
  unfold StrsAt
  rw [List.length_set, List.map_set]
  exact h2
theorem pick4 (x b ch : ByteArray) (z : Nat) (hx : x.size ≤ z) (hb : b.size ≤ z) (hc : ch.size ≤ z) (j : Nat) (hj : j < 4) : ([x, ⟨#[]⟩, b, ch].getD j ⟨#[]⟩ : ByteArray).size ≤ z := by
  have : j = 0 ∨ j = 1 ∨ j = 2 ∨ j = 3 := by omega
  rcases this with rfl | rfl | rfl | rfl
  · exact hx
  · exact Nat.zero_le _
  · exact hb
  · exact hc

set_option maxHeartbeats 4000000 in
set_option maxRecDepth 100000 in
theorem patterns_any (sb t most : Nat) (w : World) (hs : Strm w sb t) (ht : t ≤ 900000) (hm : most ≤ 10) :
    Calls Tryz.prog 53 #[.pointer (some ⟨sb, 0, none⟩), .int .i64 (most : Int)] w fun e w' => ∃ (z : Int) (v : Value), e = .returned (.tuple #[.int .i64 z, v]) ∧ PatSt sb t 100 w 11 12 v w' := by
  obtain ⟨i0, hi, hz0, hz1, hz2⟩ := info_parts Tryz.infoStrv
  have hsb := hs.lt
  go_enter Tryz.func53, Tryz.ntmps53
  go_wp2_with fail
  refine (range_any sb t 1 6 _ hs (by omega) (by decide) (by decide) (by decide)).mono ?_
  rintro e w1 ⟨⟨zn, hn0, hn1, rfl⟩, hr1⟩
  obtain ⟨n, rfl⟩ : ∃ n : Nat, zn = (n : Int) := ⟨zn.toNat, by omega⟩
  obtain ⟨t1, ht1, ht1', hs1⟩ := hr1.strm
  go_wp2_with fail
  refine (range_any sb t1 0 (most : Int) _ hs1 (by omega) (by decide) (by omega) (by omega)).mono ?_
  rintro e w2 ⟨⟨zm, hm0, hm1, rfl⟩, hr2⟩
  obtain ⟨m, rfl⟩ : ∃ m : Nat, zm = (m : Int) := ⟨zm.toNat, by omega⟩
  have hr12 : Ran sb t 2 w w2 := hr1.then ht1 ht1' hr2
  have hA : PatSt sb t (2 + 6 * 0) w 0 6 (.slice none 0 0) w2 := ⟨[], World.ownsRow_nil _ _ _ _, by decide, (fun k hk => by cases hk), hr12⟩
  have HA := Lib.hid hA
  clear hA hr1 hr2 hr12 hs hs1
  go_wp2_with fail
  go_loopw [7, 14] (fun v c wr => ∃ k : Nat, k ≤ m ∧ c = .int .i64 (k : Int) ∧ PatSt sb t (2 + 6 * k) w k 6 v wr) (fun _ c _ => m - (intOf c).toNat)
  case atStart => exact ⟨0, by omega, rfl, HA.out⟩
  case round =>
    clear HA
    obtain ⟨k, hk, rfl, S, hS, hl, hz, hr⟩ := hrel
    obtain ⟨a, c, rfl, -⟩ := strs_open hS
    by_cases hlt : k < m
    · obtain ⟨t2, ht2, ht2', hs2⟩ := hr.strm
      go_wp2_with fail
      refine (bits_any sb t2 n _ hs2 (by omega)).mono ?_
      rintro e w3 ⟨⟨s, hsz, -, rfl⟩, hr3⟩
      have hr4 : Ran sb t (2 + 6 * k + n) w w3 := hr.then ht2 ht2' hr3
      have hrow2 : w3.ownsRow w.heap.size 9 1 (.slice a S.length c) S.length (S.map strV) := row_ran hS hr3 hsb
      have hgl : w.heap.size ≤ w3.heap.size := hr4.1.size
      have H := Lib.hid (⟨hr4, hz, hsz⟩ : _ ∧ _ ∧ _)
      clear hr hr3 hS hs2 hr4 hz hsz
      go_wp2_with (at_builtin; refine wpList_append_own _ rfl _ _ 39 rfl w.heap.size 9 i0 (.string ⟨#[]⟩) 1 16 Tryz.underlying39 hi hz0 hz1 hz2 rfl (by decide) _ _ _ rfl (hrow2.alloc _) ⟨w3.heap.size, 0, none⟩ 1 1 [.string s] rfl rfl ?c1 ?c2 ?c3 ?c4 ?c5 ?_)
      case c1 => exact cell_one_new _ _ _
      case c2 => simp [Value.oneCell']
      case c3 => unfold maxLen; omega
      case c4 => omega
      case c5 => simp; omega
      intro v' w4 hown' hg4 _
      have hr5 : Ran sb t (2 + 6 * k + n) w w4 := (H.out.1.alloc _).grown hg4 (fun j hj => (hrow2.lt j hj).1) hsb
      have hS5 := strs_snoc s hown'
      have hP : PatSt sb t (2 + 6 * (k + 1)) w (k + 1) 6 v' w4 := ⟨_, hS5, by simp; omega, getD_snoc S _ 6 H.out.2.1 (by have := H.out.2.2; simp; omega), hr5.mono (by omega)⟩
      obtain ⟨a4, c4, rfl, -⟩ := strs_open hS5
      have HP := Lib.hid hP
      clear hP hr5 hS5 hown' hg4 hrow2 H
      go_wp2_with fail
      go_roundw
      case rel => exact ⟨k + 1, by omega, by go_num, HP.out⟩
      case measure => simp [intOf]; omega
    · obtain rfl : k = m := by omega
      have hl10 : S.length ≤ 10 := by omega
      have hr6 : Ran sb t 62 w wr := hr.mono (by omega)
      have HS := Lib.hid (⟨hS, hz, hr6⟩ : _ ∧ _ ∧ _)
      obtain ⟨t3, ht3, ht3', hs3⟩ := hr6.strm
      clear hr hr6 hl hlt hk
      by_cases hl0 : S.length = 0
      · have hP : PatSt sb t 90 w 11 12 (.slice a S.length c) wr := PatSt.mono (K := 62) (m := 10) (z := 6) ⟨S, hS, by omega, hz, HS.out.2.2⟩ (by decide) (by decide) (by decide)
        have HP := Lib.hid hP
        have hn0 : ((S.length : Int) == 0) = true := by simpa using hl0
        rw [hl0] at HP ⊢
        clear hS hz hP HS hl0 hl10 hn0
        go_wp2_with fail
        refine (flip_any sb t3 20 _ hs3 (by omega) (by decide) (by decide)).mono ?_
        rintro e w7 ⟨⟨fl, rfl⟩, hr7⟩
        obtain ⟨S9, q1, q2, q3, q4⟩ := HP.out
        have hr8 := q4.then (by omega) (by omega) hr7
        have HP2 := Lib.hid (⟨row_ran q1 hr7 hsb, q2, q3, hr8⟩ : _ ∧ _ ∧ _ ∧ _)
        obtain ⟨ta, hta, hta', hsa⟩ := hr8.strm
        clear q1 q2 q3 q4 hr8 hr7 HP hs3
        cases fl with
        | false =>
          go_wp2_with fail
          go_ret2
          exact ⟨_, _, rfl, S9, HP2.out.1, HP2.out.2.1, HP2.out.2.2.1, HP2.out.2.2.2.mono (by decide)⟩
        | true =>
          go_wp2_with fail
          refine (odd_any sb ta 1 100 _ hsa (by omega) (by decide) (by decide) (by decide)).mono ?_
          rintro e w8 ⟨⟨z, _, _, rfl⟩, hr8⟩
          have HP3 := Lib.hid (⟨row_ran HP2.out.1 hr8 hsb, HP2.out.2.2.2.then hta hta' hr8⟩ : _ ∧ _)
          clear hr8 hsa
          go_wp2_with fail
          go_ret2
          exact ⟨_, _, rfl, S9, HP3.out.1, HP2.out.2.1, HP2.out.2.2.1, HP3.out.2.mono (by decide)⟩
      have hpos : (0 : Int) < (S.length : Int) := by omega
      have hn0 : ((S.length : Int) == 0) = false := by simpa using hl0
      clear hS hz
      go_wp2_with fail
      refine (flip_any sb t3 4 _ hs3 (by omega) (by decide) (by decide)).mono ?_
      rintro e w4 ⟨⟨fl, rfl⟩, hr4⟩
      have H4 := Lib.hid (⟨row_ran HS.out.1 hr4 hsb, HS.out.2.1, HS.out.2.2.then ht3 ht3' hr4⟩ : StrsAt w.heap.size w4 (.slice a S.length c) S ∧ _ ∧ _)
      clear hr4 hs3 HS
      go_upto_if 29 with (fail)
      go_cut [7] (fun v wx => ∃ (S : List (List UInt8)) (a : Option Addr) (c : Nat), v = .slice a S.length c ∧ 0 < S.length ∧ S.length ≤ 11 ∧ StrsAt w.heap.size wx (.slice a S.length c) S ∧ (∀ k, k < S.length → (S.getD k []).length ≤ 6) ∧ Ran sb t 63 w wx)
      case first =>
        cases fl with
        | false =>
          go_wp2_with fail
          go_meet
          exact ⟨S, a, c, rfl, by omega, by omega, H4.out⟩
        | true =>
          obtain ⟨g, rfl, hg, hcell⟩ : ∃ g, a = some ⟨g, 0, none⟩ ∧ g < w4.heap.size ∧ ∀ k, k < S.length → w4.cell? ⟨g, k, none⟩ = some (strV (S.getD k [])) := by
            obtain ⟨a', c', he, hop⟩ := strs_open H4.out.1
            obtain ⟨g, ha, hg, hcell⟩ := hop (by omega)
            injection he with h1 h2 h3
            exact ⟨g, h1.trans ha, hg, hcell⟩
          have hc0 := hcell 0 (by omega)
          obtain ⟨s0, hs0⟩ : ∃ s : ByteArray, s = ⟨(S.getD 0 []).toArray⟩ := ⟨_, rfl⟩
          have hw0 := word_dec _ s0 hs0
          change _ = some (Value.string ⟨(S.getD 0 []).toArray⟩) at hc0
          rw [← hs0] at hc0
          have hrow2 : w4.ownsRow w.heap.size 9 1 (.slice (some ⟨g, 0, none⟩) S.length c) S.length (S.map strV) := H4.out.1
          have hgl : w.heap.size ≤ w4.heap.size := H4.out.2.2.1.size
          have hq0 : s0.data.toList.length ≤ 6 := by rw [hw0.2]; exact H4.out.2.1 0 (by omega)
          clear hcell hs0 hw0
          go_wp2_with (at_builtin; refine wpList_append_own _ rfl _ _ 39 rfl w.heap.size 9 i0 (.string ⟨#[]⟩) 1 16 Tryz.underlying39 hi hz0 hz1 hz2 rfl (by decide) _ _ _ rfl (hrow2.alloc _) ⟨w4.heap.size, 0, none⟩ 1 1 [.string s0] rfl rfl ?d1 ?d2 ?d3 ?d4 ?d5 ?_)
          case d1 => exact cell_one_new _ _ _
          case d2 => simp [Value.oneCell']
          case d3 => unfold maxLen; omega
          case d4 => omega
          case d5 => simp; omega
          intro v' w5 hown' hg5 _
          have hr5 : Ran sb t 63 w w5 := (H4.out.2.2.alloc _).grown hg5 (fun j hj => (hrow2.lt j hj).1) hsb
          have hS5 := strs_snoc s0 hown'
          have hz5 := getD_snoc S s0.data.toList 6 H4.out.2.1 hq0
          have hl5 : 0 < (S ++ [s0.data.toList]).length ∧ (S ++ [s0.data.toList]).length ≤ 11 := by simp; omega
          obtain ⟨a4, c4, rfl, -⟩ := strs_open hS5
          have HP := Lib.hid (⟨hl5.1, hl5.2, hS5, hz5, hr5⟩ : _ ∧ _ ∧ _ ∧ _ ∧ _)
          clear hr5 hS5 hown' hg5 hrow2 H4 hz5 hl5 hc0
          generalize S ++ [s0.data.toList] = S5 at HP ⊢
          go_wp2_with fail
          go_meet
          exact ⟨S5, a4, c4, rfl, HP.out⟩
      case rest =>
        obtain ⟨S, a, c, rfl, hp, hl11, hS, hz, hr⟩ := hcut
        clear H4 hl0 hl10 hpos hn0
        have hl0 : ¬ S.length = 0 := by omega
        have hpos : (0 : Int) < (S.length : Int) := by omega
        have hn0 : ((S.length : Int) == 0) = false := by simpa using hl0
        obtain ⟨t5, ht5, ht5', hs5⟩ := hr.strm
        have HS := Lib.hid (⟨hS, hz, hr⟩ : _ ∧ _ ∧ _)
        clear hS hz hr
        go_wp2_with fail
        refine (flip_any sb t5 12 _ hs5 (by omega) (by decide) (by decide)).mono ?_
        rintro e w4 ⟨⟨fl, rfl⟩, hr4⟩
        have hr64 : Ran sb t 64 w w4 := HS.out.2.2.then ht5 ht5' hr4
        have H4 := Lib.hid (⟨row_ran HS.out.1 hr4 hsb, HS.out.2.1, hr64⟩ : StrsAt w.heap.size w4 (.slice a S.length c) S ∧ _ ∧ _)
        obtain ⟨t6, ht6, ht6', hs6⟩ := hr64.strm
        clear hr4 hs5 HS hr64
        go_upto_if 42 with (fail)
        go_cut [7] (fun v wx => ∃ (n : Nat) (a : Option Addr) (c : Nat), v = .slice a n c ∧ PatSt sb t 90 w 11 12 (.slice a n c) wx)
        case first =>
          cases fl with
          | false =>
            go_wp2_with fail
            go_meet
            exact ⟨_, a, c, rfl, PatSt.mono (K := 64) (m := 11) (z := 6) ⟨S, H4.out.1, hl11, H4.out.2.1, H4.out.2.2⟩ (by decide) (by decide) (by decide)⟩
          | true =>
            obtain ⟨g, rfl, hg, hcell⟩ : ∃ g, a = some ⟨g, 0, none⟩ ∧ g < w4.heap.size ∧ ∀ k, k < S.length → w4.cell? ⟨g, k, none⟩ = some (strV (S.getD k [])) := by
              obtain ⟨a', c', he, hop⟩ := strs_open H4.out.1
              obtain ⟨g, ha, hg, hcell⟩ := hop (by omega)
              injection he with h1 h2 h3
              exact ⟨g, h1.trans ha, hg, hcell⟩
            clear hcell
            go_wp2_with fail
            refine (next_any sb t6 (S.length : Int) _ hs6 (by omega) (by omega) (by omega)).mono ?_
            rintro e w5 ⟨⟨zi, hi0', hi1, rfl⟩, hr5⟩
            obtain ⟨i, rfl⟩ : ∃ i : Nat, zi = (i : Int) := ⟨zi.toNat, by omega⟩
            have hr65 : Ran sb t 65 w w5 := H4.out.2.2.then ht6 ht6' hr5
            have hrow5 := row_ran H4.out.1 hr5 hsb
            have hiS : i < S.length := by omega
            have hcl := hrow5.cellAt i (by omega)
            have hcf := hrow5.frozenAt i
            have hgB : w.heap.size ≤ g := (hrow5.lt g rfl).1
            obtain ⟨x, hx⟩ : ∃ s : ByteArray, s = ⟨(S.getD i []).toArray⟩ := ⟨_, rfl⟩
            have hwx := word_dec _ x hx
            have hxv : (S.map strV)[i]? = some (.string x) := by rw [hx]; simp [List.getD, hiS]
            rw [hxv] at hcl
            have hxz : x.size ≤ 6 := by have := hwx.1; have := H4.out.2.1 i hiS; omega
            have hgs : g ≠ sb := by omega
            obtain ⟨t8, ht8, ht8', hs8⟩ := hr65.strm
            have hlt5 := World.block_lt_of_cell? w5 ⟨g, i, none⟩ hcl
            have H5 := Lib.hid (⟨hrow5, hr65⟩ : _ ∧ _)
            have hs8d : Strm w5.drew sb t8 := hs8.kept fun _ _ => rfl
            have hbt : ∀ W, Strm W sb t8 → Calls Tryz.prog 90 #[.pointer (some ⟨sb, 0, none⟩), .int .i64 (IntKind.i64.wrap ((n : Int) + 1))] W fun e w' => (∃ s : ByteArray, s.size = n + 1 ∧ s.data.toList.all bitB = true ∧ e = .returned (.string s)) ∧ Ran sb t8 (n + 1) W w' := fun W h => by rw [IntWalk.i64_in _ (by omega)]; exact bits_any sb t8 (n + 1) W h (by omega)
            have hi2 : (i : Int) < (S.length : Int) := by omega
            have hi1 : (0 : Int) ≤ (i : Int) := by omega
            clear hrow5 hr65 hx hwx hxv hr5 hs6 hi0'
            go_wp2_with fail
            go_region_law (first
              | (go_simp; go_at_call 90; with_reducible refine (hbt _ hs8d).mono ?_; rintro e w6 ⟨⟨b, hbz, -, rfl⟩, hr6⟩; have hr6u := hr6.undrew; obtain ⟨t9, ht9, ht9', hs9⟩ := hr6u.strm; have hc6 := hr6u.cell hcl hgs; have hf6 := ran_frozen hr6u hgs hlt5 i hcf)
              | (go_simp; go_at_call 93; refine (changed_any sb t9 x ⟨#[50]⟩ _ hs9 (by omega) (by omega) (by decide) (by decide)).mono ?_; rintro e w7 ⟨⟨ch, hchz, rfl⟩, hr7⟩; have hr67 := hr6u.then ht9 ht9' hr7; obtain ⟨ta, hta, hta', hsa⟩ := hr67.strm; have hc7 := hr67.cell hcl hgs; have hf7 := ran_frozen hr67 hgs hlt5 i hcf)
              | (go_simp; go_at_call 92; refine (some_any sb ta w7.heap.size 0 4 4 (fun k => [x, ⟨#[]⟩, b, ch].getD k ⟨#[]⟩) _ (hsa.alloc _) (by omega) (by decide) (by decide) (by have := hsa.lt; omega) (strs_fresh w7 [x, ⟨#[]⟩, b, ch] _)).mono ?_; rintro e w8 ⟨⟨kk, hkk, rfl⟩, hr8⟩; have hr8u := hr67.then hta hta' hr8.after_alloc; have hc8 := hr8u.cell hcl hgs; have hf8 := ran_frozen hr8u hgs hlt5 i hcf; have h50 : (⟨#[50]⟩ : ByteArray).size = 1 := rfl; have hzr := pick4 x b ch 12 (by omega) (by omega) (by omega) kk hkk; generalize ([x, ⟨#[]⟩, b, ch].getD kk ⟨#[]⟩ : ByteArray) = r at hzr ⊢))
            all_goals
              have hr8v := H5.out.2.then ht8 ht8' hr8u
              have hput := strs_put (i := i) r (row_ran H5.out.1 hr8u hsb)
              have hP : PatSt sb t 90 w 11 12 (.slice (some ⟨g, 0, none⟩) S.length c) (w8.setCell ⟨g, i, none⟩ (.string r)) := ⟨S.set i r.data.toList, hput, by simpa using hl11, getD_put S i _ 12 (fun k hk => by have := H4.out.2.1 k hk; omega) (by simpa using hzr), (hr8v.setCell hgB hsb _).mono (by omega)⟩
              have HP := Lib.hid hP
              clear hP hput hr8v
              generalize w8.setCell ⟨g, i, none⟩ (.string r) = wz at HP ⊢
              go_wp2_with fail
              go_meet
              exact ⟨_, _, c, rfl, HP.out⟩
        case rest =>
          obtain ⟨n5, a5, c5, rfl, hP⟩ := hcut
          obtain ⟨S6, q1, q2, q3, q4⟩ := hP
          obtain ⟨t7, ht7, ht7', hs7⟩ := q4.strm
          have HP := Lib.hid (⟨S6, q1, q2, q3, q4⟩ : PatSt sb t 90 w 11 12 _ wc)
          clear H4 q1 q2 q3 q4 hs6
          go_wp2_with fail
          refine (flip_any sb t7 20 _ hs7 (by omega) (by decide) (by decide)).mono ?_
          rintro e w7 ⟨⟨fl, rfl⟩, hr7⟩
          obtain ⟨S9, q1, q2, q3, q4⟩ := HP.out
          have hr8 := q4.then (by omega) (by omega) hr7
          have HP2 := Lib.hid (⟨row_ran q1 hr7 hsb, q2, q3, hr8⟩ : _ ∧ _ ∧ _ ∧ _)
          obtain ⟨ta, hta, hta', hsa⟩ := hr8.strm
          clear q1 q2 q3 q4 hr8 hr7 HP hs7
          cases fl with
          | false =>
            go_wp2_with fail
            go_ret2
            exact ⟨_, _, rfl, S9, HP2.out.1, HP2.out.2.1, HP2.out.2.2.1, HP2.out.2.2.2.mono (by decide)⟩
          | true =>
            go_wp2_with fail
            refine (odd_any sb ta 1 100 _ hsa (by omega) (by decide) (by decide) (by decide)).mono ?_
            rintro e w8 ⟨⟨z, _, _, rfl⟩, hr8⟩
            have HP3 := Lib.hid (⟨row_ran HP2.out.1 hr8 hsb, HP2.out.2.2.2.then hta hta' hr8⟩ : _ ∧ _)
            clear hr8 hsa
            go_wp2_with fail
            go_ret2
            exact ⟨_, _, rfl, S9, HP3.out.1, HP2.out.2.1, HP2.out.2.2.1, HP3.out.2.mono (by decide)⟩
end Go.Proofs.YtoipgliokelcfaaGreatDoor
