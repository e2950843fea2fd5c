/- The maker of words: WordList. -/
import Derived.Test.YtfoocnhfppjbbaaGreatDoorMkF
namespace Go.Proofs.YtfoocnhfppjbbaaGreatDoor
open Go.RowKit

theorem IRow.push {B n : Nat} {w4 : World} {v' : Value} {l : List Int} (z : Int) (hl : l.length = n) (hown : w4.ownsRow B 3 1 v' (n + 1) (l.map (Value.int .i64) ++ [.int .i64 z])) : IRow B (n + 1) w4 v' :=
  ⟨l ++ [z], by simp [hl], by rw [List.map_append]; exact hown⟩
set_option maxHeartbeats 1600000 in
set_option maxRecDepth 100000 in
theorem wordList_any (sb t : Nat) (S : List Int) (hz : S.length ≤ 1000) (w : World) (v : Value) (h : NumsAt w v S) (hs : Strm w sb t) (ht : t ≤ 1000000) :
    Calls Tryz.prog 6 #[.pointer (some ⟨sb, 0, none⟩), .agg #[v]] w fun e w' => (∃ v' L, e = .returned v' ∧ L.length ≤ 100 ∧ NumsAt w' v' L ∧ Ahead w.heap.size v') ∧ Ran sb t 90 w w' := by
  have hsb := hs.lt
  obtain ⟨W1, hW1⟩ : ∃ W1 : World, W1 = w.alloc (.cells #[v] 27) := ⟨_, rfl⟩
  have hB1 : Below w.heap.size w W1 := by rw [hW1]; exact (Below.refl _ _).alloc (Nat.le_refl _) _
  have hc0 : W1.cell? ⟨w.heap.size, 0, none⟩ = some v := by rw [hW1]; simp
  have hl1 : w.heap.size < W1.heap.size := World.block_lt_of_cell? W1 ⟨w.heap.size, 0, none⟩ hc0
  have h1 := h.later hB1
  have hs1 : Strm W1 sb t := by rw [hW1]; exact hs.alloc _
  have hr1 : Ran sb t 0 w W1 := by rw [hW1]; exact (Ran.refl hs).alloc _
  obtain ⟨a, c, rfl, -, hop⟩ := h1
  obtain ⟨i0, hi, hz0, hz1, hz2⟩ := info_parts Tryz.infoInt1
  obtain ⟨n, hn⟩ : ∃ n, n = S.length := ⟨_, rfl⟩
  rw [← hn] at hop hc0 hW1 hz ⊢
  have HC := Lib.hid (⟨hop, hr1, hs1, hn⟩ : _ ∧ _ ∧ _ ∧ _)
  have HW := Lib.hid hW1
  clear h hop hr1 hs1 hW1 hs hB1 hn
  go_enter Tryz.func6, Tryz.ntmps6
  go_wp2_with fail
  rw [← HW.out]
  go_loopw [5, 12] (fun s ix wr => ∃ (k : Nat) (z : Int), k ≤ n ∧ ix = .int .i64 (k : Int) ∧ s = .int .i64 z ∧ wr = W1) (fun _ ix _ => n - (intOf ix).toNat)
  case atStart => exact ⟨0, 0, by omega, rfl, rfl, rfl⟩
  case round =>
    obtain ⟨k, z, hk, rfl, rfl, rfl⟩ := hrel
    by_cases hlt : k < n
    · obtain ⟨g, o, rfl, hg, hcell⟩ := HC.out.1 (by omega)
      have hc := hcell k hlt
      obtain ⟨x, hx⟩ : ∃ x, x = S.getD k 0 := ⟨_, rfl⟩
      rw [← hx] at hc
      have k0 : (0 : Int) ≤ (k : Int) := by omega
      have k1 : (k : Int) < (n : Int) := by omega
      clear hcell hx
      go_wp2_with fail
      go_roundw
      case rel => exact ⟨k + 1, _, by omega, by go_num, rfl, trivial⟩
      case measure => simp [intOf]; omega
    · obtain rfl : k = n := by omega
      go_wp2_with fail
      obtain ⟨mz, hmz⟩ : ∃ mz : Int, mz = min z 40 := ⟨_, rfl⟩
      rw [← hmz]
      have hm40 : mz ≤ 40 := by omega
      clear hmz
      go_loopw [8, 23] (fun o ix wr => ∃ i : Nat, (i : Int) ≤ max mz 0 ∧ ix = .int .i64 (i : Int) ∧ IRow w.heap.size i wr o ∧ Ran sb t (2 * i) w wr) (fun _ ix _ => 41 - (intOf ix).toNat)
      case atStart => exact ⟨0, by omega, rfl, IRow.nil _ _, HC.out.2.1⟩
      case round =>
        obtain ⟨i, hi40, rfl, hrow, hr⟩ := hrel
        obtain ⟨va, vc, rfl⟩ := hrow.form
        obtain ⟨t6, ht6, ht6', hs6⟩ := hr.strm
        have hzr : w.heap.size ≤ wr.heap.size := hr.size
        by_cases hlt : (i : Int) < mz
        · have hnx := next_any sb t6 65536 wr hs6 (by omega) (by decide) (by decide)
          have HR := Lib.hid (⟨hrow, hr⟩ : _ ∧ _)
          clear hrow hr hs6
          go_wp2_with fail
          refine hnx.mono ?_
          rintro e w3 ⟨⟨x, x0, x1, rfl⟩, hr3⟩
          obtain ⟨t7, ht7, ht7', hs7⟩ := hr3.strm
          have hz3 : wr.heap.size ≤ w3.heap.size := hr3.size
          have hpk := pick_any sb t7 w3.heap.size 0 7 7 (fun k => ([65535, 65535, 0, 1, 3, 65534, x] : List Int).getD k 0) _ (hs7.alloc _) (by omega) (by decide) (by decide) (by omega) (cells_fresh w3 ([65535, 65535, 0, 1, 3, 65534, x] : List Int) 3)
          have HR3 := Lib.hid hr3
          clear hnx hr3 hs7
          go_wp2_with fail
          refine hpk.mono ?_
          rintro e w5 ⟨⟨kk, hkk, rfl⟩, hr5⟩
          have hr5 := hr5.after_alloc
          dsimp only
          generalize ([65535, 65535, 0, 1, 3, 65534, x] : List Int).getD kk 0 = y
          have hr35 := HR3.out.then ht7 ht7' hr5
          have hz5 : w.heap.size ≤ w5.heap.size := by have := hr5.size; omega
          have HY := Lib.hid (⟨HR.out.1.ran hr35 hsb, HR.out.2.then ht6 ht6' hr35⟩ : _ ∧ _)
          obtain ⟨l4, hl4⟩ := HY.out.1
          clear hpk hr5 hr35
          go_wp2_with (at_builtin; refine wpList_append_lies _ rfl _ _ 22 rfl w.heap.size 3 i0 (.int .i64 0) 1 8 Tryz.underlying22 hi hz0 hz1 hz2 rfl (by decide) _ _ _ rfl (hl4.2.alloc _) ⟨w5.heap.size, 0, none⟩ 1 1 [.int .i64 y] rfl rfl (cell_one_new _ _ _) (by simp [Value.oneCell']) (by decide) (by unfold maxLen; omega) (by omega) (by simp; omega) _ rfl ?_)
          intro g4 cap4 w6 hown hg hat hlt4
          have hfin : IRow w.heap.size (i + 1) w6 (.slice (some ⟨g4, 0, none⟩) (i + 1) cap4) := IRow.push y hl4.1 hown
          have hrf := (HY.out.2.alloc (.cells #[.int .i64 y] 3)).grown hg (fun j hj => (hl4.2.lt j hj).1) hsb
          have HZ := Lib.hid (⟨hfin, hrf.mono (show _ ≤ 2 * (i + 1) by omega)⟩ : _ ∧ _)
          clear hfin hrf hown hg hat hlt4
          go_wp2_with fail
          go_roundw
          case rel => exact ⟨i + 1, by omega, by go_num, HZ.out.1, HZ.out.2⟩
          case measure => simp [intOf]; omega
        · have hi4 : i ≤ 40 := by omega
          by_cases hi0 : 0 < i
          · have hi1 : (0 : Int) < (i : Int) := by omega
            obtain ⟨g, vc2, hsl, hgb, hgl⟩ := hrow.block hi0
            injection hsl with x1 x2 x3
            subst x1
            clear x2 x3
            have hfl := flip_any sb t6 20 wr hs6 (by omega) (by decide) (by decide)
            have HR := Lib.hid (⟨hrow, hr⟩ : _ ∧ _)
            clear hrow hr hs6
            go_wp2_with fail
            refine hfl.mono ?_
            rintro e w3 ⟨⟨b3, rfl⟩, hr3⟩
            have HR3 := Lib.hid (⟨HR.out.1.ran hr3 hsb, HR.out.2.then ht6 ht6' hr3⟩ : _ ∧ _)
            clear hfl hr3
            cases b3 with
            | true =>
              obtain ⟨t7, ht7, ht7', hs7⟩ := HR3.out.2.strm
              have hnx := next_any sb t7 (i : Int) w3 hs7 (by omega) (by omega) (by omega)
              clear hs7
              go_wp2_with fail
              refine hnx.mono ?_
              rintro e w4 ⟨⟨q, q0, q1, rfl⟩, hr4⟩
              obtain ⟨q, rfl⟩ : ∃ z : Nat, q = (z : Int) := ⟨q.toNat, by omega⟩
              have HR4 := Lib.hid (⟨HR3.out.1.ran hr4 hsb, HR3.out.2.then ht7 ht7' hr4⟩ : _ ∧ _)
              obtain ⟨t8, ht8, ht8', hs8⟩ := HR4.out.2.strm
              have hz4 : w.heap.size ≤ w4.heap.size := HR4.out.2.size
              have hpk := pick_any sb t8 w4.heap.size 0 2 2 (fun k => ([-1, 65536] : List Int).getD k 0) _ (hs8.alloc _) (by omega) (by decide) (by decide) (by omega) (cells_fresh w4 ([-1, 65536] : List Int) 3)
              clear hnx hr4 hs8
              go_wp2_with fail
              refine hpk.mono ?_
              rintro e w5 ⟨⟨kk, hkk, rfl⟩, hr5⟩
              have hr5 := hr5.after_alloc
              dsimp only
              generalize ([-1, 65536] : List Int).getD kk 0 = y
              have hrw5 := HR4.out.1.ran hr5 hsb
              obtain ⟨x5, c5, f5⟩ := hrw5.cell (i := q) (by omega)
              have q2 : (q : Int) < (i : Int) := q1
              have HX := Lib.hid (⟨hrw5.put (i := q) y, ((HR4.out.2.then ht8 ht8' hr5).mono (show _ ≤ 86 by omega)).setCell (a := ⟨g, q, none⟩) hgb hsb (.int .i64 y)⟩ : _ ∧ _)
              clear hpk hr5 hrw5
              go_wp2_with fail
              generalize w5.setCell ⟨g, q, none⟩ (.int .i64 y) = w7 at HX ⊢
              clear c5 f5
              obtain ⟨t9, ht9, ht9', hs9⟩ := HX.out.2.strm
              have hfl9 := flip_any sb t9 30 w7 hs9 (by omega) (by decide) (by decide)
              clear hs9
              go_wp2_with fail
              refine hfl9.mono ?_
              rintro e w9 ⟨⟨b9, rfl⟩, hr9⟩
              have HY := Lib.hid (⟨HX.out.1.ran hr9 hsb, HX.out.2.then ht9 ht9' hr9⟩ : _ ∧ _)
              clear hfl9 hr9
              cases b9 with
              | true =>
                have hz9 : w.heap.size ≤ w9.heap.size := HY.out.2.size
                obtain ⟨l4, hl4⟩ := HY.out.1
                go_wp2_with (at_builtin; refine wpList_append_lies _ rfl _ _ 22 rfl w.heap.size 3 i0 (.int .i64 0) 1 8 Tryz.underlying22 hi hz0 hz1 hz2 rfl (by decide) _ _ _ rfl (hl4.2.alloc _) ⟨w9.heap.size, 0, none⟩ 1 1 [.int .i64 0] rfl rfl (cell_one_new _ _ _) (by simp [Value.oneCell']) (by decide) (by unfold maxLen; omega) (by omega) (by simp; omega) _ rfl ?_)
                intro g4 cap4 w6 hown hg hat hlt4
                have hfin : IRow w.heap.size (i + 1) w6 (.slice (some ⟨g4, 0, none⟩) (i + 1) cap4) := IRow.push 0 hl4.1 hown
                have hrf := (HY.out.2.alloc (.cells #[.int .i64 0] 3)).grown hg (fun j hj => (hl4.2.lt j hj).1) hsb
                obtain ⟨l5, h5, hN, hA⟩ := hfin.nums
                have HZ := Lib.hid (⟨hN, hA, hrf.mono (show _ ≤ 90 by omega)⟩ : _ ∧ _ ∧ _)
                clear hfin hrf hown hg hat hlt4 hN hA
                go_wp2_with fail
                go_ret
                exact ⟨⟨_, l5, rfl, by omega, HZ.out.1, HZ.out.2.1⟩, HZ.out.2.2⟩
              | false =>
                obtain ⟨l5, h5, hN, hA⟩ := HY.out.1.nums
                have HZ := Lib.hid (⟨hN, hA, HY.out.2.mono (show _ ≤ 90 by omega)⟩ : _ ∧ _ ∧ _)
                clear hN hA
                go_wp2_with fail
                go_ret
                exact ⟨⟨_, l5, rfl, by omega, HZ.out.1, HZ.out.2.1⟩, HZ.out.2.2⟩
            | false =>
              have HX := Lib.hid (⟨HR3.out.1, HR3.out.2.mono (show _ ≤ 86 by omega)⟩ : _ ∧ _)
              clear HR3
              obtain ⟨t9, ht9, ht9', hs9⟩ := HX.out.2.strm
              have hfl9 := flip_any sb t9 30 w3 hs9 (by omega) (by decide) (by decide)
              clear hs9
              go_wp2_with fail
              refine hfl9.mono ?_
              rintro e w9 ⟨⟨b9, rfl⟩, hr9⟩
              have HY := Lib.hid (⟨HX.out.1.ran hr9 hsb, HX.out.2.then ht9 ht9' hr9⟩ : _ ∧ _)
              clear hfl9 hr9
              cases b9 with
              | true =>
                have hz9 : w.heap.size ≤ w9.heap.size := HY.out.2.size
                obtain ⟨l4, hl4⟩ := HY.out.1
                go_wp2_with (at_builtin; refine wpList_append_lies _ rfl _ _ 22 rfl w.heap.size 3 i0 (.int .i64 0) 1 8 Tryz.underlying22 hi hz0 hz1 hz2 rfl (by decide) _ _ _ rfl (hl4.2.alloc _) ⟨w9.heap.size, 0, none⟩ 1 1 [.int .i64 0] rfl rfl (cell_one_new _ _ _) (by simp [Value.oneCell']) (by decide) (by unfold maxLen; omega) (by omega) (by simp; omega) _ rfl ?_)
                intro g4 cap4 w6 hown hg hat hlt4
                have hfin : IRow w.heap.size (i + 1) w6 (.slice (some ⟨g4, 0, none⟩) (i + 1) cap4) := IRow.push 0 hl4.1 hown
                have hrf := (HY.out.2.alloc (.cells #[.int .i64 0] 3)).grown hg (fun j hj => (hl4.2.lt j hj).1) hsb
                obtain ⟨l5, h5, hN, hA⟩ := hfin.nums
                have HZ := Lib.hid (⟨hN, hA, hrf.mono (show _ ≤ 90 by omega)⟩ : _ ∧ _ ∧ _)
                clear hfin hrf hown hg hat hlt4 hN hA
                go_wp2_with fail
                go_ret
                exact ⟨⟨_, l5, rfl, by omega, HZ.out.1, HZ.out.2.1⟩, HZ.out.2.2⟩
              | false =>
                obtain ⟨l5, h5, hN, hA⟩ := HY.out.1.nums
                have HZ := Lib.hid (⟨hN, hA, HY.out.2.mono (show _ ≤ 90 by omega)⟩ : _ ∧ _ ∧ _)
                clear hN hA
                go_wp2_with fail
                go_ret
                exact ⟨⟨_, l5, rfl, by omega, HZ.out.1, HZ.out.2.1⟩, HZ.out.2.2⟩
          · obtain rfl : i = 0 := by omega
            have HX := Lib.hid (⟨hrow, hr.mono (show _ ≤ 86 by omega)⟩ : _ ∧ _)
            clear hrow hr hs6
            go_wp2_with fail
            obtain ⟨t9, ht9, ht9', hs9⟩ := HX.out.2.strm
            have hfl9 := flip_any sb t9 30 wr hs9 (by omega) (by decide) (by decide)
            clear hs9
            go_wp2_with fail
            refine hfl9.mono ?_
            rintro e w9 ⟨⟨b9, rfl⟩, hr9⟩
            have HY := Lib.hid (⟨HX.out.1.ran hr9 hsb, HX.out.2.then ht9 ht9' hr9⟩ : _ ∧ _)
            clear hfl9 hr9
            cases b9 with
            | true =>
              have hz9 : w.heap.size ≤ w9.heap.size := HY.out.2.size
              obtain ⟨l4, hl4⟩ := HY.out.1
              go_wp2_with (at_builtin; refine wpList_append_lies _ rfl _ _ 22 rfl w.heap.size 3 i0 (.int .i64 0) 1 8 Tryz.underlying22 hi hz0 hz1 hz2 rfl (by decide) _ _ _ rfl (hl4.2.alloc _) ⟨w9.heap.size, 0, none⟩ 1 1 [.int .i64 0] rfl rfl (cell_one_new _ _ _) (by simp [Value.oneCell']) (by decide) (by unfold maxLen; omega) (by omega) (by simp; omega) _ rfl ?_)
              intro g4 cap4 w6 hown hg hat hlt4
              have hfin : IRow w.heap.size (0 + 1) w6 (.slice (some ⟨g4, 0, none⟩) (0 + 1) cap4) := IRow.push 0 hl4.1 hown
              have hrf := (HY.out.2.alloc (.cells #[.int .i64 0] 3)).grown hg (fun j hj => (hl4.2.lt j hj).1) hsb
              obtain ⟨l5, h5, hN, hA⟩ := hfin.nums
              have HZ := Lib.hid (⟨hN, hA, hrf.mono (show _ ≤ 90 by omega)⟩ : _ ∧ _ ∧ _)
              clear hfin hrf hown hg hat hlt4 hN hA
              go_wp2_with fail
              go_ret
              exact ⟨⟨_, l5, rfl, by omega, HZ.out.1, HZ.out.2.1⟩, HZ.out.2.2⟩
            | false =>
              obtain ⟨l5, h5, hN, hA⟩ := HY.out.1.nums
              have HZ := Lib.hid (⟨hN, hA, HY.out.2.mono (show _ ≤ 90 by omega)⟩ : _ ∧ _ ∧ _)
              clear hN hA
              go_wp2_with fail
              go_ret
              exact ⟨⟨_, l5, rfl, by omega, HZ.out.1, HZ.out.2.1⟩, HZ.out.2.2⟩
end Go.Proofs.YtfoocnhfppjbbaaGreatDoor
/- The stream's start, its Odd. -/
namespace Go.Proofs.YtfoocnhfppjbbaaGreatDoor
open Go.RowKit

/-- What the law asks of the slice that it is handed. -/
def RowIn (w : World) (a : Option Addr) (len : Nat) : Prop :=
  len ≤ 140737488355328 ∧ (0 < len → ∃ b off, a = some ⟨b, off, none⟩ ∧ b < w.heap.size ∧ ∀ k, k < len → ∃ z : Int, w.cell? ⟨b, off + k, none⟩ = some (.int .i64 z) ∧ -9223372036854775808 ≤ z ∧ z ≤ 9223372036854775807)

theorem Strm.start {w : World} {a : Option Addr} {len cap : Nat} (h : RowIn w a len) : Strm (w.alloc (.cells #[.slice a len cap, .int .i64 0] 25)) w.heap.size 0 := by
  obtain ⟨hlen, hrow⟩ := h
  refine ⟨cell_new1 _ _ _ rfl, ?_, a, len, cap, cell_new1 _ _ _ rfl, hlen, fun h0 => ?_⟩
  · simp
  · obtain ⟨b, off, e, hb, hz⟩ := hrow h0
    refine ⟨b, off, e, hb, fun k hk => ?_⟩
    obtain ⟨z, hz1, hz2⟩ := hz k hk
    exact ⟨z, by rw [World.cell?_alloc_lt _ _ _ hb]; exact hz1, hz2⟩
end Go.Proofs.YtfoocnhfppjbbaaGreatDoor
