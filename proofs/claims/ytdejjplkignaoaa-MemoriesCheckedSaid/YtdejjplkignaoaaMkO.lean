/- The maker of operations: OpList. Made by gens/mko.py. -/
import Derived.Test.YtdejjplkignaoaaMkS
import Derived.Test.YtdejjplkignaoaaMcZ
import Derived.Test.YtdejjplkignaoaaTill
namespace Go.Proofs.Ytdejjplkignaoaa
open Go.RowKit

/-- A row of n operations that lies at or beyond B. -/
def ORow (B n : Nat) (w : World) (v : Value) : Prop := ∃ O : List Opn, O.length = n ∧ w.ownsRow B 57 3 v n (cellsOf O)
theorem ORow.nil (B : Nat) (w : World) : ORow B 0 w (.slice none 0 0) := ⟨[], rfl, World.ownsRow_nil _ _ _ _⟩
theorem ORow.form {B n : Nat} {w : World} {v : Value} (h : ORow B n w v) : ∃ a c, v = .slice a n c := by
  obtain ⟨l, -, -, ⟨e, h0⟩ | ⟨g, cap, cur, e, -⟩⟩ := h
  · exact ⟨Option.none, 0, by rw [e, h0]⟩
  · exact ⟨_, _, e⟩
theorem ORow.block {B n : Nat} {w : World} {v : Value} (h : ORow B n w v) (hn : 0 < n) : ∃ g c, v = .slice (some ⟨g, 0, none⟩) n c ∧ B ≤ g ∧ g < w.heap.size := by
  obtain ⟨l, -, hr⟩ := h
  obtain ⟨-, ⟨e, h0⟩ | ⟨g, cap, cur, e, h1, h2, -⟩⟩ := hr
  · omega
  · exact ⟨g, cap, e, h1, (Array.getElem?_eq_some_iff.1 h2).1⟩
theorem ORow.ran {sb t K B n : Nat} {w w' : World} {v : Value} (h : ORow B n w v) (hr : Ran sb t K w w') (hB : sb < B) : ORow B n w' v := by
  obtain ⟨l, hl, hrow⟩ := h
  exact ⟨l, hl, row_ran hrow hr hB⟩
theorem cellsOf_set : ∀ (O : List Opn) (j : Nat) (z : Int), ∃ O' : List Opn, O'.length = O.length ∧ (cellsOf O).set j (.int .i64 z) = cellsOf O'
  | [], j, z => ⟨[], rfl, rfl⟩
  | o :: O, 0, z => ⟨(z, o.2) :: O, rfl, rfl⟩
  | o :: O, 1, z => ⟨(o.1, z, o.2.2) :: O, rfl, rfl⟩
  | o :: O, 2, z => ⟨(o.1, o.2.1, z) :: O, rfl, rfl⟩
  | o :: O, j + 3, z => by
    obtain ⟨O', h1, h2⟩ := cellsOf_set O j z
    refine ⟨o :: O', by simp [h1], ?_⟩
    show Value.int .i64 o.1 :: .int .i64 o.2.1 :: .int .i64 o.2.2 :: (cellsOf O).set j (.int .i64 z) = _
    rw [h2]
    rfl
theorem ORow.put {B g c n i : Nat} {w : World} (h : ORow B n w (.slice (some ⟨g, 0, none⟩) n c)) (z : Int) : ORow B n (w.setCell ⟨g, i, none⟩ (.int .i64 z)) (.slice (some ⟨g, 0, none⟩) n c) := by
  obtain ⟨l, hl, hrow⟩ := h
  obtain ⟨l', h1, h2⟩ := cellsOf_set l i z
  refine ⟨l', h1.trans hl, ?_⟩
  rw [← h2]
  exact (World.ownsRow.stored hrow i (.int .i64 z)).1
theorem ORow.cell {B g c n : Nat} {w : World} (h : ORow B n w (.slice (some ⟨g, 0, none⟩) n c)) {i : Nat} (hi : i < n) : (∃ x : Int, w.cell? ⟨g, i * 3, none⟩ = some (.int .i64 x)) ∧ (∃ x : Int, w.cell? ⟨g, i * 3 + 1, none⟩ = some (.int .i64 x)) ∧ (∃ x : Int, w.cell? ⟨g, i * 3 + 2, none⟩ = some (.int .i64 x)) ∧ ∀ j, w.frozen? ⟨g, j, none⟩ = false := by
  obtain ⟨l, hl, hrow⟩ := h
  obtain ⟨h1, h2, h3⟩ := cellsOf_at l i (by omega)
  exact ⟨⟨_, (hrow.cellAt (i * 3) (by omega)).trans h1⟩, ⟨_, (hrow.cellAt (i * 3 + 1) (by omega)).trans h2⟩, ⟨_, (hrow.cellAt (i * 3 + 2) (by omega)).trans h3⟩, fun j => hrow.frozenAt j⟩
theorem ORow.ops {B n : Nat} {w : World} {v : Value} (h : ORow B n w v) : ∃ O : List Opn, O.length = n ∧ OpsAt w v O ∧ Ahead B v := by
  obtain ⟨l, hl, hrow⟩ := h
  subst hl
  refine ⟨l, rfl, ops_of_owns hrow, fun a n c hh => ?_⟩
  exact (hrow.lt a.block (by rw [hh]; rfl)).1
theorem ORow.push {B n : Nat} {w4 : World} {v' : Value} {l : List Opn} (k a v : Int) (hl : l.length = n) (hown : w4.ownsRow B 57 3 v' (n + 1) (cellsOf l ++ [.int .i64 k, .int .i64 a, .int .i64 v])) : ORow B (n + 1) w4 v' :=
  ⟨l ++ [(k, a, v)], by simp [hl], by rw [cellsOf_snoc]; exact hown⟩
theorem OpsAt.ran {sb t K B : Nat} {w w' : World} {v : Value} {l : List Opn} (h : OpsAt w v l) (ha : Ahead B v) (hr : Ran sb t K w w') (hB : sb < B) : OpsAt w' v l := by
  obtain ⟨a, c, h1, h2, h3⟩ := h
  refine ⟨a, c, h1, h2, fun h0 => ?_⟩
  obtain ⟨g, o, rfl, h5, h6⟩ := h3 h0
  have hg : B ≤ g := ha _ _ _ h1
  have hne : g ≠ sb := by omega
  exact ⟨g, o, rfl, Nat.lt_of_lt_of_le h5 hr.size, fun j hj => ⟨hr.cell (h6 j hj).1 hne, hr.cell (h6 j hj).2.1 hne, hr.cell (h6 j hj).2.2 hne⟩⟩
theorem cells3_new (w : World) (x y z : Int) (t : TypeId) : ∀ j u, [Value.int .i64 x, .int .i64 y, .int .i64 z][j]? = some u → (w.alloc (.cells #[.int .i64 x, .int .i64 y, .int .i64 z] t)).cell? ((⟨w.heap.size, 0, none⟩ : Addr).add j) = some u := by
  intro j u hj
  match j, hj with
  | 0, hj => cases hj; exact cell_new1 _ _ _ rfl
  | 1, hj => cases hj; exact cell_new1 _ _ _ rfl
  | 2, hj => cases hj; exact cell_new1 _ _ _ rfl
theorem cell_more {W : World} {a : Addr} {v : Value} {o : Obj} (h : W.cell? a = some v) : (W.alloc o).cell? a = some v := (World.cell?_alloc_lt _ _ _ (World.block_lt_of_cell? W a h)).trans h
set_option maxHeartbeats 2400000 in
set_option maxRecDepth 100000 in
theorem opList_any (sb t : Nat) (S : List Int) (hz : S.length ≤ 1000) (w : World) (v : Value) (h : NumsAt w v S) (hs : Strm w sb t) (ht : t ≤ 900000) :
    Calls Try.prog 8 #[.pointer (some ⟨sb, 0, none⟩), .agg #[v]] w fun e w' => (∃ v' O, e = .returned v' ∧ O.length ≤ 10 ∧ OpsAt w' v' O ∧ Ahead w.heap.size v') ∧ Ran sb t 40 w w' := by
  have hsb := hs.lt
  obtain ⟨W1, hW1⟩ : ∃ W1 : World, W1 = w.alloc (.cells #[v] 27) := ⟨_, rfl⟩
  have hc0 : W1.cell? ⟨w.heap.size, 0, none⟩ = some v := by rw [hW1]; simp
  have hs1 : Strm W1 sb t := by rw [hW1]; exact hs.alloc _
  have hr1 : Ran sb t 0 w W1 := by rw [hW1]; exact (Ran.refl hs).alloc _
  obtain ⟨a, c, rfl, -, -⟩ := h
  obtain ⟨i0, hi, hz0, hz1, hz2⟩ := info_parts Try.infoOp
  have hund : Try.prog.underlying 30 = some (.slice 57) := by kernel_rfl
  obtain ⟨n, hn⟩ : ∃ n, n = S.length := ⟨_, rfl⟩
  rw [← hn] at hc0 hW1 hz ⊢
  have hrg := range_any sb t 0 8 W1 hs1 (by omega) (by decide) (by decide) (by decide)
  have HW := Lib.hid hW1
  have H1 := Lib.hid (⟨hc0, hr1⟩ : _ ∧ _)
  clear hc0 hr1 hs1 hW1 hs hn
  go_enter Try.func8, Try.ntmps8
  go_wp2_with fail
  rw [← HW.out]
  refine hrg.mono ?_
  rintro e w2 ⟨⟨r, r0, r1, rfl⟩, hr2⟩
  obtain ⟨r, rfl⟩ : ∃ q : Nat, r = (q : Int) := ⟨r.toNat, by omega⟩
  have hrr : r ≤ 8 := by omega
  have H2 := Lib.hid (⟨hr2.cell H1.out.1 (show w.heap.size ≠ sb by omega), H1.out.2.then (Nat.le_refl _) (by omega) hr2⟩ : _ ∧ _)
  clear hrg hr2
  go_wp2_with fail
  go_loopw [5, 9] (fun o ix wr => ∃ i : Nat, i ≤ r ∧ ix = .int .i64 (i : Int) ∧ ORow (w.heap.size + 1) i wr o ∧ Ran sb t (1 + 3 * i) w wr ∧ wr.cell? ⟨w.heap.size, 0, none⟩ = some (.slice a n c)) (fun _ ix _ => r - (intOf ix).toNat)
  case atStart => exact ⟨0, by omega, rfl, ORow.nil _ _, H2.out.2.mono (by omega), H2.out.1⟩
  case round =>
    obtain ⟨i, hir, rfl, hrow, hr, hcb⟩ := hrel
    obtain ⟨va, vc, rfl⟩ := hrow.form
    obtain ⟨t6, ht6, ht6', hs6⟩ := hr.strm
    have hzr : w.heap.size < wr.heap.size := World.block_lt_of_cell? wr ⟨w.heap.size, 0, none⟩ hcb
    by_cases hlt : i < r
    · have v0 : (0 : Int) ≤ (i : Int) := by omega
      have v1 : (i : Int) < (r : Int) := by omega
      have hfl := flip_any sb t6 3 wr hs6 (by omega) (by decide) (by decide)
      have HR := Lib.hid (⟨hrow, hr, hcb⟩ : _ ∧ _ ∧ _)
      clear hrow hr hs6 hcb
      go_wp2_with fail
      refine hfl.mono ?_
      rintro e w3 ⟨⟨b3, rfl⟩, hr3⟩
      have hcb := hr3.cell HR.out.2.2 (show w.heap.size ≠ sb by omega)
      have hzr3 : w.heap.size < w3.heap.size := World.block_lt_of_cell? w3 ⟨w.heap.size, 0, none⟩ hcb
      have HR3 := Lib.hid (⟨HR.out.1.ran hr3 (by omega), HR.out.2.1.then ht6 ht6' hr3⟩ : _ ∧ _)
      obtain ⟨t7, ht7, ht7', hs7⟩ := HR3.out.2.strm
      clear hfl hr3
      cases b3 with
      | true =>
        have hnx := next_any sb t7 (max 1 (n : Int)) w3 hs7 (by omega) (by omega) (by omega)
        clear hs7
        go_wp2_with fail
        refine hnx.mono ?_
        rintro e w4 ⟨⟨q, q0, q1, rfl⟩, hr4⟩
        have hcb4 := hr4.cell hcb (show w.heap.size ≠ sb by omega)
        have hzr4 : w.heap.size < w4.heap.size := World.block_lt_of_cell? w4 ⟨w.heap.size, 0, none⟩ hcb4
        have HY := Lib.hid (⟨HR3.out.1.ran hr4 (by omega), (HR3.out.2.then ht7 ht7' hr4).mono (show _ ≤ 1 + 3 * (i + 1) by omega)⟩ : _ ∧ _)
        obtain ⟨l4, hl4⟩ := HY.out.1
        clear hnx hr4 hcb
        go_wp2_with (at_builtin; refine wpList_append_lies _ rfl _ _ 30 rfl (w.heap.size + 1) 57 i0 (.agg #[.int .i64 0, .int .i64 0, .int .i64 0]) 3 24 hund hi hz0 hz1 hz2 rfl (by decide) _ _ _ rfl (hl4.2.alloc _) ⟨w4.heap.size, 0, none⟩ 1 1 [.int .i64 1, .int .i64 q, .int .i64 0] rfl rfl (cells3_new _ _ _ _ _) (by simp [Value.oneCell']) (by decide) (by unfold maxLen; omega) (by omega) (by simp; omega) _ rfl ?_)
        intro g4 cap4 w6 hown hg hat hlt4
        have hcb6 : w6.cell? ⟨w.heap.size, 0, none⟩ = some (.slice a n c) := (((Below.refl (w.heap.size + 1) w4).alloc (by omega) _).grown hg (by simp; omega) (fun j hj => (hl4.2.lt j hj).1)).cell (p := ⟨w.heap.size, 0, none⟩) (show w.heap.size < w.heap.size + 1 by omega) |>.trans hcb4
        have hfin : ORow (w.heap.size + 1) (i + 1) w6 (.slice (some ⟨g4, 0, none⟩) (i + 1) cap4) := ORow.push 1 q 0 hl4.1 hown
        have hrf := (HY.out.2.alloc (.cells #[.int .i64 1, .int .i64 q, .int .i64 0] 57)).grown hg (fun j hj => by have := (hl4.2.lt j hj).1; omega) hsb
        have HZ := Lib.hid (⟨hfin, hrf, hcb6⟩ : _ ∧ _ ∧ _)
        clear hfin hrf hcb6 hown hg hat hlt4 hcb4
        go_wp2_with fail
        go_roundw
        case rel => exact ⟨i + 1, by omega, by go_num, HZ.out.1, HZ.out.2.1, HZ.out.2.2⟩
        case measure => simp [intOf]; omega
      | false =>
        have hnx := next_any sb t7 4 w3 hs7 (by omega) (by omega) (by omega)
        clear hs7
        go_wp2_with fail
        refine hnx.mono ?_
        rintro e w4 ⟨⟨q, q0, q1, rfl⟩, hr4⟩
        have hcb4 := hr4.cell hcb (show w.heap.size ≠ sb by omega)
        have hzr4 : w.heap.size < w4.heap.size := World.block_lt_of_cell? w4 ⟨w.heap.size, 0, none⟩ hcb4
        have HR4 := Lib.hid (⟨HR3.out.1.ran hr4 (by omega), HR3.out.2.then ht7 ht7' hr4⟩ : _ ∧ _)
        obtain ⟨t8, ht8, ht8', hs8⟩ := HR4.out.2.strm
        have hpk := pick_any sb t8 w4.heap.size 0 5 5 (fun k => ([0, 1, 65535, 65534, 240] : List Int).getD k 0) _ (hs8.alloc _) (by omega) (by decide) (by decide) (by omega) (cells_fresh w4 ([0, 1, 65535, 65534, 240] : List Int) 3)
        clear hnx hr4 hcb hs8
        go_wp2_with fail
        refine hpk.mono ?_
        rintro e w5 ⟨⟨kk, hkk, rfl⟩, hr5⟩
        have hr5 := hr5.after_alloc
        dsimp only
        generalize ([0, 1, 65535, 65534, 240] : List Int).getD kk 0 = y
        have hcb5 := hr5.cell hcb4 (show w.heap.size ≠ sb by omega)
        have hzr5 : w.heap.size < w5.heap.size := World.block_lt_of_cell? w5 ⟨w.heap.size, 0, none⟩ hcb5
        have HY := Lib.hid (⟨HR4.out.1.ran hr5 (by omega), (HR4.out.2.then ht8 ht8' hr5).mono (show _ ≤ 1 + 3 * (i + 1) by omega)⟩ : _ ∧ _)
        obtain ⟨l4, hl4⟩ := HY.out.1
        clear hpk hr5 hcb4
        go_wp2_with (at_builtin; refine wpList_append_lies _ rfl _ _ 30 rfl (w.heap.size + 1) 57 i0 (.agg #[.int .i64 0, .int .i64 0, .int .i64 0]) 3 24 hund hi hz0 hz1 hz2 rfl (by decide) _ _ _ rfl (hl4.2.alloc _) ⟨w5.heap.size, 0, none⟩ 1 1 [.int .i64 2, .int .i64 q, .int .i64 y] rfl rfl (cells3_new _ _ _ _ _) (by simp [Value.oneCell']) (by decide) (by unfold maxLen; omega) (by omega) (by simp; omega) _ rfl ?_)
        intro g4 cap4 w6 hown hg hat hlt4
        have hcb6 : w6.cell? ⟨w.heap.size, 0, none⟩ = some (.slice a n c) := (((Below.refl (w.heap.size + 1) w5).alloc (by omega) _).grown hg (by simp; omega) (fun j hj => (hl4.2.lt j hj).1)).cell (p := ⟨w.heap.size, 0, none⟩) (show w.heap.size < w.heap.size + 1 by omega) |>.trans hcb5
        have hfin : ORow (w.heap.size + 1) (i + 1) w6 (.slice (some ⟨g4, 0, none⟩) (i + 1) cap4) := ORow.push 2 q y hl4.1 hown
        have hrf := (HY.out.2.alloc (.cells #[.int .i64 2, .int .i64 q, .int .i64 y] 57)).grown hg (fun j hj => by have := (hl4.2.lt j hj).1; omega) hsb
        have HZ := Lib.hid (⟨hfin, hrf, hcb6⟩ : _ ∧ _ ∧ _)
        clear hfin hrf hcb6 hown hg hat hlt4 hcb5
        go_wp2_with fail
        go_roundw
        case rel => exact ⟨i + 1, by omega, by go_num, HZ.out.1, HZ.out.2.1, HZ.out.2.2⟩
        case measure => simp [intOf]; omega
    · obtain rfl : i = r := by omega
      by_cases hi0 : 0 < i
      · have hi1 : (0 : Int) < (i : Int) := by omega
        obtain ⟨g, vc2, hsl, hgb, hgl⟩ := hrow.block hi0
        injection hsl with x1 x2 x3
        subst x1
        clear x2 x3
        have hfl := flip_any sb t6 15 wr hs6 (by omega) (by decide) (by decide)
        have HR := Lib.hid (⟨hrow, hr⟩ : _ ∧ _)
        clear hrow hr hs6 hcb
        go_wp2_with fail
        refine hfl.mono ?_
        rintro e w3 ⟨⟨b3, rfl⟩, hr3⟩
        have HR3 := Lib.hid (⟨HR.out.1.ran hr3 (by omega), HR.out.2.then ht6 ht6' hr3⟩ : _ ∧ _)
        clear hfl hr3
        cases b3 with
        | true =>
          obtain ⟨t7, ht7, ht7', hs7⟩ := HR3.out.2.strm
          have hnx := next_any sb t7 (i : Int) w3 hs7 (by omega) (by omega) (by omega)
          clear hs7
          go_wp2_with fail
          refine hnx.mono ?_
          rintro e w4 ⟨⟨q, q0, q1, rfl⟩, hr4⟩
          obtain ⟨q, rfl⟩ : ∃ z : Nat, q = (z : Int) := ⟨q.toNat, by omega⟩
          have HR4 := Lib.hid (⟨HR3.out.1.ran hr4 (by omega), HR3.out.2.then ht7 ht7' hr4⟩ : _ ∧ _)
          obtain ⟨t8, ht8, ht8', hs8⟩ := HR4.out.2.strm
          have hz4 : w.heap.size ≤ w4.heap.size := HR4.out.2.size
          have hqi : q < i := by omega
          obtain ⟨⟨x0, c0⟩, ⟨x1, c1⟩, ⟨x2, c2⟩, hfz⟩ := HR4.out.1.cell hqi
          have hgl4 : g < w4.heap.size := World.block_lt_of_cell? w4 ⟨g, q * 3, none⟩ c0
          clear hnx hr4
          have hR0 : Ran sb t8 0 w4 w4 := Ran.refl hs8
          have hgs : g ≠ sb := by omega
          go_wp2_with fail
          refine wp_region_any (by kernel_rfl) ?_
          refine wpAny_take (i := 0) (v := ?_) rfl (by kernel_rfl) (by kernel_rfl) (by kernel_rfl) (fun _ _ _ h => h) (Or.inl ⟨by rfl, ?_⟩) ?_
          rotate_left
          focus (intro w; go_simp; first | done | with_reducible rfl)
          go_simp
          refine wpAny_take (i := 1) (v := ?_) rfl (by kernel_rfl) (by kernel_rfl) (by kernel_rfl) (fun _ _ _ h => h) (Or.inl ⟨by rfl, ?_⟩) ?_
          rotate_left
          focus (intro w; go_simp; first | done | with_reducible rfl)
          go_simp
          refine wpAny_take (i := 2) (v := ?_) rfl (by kernel_rfl) (by kernel_rfl) (by kernel_rfl) (fun _ _ _ h => h) (Or.inl ⟨by rfl, ?_⟩) ?_
          rotate_left
          focus (intro w; go_simp; first | done | with_reducible rfl)
          go_simp
          refine wpAny_take (i := 3) (v := ?_) rfl (by kernel_rfl) (by kernel_rfl) (by kernel_rfl) (fun _ _ _ h => h) (Or.inl ⟨by rfl, ?_⟩) ?_
          rotate_left
          focus (intro w; go_simp; first | done | with_reducible rfl)
          go_simp
          refine wpAny_take (i := 5) (v := ?_) rfl (by kernel_rfl) (by kernel_rfl) (by kernel_rfl) (fun _ _ _ h => h) (Or.inl ⟨by rfl, ?_⟩) ?_
          rotate_left
          focus (intro w; go_simp; first | done | with_reducible rfl)
          go_simp
          refine wpAny_take (i := 6) (v := ?_) rfl (by kernel_rfl) (by kernel_rfl) (by kernel_rfl) (fun _ _ _ h => h) (Or.inl ⟨by rfl, ?_⟩) ?_
          rotate_left
          focus (intro w; go_simp; first | done | with_reducible rfl)
          go_simp
          refine wpAny_take (i := 7) (v := ?_) rfl (by kernel_rfl) (by kernel_rfl) (by kernel_rfl) (fun _ _ _ h => h) (Or.inl ⟨by rfl, ?_⟩) ?_
          rotate_left
          focus (intro w; go_simp; first | done | with_reducible rfl)
          go_simp
          refine wpAny_take (i := 8) (v := ?_) rfl (by kernel_rfl) (by kernel_rfl) (by kernel_rfl) (fun _ _ _ h => h) (Or.inl ⟨by rfl, ?_⟩) ?_
          rotate_left
          focus (intro w; go_simp; first | done | with_reducible rfl)
          go_simp
          refine wpAny_take (i := 12) (v := ?_) rfl (by kernel_rfl) (by kernel_rfl) (by kernel_rfl) (fun _ _ _ h => h) (Or.inl ⟨by rfl, ?_⟩) ?_
          rotate_left
          focus (intro w; go_simp; first | done | with_reducible rfl)
          go_simp
          refine wpAny_take (i := 13) (v := ?_) rfl (by kernel_rfl) (by kernel_rfl) (by kernel_rfl) (fun _ _ _ h => h) (Or.inl ⟨by rfl, ?_⟩) ?_
          rotate_left
          focus (intro w; go_simp; first | done | with_reducible rfl)
          go_simp
          refine wpAny_take (i := 14) (v := ?_) rfl (by kernel_rfl) (by kernel_rfl) (by kernel_rfl) (fun _ _ _ h => h) (Or.inl ⟨by rfl, ?_⟩) ?_
          rotate_left
          focus (intro w; go_simp; first | done | with_reducible rfl)
          go_simp
          refine wpAny_take (i := 15) (v := ?_) rfl (by kernel_rfl) (by kernel_rfl) (by kernel_rfl) (fun _ _ _ h => h) (Or.inl ⟨by rfl, ?_⟩) ?_
          rotate_left
          focus (intro w; go_simp; first | done | with_reducible rfl)
          go_simp
          refine till_any (S := (fun W' => W'.cell? ⟨g, q * 3 + 1, none⟩ = some (.int .i64 x1) ∧ W'.cell? ⟨g, q * 3 + 2, none⟩ = some (.int .i64 x2))) (E := [19, 20, 21, 22, 23, 24, 25, 26, 27]) _ ?_
          have hHeld : (fun W' => W'.cell? ⟨g, q * 3 + 1, none⟩ = some (.int .i64 x1) ∧ W'.cell? ⟨g, q * 3 + 2, none⟩ = some (.int .i64 x2)) w4.drew := by first | exact ⟨c1, c2⟩ | exact ⟨hR7.cell c1 hgs, hR7.cell c2 hgs⟩ | exact ⟨(hR7.alloc _).cell c1 hgs, (hR7.alloc _).cell c2 hgs⟩ | exact ⟨((hR7.alloc _).alloc _).cell c1 hgs, ((hR7.alloc _).alloc _).cell c2 hgs⟩ | exact ⟨hR6.cell c1 hgs, hR6.cell c2 hgs⟩ | exact ⟨(hR6.alloc _).cell c1 hgs, (hR6.alloc _).cell c2 hgs⟩ | exact ⟨((hR6.alloc _).alloc _).cell c1 hgs, ((hR6.alloc _).alloc _).cell c2 hgs⟩ | exact ⟨hR5.cell c1 hgs, hR5.cell c2 hgs⟩ | exact ⟨(hR5.alloc _).cell c1 hgs, (hR5.alloc _).cell c2 hgs⟩ | exact ⟨((hR5.alloc _).alloc _).cell c1 hgs, ((hR5.alloc _).alloc _).cell c2 hgs⟩ | exact ⟨hR0.cell c1 hgs, hR0.cell c2 hgs⟩ | exact ⟨(hR0.alloc _).cell c1 hgs, (hR0.alloc _).cell c2 hgs⟩ | exact ⟨((hR0.alloc _).alloc _).cell c1 hgs, ((hR0.alloc _).alloc _).cell c2 hgs⟩
          refine till_take (i := 9) (v := ?_) rfl (by kernel_rfl) (by kernel_rfl) (by kernel_rfl) (by kernel_rfl) (fun _ _ _ h => h) (Or.inl ⟨by rfl, ?_⟩) (by assumption) ?_
          rotate_left
          focus (intro w hSw; (try dsimp only at hSw); go_simp; first | done | with_reducible rfl)
          go_simp
          refine till_take (i := 16) (v := ?_) rfl (by kernel_rfl) (by kernel_rfl) (by kernel_rfl) (by kernel_rfl) (fun _ _ _ h => h) (Or.inl ⟨by rfl, ?_⟩) (by assumption) ?_
          rotate_left
          focus (intro w hSw; (try dsimp only at hSw); go_simp; first | done | with_reducible rfl)
          go_simp
          refine till_ready (rs := [4, 10, 17]) (by kernel_rfl) (by simp) (TillReady.cons rfl (fun K hK => ?_) (TillReady.cons rfl (fun K hK => ?_) (TillReady.cons rfl (fun K hK => ?_) TillReady.nil)))
          ·
            go_simp
            go_at_call 47
            refine (odd_any sb t8 1 2 w4.drew (Strm.kept hs8 fun _ _ => rfl) (by omega) (by decide) (by decide) (by decide)).mono ?_
            rintro e w5 ⟨⟨ro, ro1, ro2, rfl⟩, hr4⟩
            have hR5 := hR0.then (Nat.le_refl _) (by omega) hr4.undrew
            have hz5 : w4.heap.size ≤ w5.heap.size := hR5.size
            refine hK.out _ _ ?_ (fun hHeld => ?_)
            focus (first | exact ⟨c1, c2⟩ | exact ⟨hR7.cell c1 hgs, hR7.cell c2 hgs⟩ | exact ⟨(hR7.alloc _).cell c1 hgs, (hR7.alloc _).cell c2 hgs⟩ | exact ⟨((hR7.alloc _).alloc _).cell c1 hgs, ((hR7.alloc _).alloc _).cell c2 hgs⟩ | exact ⟨hR6.cell c1 hgs, hR6.cell c2 hgs⟩ | exact ⟨(hR6.alloc _).cell c1 hgs, (hR6.alloc _).cell c2 hgs⟩ | exact ⟨((hR6.alloc _).alloc _).cell c1 hgs, ((hR6.alloc _).alloc _).cell c2 hgs⟩ | exact ⟨hR5.cell c1 hgs, hR5.cell c2 hgs⟩ | exact ⟨(hR5.alloc _).cell c1 hgs, (hR5.alloc _).cell c2 hgs⟩ | exact ⟨((hR5.alloc _).alloc _).cell c1 hgs, ((hR5.alloc _).alloc _).cell c2 hgs⟩ | exact ⟨hR0.cell c1 hgs, hR0.cell c2 hgs⟩ | exact ⟨(hR0.alloc _).cell c1 hgs, (hR0.alloc _).cell c2 hgs⟩ | exact ⟨((hR0.alloc _).alloc _).cell c1 hgs, ((hR0.alloc _).alloc _).cell c2 hgs⟩)
            clear hK K
            go_simp
            refine till_ready (rs := [10, 17]) (by kernel_rfl) (by simp) (TillReady.cons rfl (fun K hK => ?_) (TillReady.cons rfl (fun K hK => ?_) TillReady.nil))
            ·
              have h10 := cells_fresh w5 ([x1, -1, 99] : List Int) 3
              go_simp
              refine hK.out _ _ ?_ (fun hHeld => ?_)
              focus (first | exact ⟨c1, c2⟩ | exact ⟨hR7.cell c1 hgs, hR7.cell c2 hgs⟩ | exact ⟨(hR7.alloc _).cell c1 hgs, (hR7.alloc _).cell c2 hgs⟩ | exact ⟨((hR7.alloc _).alloc _).cell c1 hgs, ((hR7.alloc _).alloc _).cell c2 hgs⟩ | exact ⟨hR6.cell c1 hgs, hR6.cell c2 hgs⟩ | exact ⟨(hR6.alloc _).cell c1 hgs, (hR6.alloc _).cell c2 hgs⟩ | exact ⟨((hR6.alloc _).alloc _).cell c1 hgs, ((hR6.alloc _).alloc _).cell c2 hgs⟩ | exact ⟨hR5.cell c1 hgs, hR5.cell c2 hgs⟩ | exact ⟨(hR5.alloc _).cell c1 hgs, (hR5.alloc _).cell c2 hgs⟩ | exact ⟨((hR5.alloc _).alloc _).cell c1 hgs, ((hR5.alloc _).alloc _).cell c2 hgs⟩ | exact ⟨hR0.cell c1 hgs, hR0.cell c2 hgs⟩ | exact ⟨(hR0.alloc _).cell c1 hgs, (hR0.alloc _).cell c2 hgs⟩ | exact ⟨((hR0.alloc _).alloc _).cell c1 hgs, ((hR0.alloc _).alloc _).cell c2 hgs⟩)
              clear hK K
              go_simp
              refine till_ready (rs := [11, 17]) (by kernel_rfl) (by simp) (TillReady.cons rfl (fun K hK => ?_) (TillReady.cons rfl (fun K hK => ?_) TillReady.nil))
              ·
                go_simp
                obtain ⟨t11, ht11, ht11', hs11⟩ := (hR5.alloc _).strm
                go_at_call 9
                refine (pick_any sb t11 (w5.heap.size) 0 3 3 (fun k => ([x1, -1, 99] : List Int).getD k 0) _ hs11 (by omega) (by decide) (by decide) (by omega) (fun k hk => (h10 k hk))).mono ?_
                rintro e w6 ⟨⟨k11, hk11, rfl⟩, hr11⟩
                dsimp only
                generalize ([x1, -1, 99] : List Int).getD k11 0 = y1
                have hR6 := (hR5.alloc _).then ht11 ht11' hr11
                have hzw6 : w4.heap.size ≤ w6.heap.size := hR6.size
                refine hK.out _ _ ?_ (fun hHeld => ?_)
                focus (first | exact ⟨c1, c2⟩ | exact ⟨hR7.cell c1 hgs, hR7.cell c2 hgs⟩ | exact ⟨(hR7.alloc _).cell c1 hgs, (hR7.alloc _).cell c2 hgs⟩ | exact ⟨((hR7.alloc _).alloc _).cell c1 hgs, ((hR7.alloc _).alloc _).cell c2 hgs⟩ | exact ⟨hR6.cell c1 hgs, hR6.cell c2 hgs⟩ | exact ⟨(hR6.alloc _).cell c1 hgs, (hR6.alloc _).cell c2 hgs⟩ | exact ⟨((hR6.alloc _).alloc _).cell c1 hgs, ((hR6.alloc _).alloc _).cell c2 hgs⟩ | exact ⟨hR5.cell c1 hgs, hR5.cell c2 hgs⟩ | exact ⟨(hR5.alloc _).cell c1 hgs, (hR5.alloc _).cell c2 hgs⟩ | exact ⟨((hR5.alloc _).alloc _).cell c1 hgs, ((hR5.alloc _).alloc _).cell c2 hgs⟩ | exact ⟨hR0.cell c1 hgs, hR0.cell c2 hgs⟩ | exact ⟨(hR0.alloc _).cell c1 hgs, (hR0.alloc _).cell c2 hgs⟩ | exact ⟨((hR0.alloc _).alloc _).cell c1 hgs, ((hR0.alloc _).alloc _).cell c2 hgs⟩)
                clear hK K
                go_simp
                refine till_ready (rs := [17]) (by kernel_rfl) (by simp) (TillReady.cons rfl (fun K hK => ?_) TillReady.nil)
                have h17 := cells_fresh w6 ([x2, -1, 65536] : List Int) 3
                go_simp
                refine hK.out _ _ ?_ (fun hHeld => ?_)
                focus (first | exact ⟨c1, c2⟩ | exact ⟨hR7.cell c1 hgs, hR7.cell c2 hgs⟩ | exact ⟨(hR7.alloc _).cell c1 hgs, (hR7.alloc _).cell c2 hgs⟩ | exact ⟨((hR7.alloc _).alloc _).cell c1 hgs, ((hR7.alloc _).alloc _).cell c2 hgs⟩ | exact ⟨hR6.cell c1 hgs, hR6.cell c2 hgs⟩ | exact ⟨(hR6.alloc _).cell c1 hgs, (hR6.alloc _).cell c2 hgs⟩ | exact ⟨((hR6.alloc _).alloc _).cell c1 hgs, ((hR6.alloc _).alloc _).cell c2 hgs⟩ | exact ⟨hR5.cell c1 hgs, hR5.cell c2 hgs⟩ | exact ⟨(hR5.alloc _).cell c1 hgs, (hR5.alloc _).cell c2 hgs⟩ | exact ⟨((hR5.alloc _).alloc _).cell c1 hgs, ((hR5.alloc _).alloc _).cell c2 hgs⟩ | exact ⟨hR0.cell c1 hgs, hR0.cell c2 hgs⟩ | exact ⟨(hR0.alloc _).cell c1 hgs, (hR0.alloc _).cell c2 hgs⟩ | exact ⟨((hR0.alloc _).alloc _).cell c1 hgs, ((hR0.alloc _).alloc _).cell c2 hgs⟩)
                clear hK K
                go_simp
                refine till_ready (rs := [18]) (by kernel_rfl) (by simp) (TillReady.cons rfl (fun K hK => ?_) TillReady.nil)
                go_simp
                obtain ⟨t18, ht18, ht18', hs18⟩ := (hR6.alloc _).strm
                go_at_call 9
                refine (pick_any sb t18 (w6.heap.size) 0 3 3 (fun k => ([x2, -1, 65536] : List Int).getD k 0) _ hs18 (by omega) (by decide) (by decide) (by omega) (fun k hk => (h17 k hk))).mono ?_
                rintro e w7 ⟨⟨k18, hk18, rfl⟩, hr18⟩
                dsimp only
                generalize ([x2, -1, 65536] : List Int).getD k18 0 = y2
                have hR7 := (hR6.alloc _).then ht18 ht18' hr18
                have hzw7 : w4.heap.size ≤ w7.heap.size := hR7.size
                have hO7 := HR4.out.1.ran hR7 (by omega)
                obtain ⟨⟨a0, d0⟩, ⟨a1, d1⟩, ⟨a2, d2⟩, fz⟩ := hO7.cell hqi
                have e0 := fz (q * 3)
                have e1 := fz (q * 3 + 1)
                have e2 := fz (q * 3 + 2)
                have HO := Lib.hid (⟨hO7, (HR4.out.2.then ht8 ht8' hR7).mono (show _ ≤ 40 by omega)⟩ : _ ∧ _)
                refine hK.out _ _ ?_ (fun hHeld => ?_)
                focus (first | exact ⟨c1, c2⟩ | exact ⟨hR7.cell c1 hgs, hR7.cell c2 hgs⟩ | exact ⟨(hR7.alloc _).cell c1 hgs, (hR7.alloc _).cell c2 hgs⟩ | exact ⟨((hR7.alloc _).alloc _).cell c1 hgs, ((hR7.alloc _).alloc _).cell c2 hgs⟩ | exact ⟨hR6.cell c1 hgs, hR6.cell c2 hgs⟩ | exact ⟨(hR6.alloc _).cell c1 hgs, (hR6.alloc _).cell c2 hgs⟩ | exact ⟨((hR6.alloc _).alloc _).cell c1 hgs, ((hR6.alloc _).alloc _).cell c2 hgs⟩ | exact ⟨hR5.cell c1 hgs, hR5.cell c2 hgs⟩ | exact ⟨(hR5.alloc _).cell c1 hgs, (hR5.alloc _).cell c2 hgs⟩ | exact ⟨((hR5.alloc _).alloc _).cell c1 hgs, ((hR5.alloc _).alloc _).cell c2 hgs⟩ | exact ⟨hR0.cell c1 hgs, hR0.cell c2 hgs⟩ | exact ⟨(hR0.alloc _).cell c1 hgs, (hR0.alloc _).cell c2 hgs⟩ | exact ⟨((hR0.alloc _).alloc _).cell c1 hgs, ((hR0.alloc _).alloc _).cell c2 hgs⟩)
                clear hK K
                go_simp
                refine till_ready (rs := [19]) (by kernel_rfl) (by simp) (TillReady.late rfl (by kernel_rfl) (fun K hK => ?_) TillReady.nil)
                go_simp
                refine hK.out _ _ ?_
                clear hK K
                go_simp
                refine till_ready (rs := [20]) (by kernel_rfl) (by simp) (TillReady.late rfl (by kernel_rfl) (fun K hK => ?_) TillReady.nil)
                go_simp
                refine hK.out _ _ ?_
                clear hK K
                go_simp
                refine till_ready (rs := [21]) (by kernel_rfl) (by simp) (TillReady.late rfl (by kernel_rfl) (fun K hK => ?_) TillReady.nil)
                go_simp
                refine hK.out _ _ ?_
                clear hK K
                go_simp
                refine till_ready (rs := [22]) (by kernel_rfl) (by simp) (TillReady.late rfl (by kernel_rfl) (fun K hK => ?_) TillReady.nil)
                go_simp
                refine hK.out _ _ ?_
                clear hK K
                go_simp
                refine till_ready (rs := [23]) (by kernel_rfl) (by simp) (TillReady.late rfl (by kernel_rfl) (fun K hK => ?_) TillReady.nil)
                go_simp
                refine hK.out _ _ ?_
                clear hK K
                go_simp
                refine till_ready (rs := [24]) (by kernel_rfl) (by simp) (TillReady.late rfl (by kernel_rfl) (fun K hK => ?_) TillReady.nil)
                go_simp
                refine hK.out _ _ ?_
                clear hK K
                go_simp
                refine till_ready (rs := [25]) (by kernel_rfl) (by simp) (TillReady.late rfl (by kernel_rfl) (fun K hK => ?_) TillReady.nil)
                go_simp
                refine hK.out _ _ ?_
                clear hK K
                go_simp
                refine till_ready (rs := [26]) (by kernel_rfl) (by simp) (TillReady.late rfl (by kernel_rfl) (fun K hK => ?_) TillReady.nil)
                go_simp
                refine hK.out _ _ ?_
                clear hK K
                go_simp
                refine till_ready (rs := [27]) (by kernel_rfl) (by simp) (TillReady.late rfl (by kernel_rfl) (fun K hK => ?_) TillReady.nil)
                go_simp
                refine hK.out _ _ ?_
                clear hK K
                go_simp
                refine till_done (by kernel_rfl) ?_ _
                have HX := Lib.hid (⟨((HO.out.1.put (i := q * 3) ro).put (i := q * 3 + 1) y1).put (i := q * 3 + 2) y2, ((HO.out.2.setCell (a := ⟨g, q * 3, none⟩) (show w.heap.size ≤ g by omega) hsb (.int .i64 ro)).setCell (a := ⟨g, q * 3 + 1, none⟩) (show w.heap.size ≤ g by omega) hsb (.int .i64 y1)).setCell (a := ⟨g, q * 3 + 2, none⟩) (show w.heap.size ≤ g by omega) hsb (.int .i64 y2)⟩ : _ ∧ _)
                generalize ((w7.setCell ⟨g, q * 3, none⟩ (.int .i64 ro)).setCell ⟨g, q * 3 + 1, none⟩ (.int .i64 y1)).setCell ⟨g, q * 3 + 2, none⟩ (.int .i64 y2) = wz at HX ⊢
                clear hO7 d0 d1 d2 e0 e1 e2 fz
                go_wp2_with fail
                obtain ⟨l5, h5, hN, hA⟩ := HX.out.1.ops
                have HZ := Lib.hid (⟨hN, hA, HX.out.2⟩ : _ ∧ _ ∧ _)
                clear hN hA
                go_ret
                first | exact ⟨⟨_, l5, rfl, by omega, HZ.out.1, fun a n c hh => Nat.le_trans (by omega) (HZ.out.2.1 a n c hh)⟩, HZ.out.2.2⟩ | exact ⟨⟨_, rfl, l5, by omega, HZ.out.1, fun a n c hh => Nat.le_trans (by omega) (HZ.out.2.1 a n c hh)⟩, HZ.out.2.2⟩
              ·
                have h17 := cells_fresh (w5.alloc (.cells (([x1, -1, 99] : List Int).map (Value.int .i64)).toArray 3)) ([x2, -1, 65536] : List Int) 3
                simp only [World.size_alloc] at h17
                go_simp
                refine hK.out _ _ ?_ (fun hHeld => ?_)
                focus (first | exact ⟨c1, c2⟩ | exact ⟨hR7.cell c1 hgs, hR7.cell c2 hgs⟩ | exact ⟨(hR7.alloc _).cell c1 hgs, (hR7.alloc _).cell c2 hgs⟩ | exact ⟨((hR7.alloc _).alloc _).cell c1 hgs, ((hR7.alloc _).alloc _).cell c2 hgs⟩ | exact ⟨hR6.cell c1 hgs, hR6.cell c2 hgs⟩ | exact ⟨(hR6.alloc _).cell c1 hgs, (hR6.alloc _).cell c2 hgs⟩ | exact ⟨((hR6.alloc _).alloc _).cell c1 hgs, ((hR6.alloc _).alloc _).cell c2 hgs⟩ | exact ⟨hR5.cell c1 hgs, hR5.cell c2 hgs⟩ | exact ⟨(hR5.alloc _).cell c1 hgs, (hR5.alloc _).cell c2 hgs⟩ | exact ⟨((hR5.alloc _).alloc _).cell c1 hgs, ((hR5.alloc _).alloc _).cell c2 hgs⟩ | exact ⟨hR0.cell c1 hgs, hR0.cell c2 hgs⟩ | exact ⟨(hR0.alloc _).cell c1 hgs, (hR0.alloc _).cell c2 hgs⟩ | exact ⟨((hR0.alloc _).alloc _).cell c1 hgs, ((hR0.alloc _).alloc _).cell c2 hgs⟩)
                clear hK K
                go_simp
                refine till_ready (rs := [11]) (by kernel_rfl) (by simp) (TillReady.cons rfl (fun K hK => ?_) TillReady.nil)
                go_simp
                obtain ⟨t11, ht11, ht11', hs11⟩ := ((hR5.alloc _).alloc _).strm
                go_at_call 9
                refine (pick_any sb t11 (w5.heap.size) 0 3 3 (fun k => ([x1, -1, 99] : List Int).getD k 0) _ hs11 (by omega) (by decide) (by decide) (by omega) (fun k hk => (cell_more (h10 k hk)))).mono ?_
                rintro e w6 ⟨⟨k11, hk11, rfl⟩, hr11⟩
                dsimp only
                generalize ([x1, -1, 99] : List Int).getD k11 0 = y1
                have hR6 := ((hR5.alloc _).alloc _).then ht11 ht11' hr11
                have hzw6 : w4.heap.size ≤ w6.heap.size := hR6.size
                refine hK.out _ _ ?_ (fun hHeld => ?_)
                focus (first | exact ⟨c1, c2⟩ | exact ⟨hR7.cell c1 hgs, hR7.cell c2 hgs⟩ | exact ⟨(hR7.alloc _).cell c1 hgs, (hR7.alloc _).cell c2 hgs⟩ | exact ⟨((hR7.alloc _).alloc _).cell c1 hgs, ((hR7.alloc _).alloc _).cell c2 hgs⟩ | exact ⟨hR6.cell c1 hgs, hR6.cell c2 hgs⟩ | exact ⟨(hR6.alloc _).cell c1 hgs, (hR6.alloc _).cell c2 hgs⟩ | exact ⟨((hR6.alloc _).alloc _).cell c1 hgs, ((hR6.alloc _).alloc _).cell c2 hgs⟩ | exact ⟨hR5.cell c1 hgs, hR5.cell c2 hgs⟩ | exact ⟨(hR5.alloc _).cell c1 hgs, (hR5.alloc _).cell c2 hgs⟩ | exact ⟨((hR5.alloc _).alloc _).cell c1 hgs, ((hR5.alloc _).alloc _).cell c2 hgs⟩ | exact ⟨hR0.cell c1 hgs, hR0.cell c2 hgs⟩ | exact ⟨(hR0.alloc _).cell c1 hgs, (hR0.alloc _).cell c2 hgs⟩ | exact ⟨((hR0.alloc _).alloc _).cell c1 hgs, ((hR0.alloc _).alloc _).cell c2 hgs⟩)
                clear hK K
                go_simp
                refine till_ready (rs := [18]) (by kernel_rfl) (by simp) (TillReady.cons rfl (fun K hK => ?_) TillReady.nil)
                go_simp
                obtain ⟨t18, ht18, ht18', hs18⟩ := hR6.strm
                go_at_call 9
                refine (pick_any sb t18 (w5.heap.size + 1) 0 3 3 (fun k => ([x2, -1, 65536] : List Int).getD k 0) _ hs18 (by omega) (by decide) (by decide) (by omega) (fun k hk => (hr11.cell (h17 k hk) (show w5.heap.size + 1 ≠ sb by omega)))).mono ?_
                rintro e w7 ⟨⟨k18, hk18, rfl⟩, hr18⟩
                dsimp only
                generalize ([x2, -1, 65536] : List Int).getD k18 0 = y2
                have hR7 := hR6.then ht18 ht18' hr18
                have hzw7 : w4.heap.size ≤ w7.heap.size := hR7.size
                have hO7 := HR4.out.1.ran hR7 (by omega)
                obtain ⟨⟨a0, d0⟩, ⟨a1, d1⟩, ⟨a2, d2⟩, fz⟩ := hO7.cell hqi
                have e0 := fz (q * 3)
                have e1 := fz (q * 3 + 1)
                have e2 := fz (q * 3 + 2)
                have HO := Lib.hid (⟨hO7, (HR4.out.2.then ht8 ht8' hR7).mono (show _ ≤ 40 by omega)⟩ : _ ∧ _)
                refine hK.out _ _ ?_ (fun hHeld => ?_)
                focus (first | exact ⟨c1, c2⟩ | exact ⟨hR7.cell c1 hgs, hR7.cell c2 hgs⟩ | exact ⟨(hR7.alloc _).cell c1 hgs, (hR7.alloc _).cell c2 hgs⟩ | exact ⟨((hR7.alloc _).alloc _).cell c1 hgs, ((hR7.alloc _).alloc _).cell c2 hgs⟩ | exact ⟨hR6.cell c1 hgs, hR6.cell c2 hgs⟩ | exact ⟨(hR6.alloc _).cell c1 hgs, (hR6.alloc _).cell c2 hgs⟩ | exact ⟨((hR6.alloc _).alloc _).cell c1 hgs, ((hR6.alloc _).alloc _).cell c2 hgs⟩ | exact ⟨hR5.cell c1 hgs, hR5.cell c2 hgs⟩ | exact ⟨(hR5.alloc _).cell c1 hgs, (hR5.alloc _).cell c2 hgs⟩ | exact ⟨((hR5.alloc _).alloc _).cell c1 hgs, ((hR5.alloc _).alloc _).cell c2 hgs⟩ | exact ⟨hR0.cell c1 hgs, hR0.cell c2 hgs⟩ | exact ⟨(hR0.alloc _).cell c1 hgs, (hR0.alloc _).cell c2 hgs⟩ | exact ⟨((hR0.alloc _).alloc _).cell c1 hgs, ((hR0.alloc _).alloc _).cell c2 hgs⟩)
                clear hK K
                go_simp
                refine till_ready (rs := [19]) (by kernel_rfl) (by simp) (TillReady.late rfl (by kernel_rfl) (fun K hK => ?_) TillReady.nil)
                go_simp
                refine hK.out _ _ ?_
                clear hK K
                go_simp
                refine till_ready (rs := [20]) (by kernel_rfl) (by simp) (TillReady.late rfl (by kernel_rfl) (fun K hK => ?_) TillReady.nil)
                go_simp
                refine hK.out _ _ ?_
                clear hK K
                go_simp
                refine till_ready (rs := [21]) (by kernel_rfl) (by simp) (TillReady.late rfl (by kernel_rfl) (fun K hK => ?_) TillReady.nil)
                go_simp
                refine hK.out _ _ ?_
                clear hK K
                go_simp
                refine till_ready (rs := [22]) (by kernel_rfl) (by simp) (TillReady.late rfl (by kernel_rfl) (fun K hK => ?_) TillReady.nil)
                go_simp
                refine hK.out _ _ ?_
                clear hK K
                go_simp
                refine till_ready (rs := [23]) (by kernel_rfl) (by simp) (TillReady.late rfl (by kernel_rfl) (fun K hK => ?_) TillReady.nil)
                go_simp
                refine hK.out _ _ ?_
                clear hK K
                go_simp
                refine till_ready (rs := [24]) (by kernel_rfl) (by simp) (TillReady.late rfl (by kernel_rfl) (fun K hK => ?_) TillReady.nil)
                go_simp
                refine hK.out _ _ ?_
                clear hK K
                go_simp
                refine till_ready (rs := [25]) (by kernel_rfl) (by simp) (TillReady.late rfl (by kernel_rfl) (fun K hK => ?_) TillReady.nil)
                go_simp
                refine hK.out _ _ ?_
                clear hK K
                go_simp
                refine till_ready (rs := [26]) (by kernel_rfl) (by simp) (TillReady.late rfl (by kernel_rfl) (fun K hK => ?_) TillReady.nil)
                go_simp
                refine hK.out _ _ ?_
                clear hK K
                go_simp
                refine till_ready (rs := [27]) (by kernel_rfl) (by simp) (TillReady.late rfl (by kernel_rfl) (fun K hK => ?_) TillReady.nil)
                go_simp
                refine hK.out _ _ ?_
                clear hK K
                go_simp
                refine till_done (by kernel_rfl) ?_ _
                have HX := Lib.hid (⟨((HO.out.1.put (i := q * 3) ro).put (i := q * 3 + 1) y1).put (i := q * 3 + 2) y2, ((HO.out.2.setCell (a := ⟨g, q * 3, none⟩) (show w.heap.size ≤ g by omega) hsb (.int .i64 ro)).setCell (a := ⟨g, q * 3 + 1, none⟩) (show w.heap.size ≤ g by omega) hsb (.int .i64 y1)).setCell (a := ⟨g, q * 3 + 2, none⟩) (show w.heap.size ≤ g by omega) hsb (.int .i64 y2)⟩ : _ ∧ _)
                generalize ((w7.setCell ⟨g, q * 3, none⟩ (.int .i64 ro)).setCell ⟨g, q * 3 + 1, none⟩ (.int .i64 y1)).setCell ⟨g, q * 3 + 2, none⟩ (.int .i64 y2) = wz at HX ⊢
                clear hO7 d0 d1 d2 e0 e1 e2 fz
                go_wp2_with fail
                obtain ⟨l5, h5, hN, hA⟩ := HX.out.1.ops
                have HZ := Lib.hid (⟨hN, hA, HX.out.2⟩ : _ ∧ _ ∧ _)
                clear hN hA
                go_ret
                first | exact ⟨⟨_, l5, rfl, by omega, HZ.out.1, fun a n c hh => Nat.le_trans (by omega) (HZ.out.2.1 a n c hh)⟩, HZ.out.2.2⟩ | exact ⟨⟨_, rfl, l5, by omega, HZ.out.1, fun a n c hh => Nat.le_trans (by omega) (HZ.out.2.1 a n c hh)⟩, HZ.out.2.2⟩
            ·
              have h17 := cells_fresh w5 ([x2, -1, 65536] : List Int) 3
              go_simp
              refine hK.out _ _ ?_ (fun hHeld => ?_)
              focus (first | exact ⟨c1, c2⟩ | exact ⟨hR7.cell c1 hgs, hR7.cell c2 hgs⟩ | exact ⟨(hR7.alloc _).cell c1 hgs, (hR7.alloc _).cell c2 hgs⟩ | exact ⟨((hR7.alloc _).alloc _).cell c1 hgs, ((hR7.alloc _).alloc _).cell c2 hgs⟩ | exact ⟨hR6.cell c1 hgs, hR6.cell c2 hgs⟩ | exact ⟨(hR6.alloc _).cell c1 hgs, (hR6.alloc _).cell c2 hgs⟩ | exact ⟨((hR6.alloc _).alloc _).cell c1 hgs, ((hR6.alloc _).alloc _).cell c2 hgs⟩ | exact ⟨hR5.cell c1 hgs, hR5.cell c2 hgs⟩ | exact ⟨(hR5.alloc _).cell c1 hgs, (hR5.alloc _).cell c2 hgs⟩ | exact ⟨((hR5.alloc _).alloc _).cell c1 hgs, ((hR5.alloc _).alloc _).cell c2 hgs⟩ | exact ⟨hR0.cell c1 hgs, hR0.cell c2 hgs⟩ | exact ⟨(hR0.alloc _).cell c1 hgs, (hR0.alloc _).cell c2 hgs⟩ | exact ⟨((hR0.alloc _).alloc _).cell c1 hgs, ((hR0.alloc _).alloc _).cell c2 hgs⟩)
              clear hK K
              go_simp
              refine till_ready (rs := [10]) (by kernel_rfl) (by simp) (TillReady.cons rfl (fun K hK => ?_) TillReady.nil)
              have h10 := cells_fresh (w5.alloc (.cells (([x2, -1, 65536] : List Int).map (Value.int .i64)).toArray 3)) ([x1, -1, 99] : List Int) 3
              simp only [World.size_alloc] at h10
              go_simp
              refine hK.out _ _ ?_ (fun hHeld => ?_)
              focus (first | exact ⟨c1, c2⟩ | exact ⟨hR7.cell c1 hgs, hR7.cell c2 hgs⟩ | exact ⟨(hR7.alloc _).cell c1 hgs, (hR7.alloc _).cell c2 hgs⟩ | exact ⟨((hR7.alloc _).alloc _).cell c1 hgs, ((hR7.alloc _).alloc _).cell c2 hgs⟩ | exact ⟨hR6.cell c1 hgs, hR6.cell c2 hgs⟩ | exact ⟨(hR6.alloc _).cell c1 hgs, (hR6.alloc _).cell c2 hgs⟩ | exact ⟨((hR6.alloc _).alloc _).cell c1 hgs, ((hR6.alloc _).alloc _).cell c2 hgs⟩ | exact ⟨hR5.cell c1 hgs, hR5.cell c2 hgs⟩ | exact ⟨(hR5.alloc _).cell c1 hgs, (hR5.alloc _).cell c2 hgs⟩ | exact ⟨((hR5.alloc _).alloc _).cell c1 hgs, ((hR5.alloc _).alloc _).cell c2 hgs⟩ | exact ⟨hR0.cell c1 hgs, hR0.cell c2 hgs⟩ | exact ⟨(hR0.alloc _).cell c1 hgs, (hR0.alloc _).cell c2 hgs⟩ | exact ⟨((hR0.alloc _).alloc _).cell c1 hgs, ((hR0.alloc _).alloc _).cell c2 hgs⟩)
              clear hK K
              go_simp
              refine till_ready (rs := [11]) (by kernel_rfl) (by simp) (TillReady.cons rfl (fun K hK => ?_) TillReady.nil)
              go_simp
              obtain ⟨t11, ht11, ht11', hs11⟩ := ((hR5.alloc _).alloc _).strm
              go_at_call 9
              refine (pick_any sb t11 (w5.heap.size + 1) 0 3 3 (fun k => ([x1, -1, 99] : List Int).getD k 0) _ hs11 (by omega) (by decide) (by decide) (by omega) (fun k hk => (h10 k hk))).mono ?_
              rintro e w6 ⟨⟨k11, hk11, rfl⟩, hr11⟩
              dsimp only
              generalize ([x1, -1, 99] : List Int).getD k11 0 = y1
              have hR6 := ((hR5.alloc _).alloc _).then ht11 ht11' hr11
              have hzw6 : w4.heap.size ≤ w6.heap.size := hR6.size
              refine hK.out _ _ ?_ (fun hHeld => ?_)
              focus (first | exact ⟨c1, c2⟩ | exact ⟨hR7.cell c1 hgs, hR7.cell c2 hgs⟩ | exact ⟨(hR7.alloc _).cell c1 hgs, (hR7.alloc _).cell c2 hgs⟩ | exact ⟨((hR7.alloc _).alloc _).cell c1 hgs, ((hR7.alloc _).alloc _).cell c2 hgs⟩ | exact ⟨hR6.cell c1 hgs, hR6.cell c2 hgs⟩ | exact ⟨(hR6.alloc _).cell c1 hgs, (hR6.alloc _).cell c2 hgs⟩ | exact ⟨((hR6.alloc _).alloc _).cell c1 hgs, ((hR6.alloc _).alloc _).cell c2 hgs⟩ | exact ⟨hR5.cell c1 hgs, hR5.cell c2 hgs⟩ | exact ⟨(hR5.alloc _).cell c1 hgs, (hR5.alloc _).cell c2 hgs⟩ | exact ⟨((hR5.alloc _).alloc _).cell c1 hgs, ((hR5.alloc _).alloc _).cell c2 hgs⟩ | exact ⟨hR0.cell c1 hgs, hR0.cell c2 hgs⟩ | exact ⟨(hR0.alloc _).cell c1 hgs, (hR0.alloc _).cell c2 hgs⟩ | exact ⟨((hR0.alloc _).alloc _).cell c1 hgs, ((hR0.alloc _).alloc _).cell c2 hgs⟩)
              clear hK K
              go_simp
              refine till_ready (rs := [18]) (by kernel_rfl) (by simp) (TillReady.cons rfl (fun K hK => ?_) TillReady.nil)
              go_simp
              obtain ⟨t18, ht18, ht18', hs18⟩ := hR6.strm
              go_at_call 9
              refine (pick_any sb t18 (w5.heap.size) 0 3 3 (fun k => ([x2, -1, 65536] : List Int).getD k 0) _ hs18 (by omega) (by decide) (by decide) (by omega) (fun k hk => (hr11.cell (cell_more (h17 k hk)) (show w5.heap.size ≠ sb by omega)))).mono ?_
              rintro e w7 ⟨⟨k18, hk18, rfl⟩, hr18⟩
              dsimp only
              generalize ([x2, -1, 65536] : List Int).getD k18 0 = y2
              have hR7 := hR6.then ht18 ht18' hr18
              have hzw7 : w4.heap.size ≤ w7.heap.size := hR7.size
              have hO7 := HR4.out.1.ran hR7 (by omega)
              obtain ⟨⟨a0, d0⟩, ⟨a1, d1⟩, ⟨a2, d2⟩, fz⟩ := hO7.cell hqi
              have e0 := fz (q * 3)
              have e1 := fz (q * 3 + 1)
              have e2 := fz (q * 3 + 2)
              have HO := Lib.hid (⟨hO7, (HR4.out.2.then ht8 ht8' hR7).mono (show _ ≤ 40 by omega)⟩ : _ ∧ _)
              refine hK.out _ _ ?_ (fun hHeld => ?_)
              focus (first | exact ⟨c1, c2⟩ | exact ⟨hR7.cell c1 hgs, hR7.cell c2 hgs⟩ | exact ⟨(hR7.alloc _).cell c1 hgs, (hR7.alloc _).cell c2 hgs⟩ | exact ⟨((hR7.alloc _).alloc _).cell c1 hgs, ((hR7.alloc _).alloc _).cell c2 hgs⟩ | exact ⟨hR6.cell c1 hgs, hR6.cell c2 hgs⟩ | exact ⟨(hR6.alloc _).cell c1 hgs, (hR6.alloc _).cell c2 hgs⟩ | exact ⟨((hR6.alloc _).alloc _).cell c1 hgs, ((hR6.alloc _).alloc _).cell c2 hgs⟩ | exact ⟨hR5.cell c1 hgs, hR5.cell c2 hgs⟩ | exact ⟨(hR5.alloc _).cell c1 hgs, (hR5.alloc _).cell c2 hgs⟩ | exact ⟨((hR5.alloc _).alloc _).cell c1 hgs, ((hR5.alloc _).alloc _).cell c2 hgs⟩ | exact ⟨hR0.cell c1 hgs, hR0.cell c2 hgs⟩ | exact ⟨(hR0.alloc _).cell c1 hgs, (hR0.alloc _).cell c2 hgs⟩ | exact ⟨((hR0.alloc _).alloc _).cell c1 hgs, ((hR0.alloc _).alloc _).cell c2 hgs⟩)
              clear hK K
              go_simp
              refine till_ready (rs := [19]) (by kernel_rfl) (by simp) (TillReady.late rfl (by kernel_rfl) (fun K hK => ?_) TillReady.nil)
              go_simp
              refine hK.out _ _ ?_
              clear hK K
              go_simp
              refine till_ready (rs := [20]) (by kernel_rfl) (by simp) (TillReady.late rfl (by kernel_rfl) (fun K hK => ?_) TillReady.nil)
              go_simp
              refine hK.out _ _ ?_
              clear hK K
              go_simp
              refine till_ready (rs := [21]) (by kernel_rfl) (by simp) (TillReady.late rfl (by kernel_rfl) (fun K hK => ?_) TillReady.nil)
              go_simp
              refine hK.out _ _ ?_
              clear hK K
              go_simp
              refine till_ready (rs := [22]) (by kernel_rfl) (by simp) (TillReady.late rfl (by kernel_rfl) (fun K hK => ?_) TillReady.nil)
              go_simp
              refine hK.out _ _ ?_
              clear hK K
              go_simp
              refine till_ready (rs := [23]) (by kernel_rfl) (by simp) (TillReady.late rfl (by kernel_rfl) (fun K hK => ?_) TillReady.nil)
              go_simp
              refine hK.out _ _ ?_
              clear hK K
              go_simp
              refine till_ready (rs := [24]) (by kernel_rfl) (by simp) (TillReady.late rfl (by kernel_rfl) (fun K hK => ?_) TillReady.nil)
              go_simp
              refine hK.out _ _ ?_
              clear hK K
              go_simp
              refine till_ready (rs := [25]) (by kernel_rfl) (by simp) (TillReady.late rfl (by kernel_rfl) (fun K hK => ?_) TillReady.nil)
              go_simp
              refine hK.out _ _ ?_
              clear hK K
              go_simp
              refine till_ready (rs := [26]) (by kernel_rfl) (by simp) (TillReady.late rfl (by kernel_rfl) (fun K hK => ?_) TillReady.nil)
              go_simp
              refine hK.out _ _ ?_
              clear hK K
              go_simp
              refine till_ready (rs := [27]) (by kernel_rfl) (by simp) (TillReady.late rfl (by kernel_rfl) (fun K hK => ?_) TillReady.nil)
              go_simp
              refine hK.out _ _ ?_
              clear hK K
              go_simp
              refine till_done (by kernel_rfl) ?_ _
              have HX := Lib.hid (⟨((HO.out.1.put (i := q * 3) ro).put (i := q * 3 + 1) y1).put (i := q * 3 + 2) y2, ((HO.out.2.setCell (a := ⟨g, q * 3, none⟩) (show w.heap.size ≤ g by omega) hsb (.int .i64 ro)).setCell (a := ⟨g, q * 3 + 1, none⟩) (show w.heap.size ≤ g by omega) hsb (.int .i64 y1)).setCell (a := ⟨g, q * 3 + 2, none⟩) (show w.heap.size ≤ g by omega) hsb (.int .i64 y2)⟩ : _ ∧ _)
              generalize ((w7.setCell ⟨g, q * 3, none⟩ (.int .i64 ro)).setCell ⟨g, q * 3 + 1, none⟩ (.int .i64 y1)).setCell ⟨g, q * 3 + 2, none⟩ (.int .i64 y2) = wz at HX ⊢
              clear hO7 d0 d1 d2 e0 e1 e2 fz
              go_wp2_with fail
              obtain ⟨l5, h5, hN, hA⟩ := HX.out.1.ops
              have HZ := Lib.hid (⟨hN, hA, HX.out.2⟩ : _ ∧ _ ∧ _)
              clear hN hA
              go_ret
              first | exact ⟨⟨_, l5, rfl, by omega, HZ.out.1, fun a n c hh => Nat.le_trans (by omega) (HZ.out.2.1 a n c hh)⟩, HZ.out.2.2⟩ | exact ⟨⟨_, rfl, l5, by omega, HZ.out.1, fun a n c hh => Nat.le_trans (by omega) (HZ.out.2.1 a n c hh)⟩, HZ.out.2.2⟩
          ·
            have h10 := cells_fresh w4 ([x1, -1, 99] : List Int) 3
            go_simp
            refine hK.out _ _ ?_ (fun hHeld => ?_)
            focus (first | exact ⟨c1, c2⟩ | exact ⟨hR7.cell c1 hgs, hR7.cell c2 hgs⟩ | exact ⟨(hR7.alloc _).cell c1 hgs, (hR7.alloc _).cell c2 hgs⟩ | exact ⟨((hR7.alloc _).alloc _).cell c1 hgs, ((hR7.alloc _).alloc _).cell c2 hgs⟩ | exact ⟨hR6.cell c1 hgs, hR6.cell c2 hgs⟩ | exact ⟨(hR6.alloc _).cell c1 hgs, (hR6.alloc _).cell c2 hgs⟩ | exact ⟨((hR6.alloc _).alloc _).cell c1 hgs, ((hR6.alloc _).alloc _).cell c2 hgs⟩ | exact ⟨hR5.cell c1 hgs, hR5.cell c2 hgs⟩ | exact ⟨(hR5.alloc _).cell c1 hgs, (hR5.alloc _).cell c2 hgs⟩ | exact ⟨((hR5.alloc _).alloc _).cell c1 hgs, ((hR5.alloc _).alloc _).cell c2 hgs⟩ | exact ⟨hR0.cell c1 hgs, hR0.cell c2 hgs⟩ | exact ⟨(hR0.alloc _).cell c1 hgs, (hR0.alloc _).cell c2 hgs⟩ | exact ⟨((hR0.alloc _).alloc _).cell c1 hgs, ((hR0.alloc _).alloc _).cell c2 hgs⟩)
            clear hK K
            go_simp
            refine till_ready (rs := [4, 17]) (by kernel_rfl) (by simp) (TillReady.cons rfl (fun K hK => ?_) (TillReady.cons rfl (fun K hK => ?_) TillReady.nil))
            ·
              go_simp
              go_at_call 47
              refine (odd_any sb t8 1 2 (w4.alloc (.cells (([x1, -1, 99] : List Int).map (Value.int .i64)).toArray 3)).drew (Strm.kept (hs8.alloc _) fun _ _ => rfl) (by omega) (by decide) (by decide) (by decide)).mono ?_
              rintro e w5 ⟨⟨ro, ro1, ro2, rfl⟩, hr4⟩
              have hR5 := (hR0.alloc _).then (Nat.le_refl _) (by omega) hr4.undrew
              have hz5 : w4.heap.size ≤ w5.heap.size := hR5.size
              refine hK.out _ _ ?_ (fun hHeld => ?_)
              focus (first | exact ⟨c1, c2⟩ | exact ⟨hR7.cell c1 hgs, hR7.cell c2 hgs⟩ | exact ⟨(hR7.alloc _).cell c1 hgs, (hR7.alloc _).cell c2 hgs⟩ | exact ⟨((hR7.alloc _).alloc _).cell c1 hgs, ((hR7.alloc _).alloc _).cell c2 hgs⟩ | exact ⟨hR6.cell c1 hgs, hR6.cell c2 hgs⟩ | exact ⟨(hR6.alloc _).cell c1 hgs, (hR6.alloc _).cell c2 hgs⟩ | exact ⟨((hR6.alloc _).alloc _).cell c1 hgs, ((hR6.alloc _).alloc _).cell c2 hgs⟩ | exact ⟨hR5.cell c1 hgs, hR5.cell c2 hgs⟩ | exact ⟨(hR5.alloc _).cell c1 hgs, (hR5.alloc _).cell c2 hgs⟩ | exact ⟨((hR5.alloc _).alloc _).cell c1 hgs, ((hR5.alloc _).alloc _).cell c2 hgs⟩ | exact ⟨hR0.cell c1 hgs, hR0.cell c2 hgs⟩ | exact ⟨(hR0.alloc _).cell c1 hgs, (hR0.alloc _).cell c2 hgs⟩ | exact ⟨((hR0.alloc _).alloc _).cell c1 hgs, ((hR0.alloc _).alloc _).cell c2 hgs⟩)
              clear hK K
              go_simp
              refine till_ready (rs := [11, 17]) (by kernel_rfl) (by simp) (TillReady.cons rfl (fun K hK => ?_) (TillReady.cons rfl (fun K hK => ?_) TillReady.nil))
              ·
                go_simp
                obtain ⟨t11, ht11, ht11', hs11⟩ := hR5.strm
                go_at_call 9
                refine (pick_any sb t11 (w4.heap.size) 0 3 3 (fun k => ([x1, -1, 99] : List Int).getD k 0) _ hs11 (by omega) (by decide) (by decide) (by omega) (fun k hk => (hr4.cell (h10 k hk) (show w4.heap.size ≠ sb by omega)))).mono ?_
                rintro e w6 ⟨⟨k11, hk11, rfl⟩, hr11⟩
                dsimp only
                generalize ([x1, -1, 99] : List Int).getD k11 0 = y1
                have hR6 := hR5.then ht11 ht11' hr11
                have hzw6 : w4.heap.size ≤ w6.heap.size := hR6.size
                refine hK.out _ _ ?_ (fun hHeld => ?_)
                focus (first | exact ⟨c1, c2⟩ | exact ⟨hR7.cell c1 hgs, hR7.cell c2 hgs⟩ | exact ⟨(hR7.alloc _).cell c1 hgs, (hR7.alloc _).cell c2 hgs⟩ | exact ⟨((hR7.alloc _).alloc _).cell c1 hgs, ((hR7.alloc _).alloc _).cell c2 hgs⟩ | exact ⟨hR6.cell c1 hgs, hR6.cell c2 hgs⟩ | exact ⟨(hR6.alloc _).cell c1 hgs, (hR6.alloc _).cell c2 hgs⟩ | exact ⟨((hR6.alloc _).alloc _).cell c1 hgs, ((hR6.alloc _).alloc _).cell c2 hgs⟩ | exact ⟨hR5.cell c1 hgs, hR5.cell c2 hgs⟩ | exact ⟨(hR5.alloc _).cell c1 hgs, (hR5.alloc _).cell c2 hgs⟩ | exact ⟨((hR5.alloc _).alloc _).cell c1 hgs, ((hR5.alloc _).alloc _).cell c2 hgs⟩ | exact ⟨hR0.cell c1 hgs, hR0.cell c2 hgs⟩ | exact ⟨(hR0.alloc _).cell c1 hgs, (hR0.alloc _).cell c2 hgs⟩ | exact ⟨((hR0.alloc _).alloc _).cell c1 hgs, ((hR0.alloc _).alloc _).cell c2 hgs⟩)
                clear hK K
                go_simp
                refine till_ready (rs := [17]) (by kernel_rfl) (by simp) (TillReady.cons rfl (fun K hK => ?_) TillReady.nil)
                have h17 := cells_fresh w6 ([x2, -1, 65536] : List Int) 3
                go_simp
                refine hK.out _ _ ?_ (fun hHeld => ?_)
                focus (first | exact ⟨c1, c2⟩ | exact ⟨hR7.cell c1 hgs, hR7.cell c2 hgs⟩ | exact ⟨(hR7.alloc _).cell c1 hgs, (hR7.alloc _).cell c2 hgs⟩ | exact ⟨((hR7.alloc _).alloc _).cell c1 hgs, ((hR7.alloc _).alloc _).cell c2 hgs⟩ | exact ⟨hR6.cell c1 hgs, hR6.cell c2 hgs⟩ | exact ⟨(hR6.alloc _).cell c1 hgs, (hR6.alloc _).cell c2 hgs⟩ | exact ⟨((hR6.alloc _).alloc _).cell c1 hgs, ((hR6.alloc _).alloc _).cell c2 hgs⟩ | exact ⟨hR5.cell c1 hgs, hR5.cell c2 hgs⟩ | exact ⟨(hR5.alloc _).cell c1 hgs, (hR5.alloc _).cell c2 hgs⟩ | exact ⟨((hR5.alloc _).alloc _).cell c1 hgs, ((hR5.alloc _).alloc _).cell c2 hgs⟩ | exact ⟨hR0.cell c1 hgs, hR0.cell c2 hgs⟩ | exact ⟨(hR0.alloc _).cell c1 hgs, (hR0.alloc _).cell c2 hgs⟩ | exact ⟨((hR0.alloc _).alloc _).cell c1 hgs, ((hR0.alloc _).alloc _).cell c2 hgs⟩)
                clear hK K
                go_simp
                refine till_ready (rs := [18]) (by kernel_rfl) (by simp) (TillReady.cons rfl (fun K hK => ?_) TillReady.nil)
                go_simp
                obtain ⟨t18, ht18, ht18', hs18⟩ := (hR6.alloc _).strm
                go_at_call 9
                refine (pick_any sb t18 (w6.heap.size) 0 3 3 (fun k => ([x2, -1, 65536] : List Int).getD k 0) _ hs18 (by omega) (by decide) (by decide) (by omega) (fun k hk => (h17 k hk))).mono ?_
                rintro e w7 ⟨⟨k18, hk18, rfl⟩, hr18⟩
                dsimp only
                generalize ([x2, -1, 65536] : List Int).getD k18 0 = y2
                have hR7 := (hR6.alloc _).then ht18 ht18' hr18
                have hzw7 : w4.heap.size ≤ w7.heap.size := hR7.size
                have hO7 := HR4.out.1.ran hR7 (by omega)
                obtain ⟨⟨a0, d0⟩, ⟨a1, d1⟩, ⟨a2, d2⟩, fz⟩ := hO7.cell hqi
                have e0 := fz (q * 3)
                have e1 := fz (q * 3 + 1)
                have e2 := fz (q * 3 + 2)
                have HO := Lib.hid (⟨hO7, (HR4.out.2.then ht8 ht8' hR7).mono (show _ ≤ 40 by omega)⟩ : _ ∧ _)
                refine hK.out _ _ ?_ (fun hHeld => ?_)
                focus (first | exact ⟨c1, c2⟩ | exact ⟨hR7.cell c1 hgs, hR7.cell c2 hgs⟩ | exact ⟨(hR7.alloc _).cell c1 hgs, (hR7.alloc _).cell c2 hgs⟩ | exact ⟨((hR7.alloc _).alloc _).cell c1 hgs, ((hR7.alloc _).alloc _).cell c2 hgs⟩ | exact ⟨hR6.cell c1 hgs, hR6.cell c2 hgs⟩ | exact ⟨(hR6.alloc _).cell c1 hgs, (hR6.alloc _).cell c2 hgs⟩ | exact ⟨((hR6.alloc _).alloc _).cell c1 hgs, ((hR6.alloc _).alloc _).cell c2 hgs⟩ | exact ⟨hR5.cell c1 hgs, hR5.cell c2 hgs⟩ | exact ⟨(hR5.alloc _).cell c1 hgs, (hR5.alloc _).cell c2 hgs⟩ | exact ⟨((hR5.alloc _).alloc _).cell c1 hgs, ((hR5.alloc _).alloc _).cell c2 hgs⟩ | exact ⟨hR0.cell c1 hgs, hR0.cell c2 hgs⟩ | exact ⟨(hR0.alloc _).cell c1 hgs, (hR0.alloc _).cell c2 hgs⟩ | exact ⟨((hR0.alloc _).alloc _).cell c1 hgs, ((hR0.alloc _).alloc _).cell c2 hgs⟩)
                clear hK K
                go_simp
                refine till_ready (rs := [19]) (by kernel_rfl) (by simp) (TillReady.late rfl (by kernel_rfl) (fun K hK => ?_) TillReady.nil)
                go_simp
                refine hK.out _ _ ?_
                clear hK K
                go_simp
                refine till_ready (rs := [20]) (by kernel_rfl) (by simp) (TillReady.late rfl (by kernel_rfl) (fun K hK => ?_) TillReady.nil)
                go_simp
                refine hK.out _ _ ?_
                clear hK K
                go_simp
                refine till_ready (rs := [21]) (by kernel_rfl) (by simp) (TillReady.late rfl (by kernel_rfl) (fun K hK => ?_) TillReady.nil)
                go_simp
                refine hK.out _ _ ?_
                clear hK K
                go_simp
                refine till_ready (rs := [22]) (by kernel_rfl) (by simp) (TillReady.late rfl (by kernel_rfl) (fun K hK => ?_) TillReady.nil)
                go_simp
                refine hK.out _ _ ?_
                clear hK K
                go_simp
                refine till_ready (rs := [23]) (by kernel_rfl) (by simp) (TillReady.late rfl (by kernel_rfl) (fun K hK => ?_) TillReady.nil)
                go_simp
                refine hK.out _ _ ?_
                clear hK K
                go_simp
                refine till_ready (rs := [24]) (by kernel_rfl) (by simp) (TillReady.late rfl (by kernel_rfl) (fun K hK => ?_) TillReady.nil)
                go_simp
                refine hK.out _ _ ?_
                clear hK K
                go_simp
                refine till_ready (rs := [25]) (by kernel_rfl) (by simp) (TillReady.late rfl (by kernel_rfl) (fun K hK => ?_) TillReady.nil)
                go_simp
                refine hK.out _ _ ?_
                clear hK K
                go_simp
                refine till_ready (rs := [26]) (by kernel_rfl) (by simp) (TillReady.late rfl (by kernel_rfl) (fun K hK => ?_) TillReady.nil)
                go_simp
                refine hK.out _ _ ?_
                clear hK K
                go_simp
                refine till_ready (rs := [27]) (by kernel_rfl) (by simp) (TillReady.late rfl (by kernel_rfl) (fun K hK => ?_) TillReady.nil)
                go_simp
                refine hK.out _ _ ?_
                clear hK K
                go_simp
                refine till_done (by kernel_rfl) ?_ _
                have HX := Lib.hid (⟨((HO.out.1.put (i := q * 3) ro).put (i := q * 3 + 1) y1).put (i := q * 3 + 2) y2, ((HO.out.2.setCell (a := ⟨g, q * 3, none⟩) (show w.heap.size ≤ g by omega) hsb (.int .i64 ro)).setCell (a := ⟨g, q * 3 + 1, none⟩) (show w.heap.size ≤ g by omega) hsb (.int .i64 y1)).setCell (a := ⟨g, q * 3 + 2, none⟩) (show w.heap.size ≤ g by omega) hsb (.int .i64 y2)⟩ : _ ∧ _)
                generalize ((w7.setCell ⟨g, q * 3, none⟩ (.int .i64 ro)).setCell ⟨g, q * 3 + 1, none⟩ (.int .i64 y1)).setCell ⟨g, q * 3 + 2, none⟩ (.int .i64 y2) = wz at HX ⊢
                clear hO7 d0 d1 d2 e0 e1 e2 fz
                go_wp2_with fail
                obtain ⟨l5, h5, hN, hA⟩ := HX.out.1.ops
                have HZ := Lib.hid (⟨hN, hA, HX.out.2⟩ : _ ∧ _ ∧ _)
                clear hN hA
                go_ret
                first | exact ⟨⟨_, l5, rfl, by omega, HZ.out.1, fun a n c hh => Nat.le_trans (by omega) (HZ.out.2.1 a n c hh)⟩, HZ.out.2.2⟩ | exact ⟨⟨_, rfl, l5, by omega, HZ.out.1, fun a n c hh => Nat.le_trans (by omega) (HZ.out.2.1 a n c hh)⟩, HZ.out.2.2⟩
              ·
                have h17 := cells_fresh w5 ([x2, -1, 65536] : List Int) 3
                go_simp
                refine hK.out _ _ ?_ (fun hHeld => ?_)
                focus (first | exact ⟨c1, c2⟩ | exact ⟨hR7.cell c1 hgs, hR7.cell c2 hgs⟩ | exact ⟨(hR7.alloc _).cell c1 hgs, (hR7.alloc _).cell c2 hgs⟩ | exact ⟨((hR7.alloc _).alloc _).cell c1 hgs, ((hR7.alloc _).alloc _).cell c2 hgs⟩ | exact ⟨hR6.cell c1 hgs, hR6.cell c2 hgs⟩ | exact ⟨(hR6.alloc _).cell c1 hgs, (hR6.alloc _).cell c2 hgs⟩ | exact ⟨((hR6.alloc _).alloc _).cell c1 hgs, ((hR6.alloc _).alloc _).cell c2 hgs⟩ | exact ⟨hR5.cell c1 hgs, hR5.cell c2 hgs⟩ | exact ⟨(hR5.alloc _).cell c1 hgs, (hR5.alloc _).cell c2 hgs⟩ | exact ⟨((hR5.alloc _).alloc _).cell c1 hgs, ((hR5.alloc _).alloc _).cell c2 hgs⟩ | exact ⟨hR0.cell c1 hgs, hR0.cell c2 hgs⟩ | exact ⟨(hR0.alloc _).cell c1 hgs, (hR0.alloc _).cell c2 hgs⟩ | exact ⟨((hR0.alloc _).alloc _).cell c1 hgs, ((hR0.alloc _).alloc _).cell c2 hgs⟩)
                clear hK K
                go_simp
                refine till_ready (rs := [11]) (by kernel_rfl) (by simp) (TillReady.cons rfl (fun K hK => ?_) TillReady.nil)
                go_simp
                obtain ⟨t11, ht11, ht11', hs11⟩ := (hR5.alloc _).strm
                go_at_call 9
                refine (pick_any sb t11 (w4.heap.size) 0 3 3 (fun k => ([x1, -1, 99] : List Int).getD k 0) _ hs11 (by omega) (by decide) (by decide) (by omega) (fun k hk => (cell_more (hr4.cell (h10 k hk) (show w4.heap.size ≠ sb by omega))))).mono ?_
                rintro e w6 ⟨⟨k11, hk11, rfl⟩, hr11⟩
                dsimp only
                generalize ([x1, -1, 99] : List Int).getD k11 0 = y1
                have hR6 := (hR5.alloc _).then ht11 ht11' hr11
                have hzw6 : w4.heap.size ≤ w6.heap.size := hR6.size
                refine hK.out _ _ ?_ (fun hHeld => ?_)
                focus (first | exact ⟨c1, c2⟩ | exact ⟨hR7.cell c1 hgs, hR7.cell c2 hgs⟩ | exact ⟨(hR7.alloc _).cell c1 hgs, (hR7.alloc _).cell c2 hgs⟩ | exact ⟨((hR7.alloc _).alloc _).cell c1 hgs, ((hR7.alloc _).alloc _).cell c2 hgs⟩ | exact ⟨hR6.cell c1 hgs, hR6.cell c2 hgs⟩ | exact ⟨(hR6.alloc _).cell c1 hgs, (hR6.alloc _).cell c2 hgs⟩ | exact ⟨((hR6.alloc _).alloc _).cell c1 hgs, ((hR6.alloc _).alloc _).cell c2 hgs⟩ | exact ⟨hR5.cell c1 hgs, hR5.cell c2 hgs⟩ | exact ⟨(hR5.alloc _).cell c1 hgs, (hR5.alloc _).cell c2 hgs⟩ | exact ⟨((hR5.alloc _).alloc _).cell c1 hgs, ((hR5.alloc _).alloc _).cell c2 hgs⟩ | exact ⟨hR0.cell c1 hgs, hR0.cell c2 hgs⟩ | exact ⟨(hR0.alloc _).cell c1 hgs, (hR0.alloc _).cell c2 hgs⟩ | exact ⟨((hR0.alloc _).alloc _).cell c1 hgs, ((hR0.alloc _).alloc _).cell c2 hgs⟩)
                clear hK K
                go_simp
                refine till_ready (rs := [18]) (by kernel_rfl) (by simp) (TillReady.cons rfl (fun K hK => ?_) TillReady.nil)
                go_simp
                obtain ⟨t18, ht18, ht18', hs18⟩ := hR6.strm
                go_at_call 9
                refine (pick_any sb t18 (w5.heap.size) 0 3 3 (fun k => ([x2, -1, 65536] : List Int).getD k 0) _ hs18 (by omega) (by decide) (by decide) (by omega) (fun k hk => (hr11.cell (h17 k hk) (show w5.heap.size ≠ sb by omega)))).mono ?_
                rintro e w7 ⟨⟨k18, hk18, rfl⟩, hr18⟩
                dsimp only
                generalize ([x2, -1, 65536] : List Int).getD k18 0 = y2
                have hR7 := hR6.then ht18 ht18' hr18
                have hzw7 : w4.heap.size ≤ w7.heap.size := hR7.size
                have hO7 := HR4.out.1.ran hR7 (by omega)
                obtain ⟨⟨a0, d0⟩, ⟨a1, d1⟩, ⟨a2, d2⟩, fz⟩ := hO7.cell hqi
                have e0 := fz (q * 3)
                have e1 := fz (q * 3 + 1)
                have e2 := fz (q * 3 + 2)
                have HO := Lib.hid (⟨hO7, (HR4.out.2.then ht8 ht8' hR7).mono (show _ ≤ 40 by omega)⟩ : _ ∧ _)
                refine hK.out _ _ ?_ (fun hHeld => ?_)
                focus (first | exact ⟨c1, c2⟩ | exact ⟨hR7.cell c1 hgs, hR7.cell c2 hgs⟩ | exact ⟨(hR7.alloc _).cell c1 hgs, (hR7.alloc _).cell c2 hgs⟩ | exact ⟨((hR7.alloc _).alloc _).cell c1 hgs, ((hR7.alloc _).alloc _).cell c2 hgs⟩ | exact ⟨hR6.cell c1 hgs, hR6.cell c2 hgs⟩ | exact ⟨(hR6.alloc _).cell c1 hgs, (hR6.alloc _).cell c2 hgs⟩ | exact ⟨((hR6.alloc _).alloc _).cell c1 hgs, ((hR6.alloc _).alloc _).cell c2 hgs⟩ | exact ⟨hR5.cell c1 hgs, hR5.cell c2 hgs⟩ | exact ⟨(hR5.alloc _).cell c1 hgs, (hR5.alloc _).cell c2 hgs⟩ | exact ⟨((hR5.alloc _).alloc _).cell c1 hgs, ((hR5.alloc _).alloc _).cell c2 hgs⟩ | exact ⟨hR0.cell c1 hgs, hR0.cell c2 hgs⟩ | exact ⟨(hR0.alloc _).cell c1 hgs, (hR0.alloc _).cell c2 hgs⟩ | exact ⟨((hR0.alloc _).alloc _).cell c1 hgs, ((hR0.alloc _).alloc _).cell c2 hgs⟩)
                clear hK K
                go_simp
                refine till_ready (rs := [19]) (by kernel_rfl) (by simp) (TillReady.late rfl (by kernel_rfl) (fun K hK => ?_) TillReady.nil)
                go_simp
                refine hK.out _ _ ?_
                clear hK K
                go_simp
                refine till_ready (rs := [20]) (by kernel_rfl) (by simp) (TillReady.late rfl (by kernel_rfl) (fun K hK => ?_) TillReady.nil)
                go_simp
                refine hK.out _ _ ?_
                clear hK K
                go_simp
                refine till_ready (rs := [21]) (by kernel_rfl) (by simp) (TillReady.late rfl (by kernel_rfl) (fun K hK => ?_) TillReady.nil)
                go_simp
                refine hK.out _ _ ?_
                clear hK K
                go_simp
                refine till_ready (rs := [22]) (by kernel_rfl) (by simp) (TillReady.late rfl (by kernel_rfl) (fun K hK => ?_) TillReady.nil)
                go_simp
                refine hK.out _ _ ?_
                clear hK K
                go_simp
                refine till_ready (rs := [23]) (by kernel_rfl) (by simp) (TillReady.late rfl (by kernel_rfl) (fun K hK => ?_) TillReady.nil)
                go_simp
                refine hK.out _ _ ?_
                clear hK K
                go_simp
                refine till_ready (rs := [24]) (by kernel_rfl) (by simp) (TillReady.late rfl (by kernel_rfl) (fun K hK => ?_) TillReady.nil)
                go_simp
                refine hK.out _ _ ?_
                clear hK K
                go_simp
                refine till_ready (rs := [25]) (by kernel_rfl) (by simp) (TillReady.late rfl (by kernel_rfl) (fun K hK => ?_) TillReady.nil)
                go_simp
                refine hK.out _ _ ?_
                clear hK K
                go_simp
                refine till_ready (rs := [26]) (by kernel_rfl) (by simp) (TillReady.late rfl (by kernel_rfl) (fun K hK => ?_) TillReady.nil)
                go_simp
                refine hK.out _ _ ?_
                clear hK K
                go_simp
                refine till_ready (rs := [27]) (by kernel_rfl) (by simp) (TillReady.late rfl (by kernel_rfl) (fun K hK => ?_) TillReady.nil)
                go_simp
                refine hK.out _ _ ?_
                clear hK K
                go_simp
                refine till_done (by kernel_rfl) ?_ _
                have HX := Lib.hid (⟨((HO.out.1.put (i := q * 3) ro).put (i := q * 3 + 1) y1).put (i := q * 3 + 2) y2, ((HO.out.2.setCell (a := ⟨g, q * 3, none⟩) (show w.heap.size ≤ g by omega) hsb (.int .i64 ro)).setCell (a := ⟨g, q * 3 + 1, none⟩) (show w.heap.size ≤ g by omega) hsb (.int .i64 y1)).setCell (a := ⟨g, q * 3 + 2, none⟩) (show w.heap.size ≤ g by omega) hsb (.int .i64 y2)⟩ : _ ∧ _)
                generalize ((w7.setCell ⟨g, q * 3, none⟩ (.int .i64 ro)).setCell ⟨g, q * 3 + 1, none⟩ (.int .i64 y1)).setCell ⟨g, q * 3 + 2, none⟩ (.int .i64 y2) = wz at HX ⊢
                clear hO7 d0 d1 d2 e0 e1 e2 fz
                go_wp2_with fail
                obtain ⟨l5, h5, hN, hA⟩ := HX.out.1.ops
                have HZ := Lib.hid (⟨hN, hA, HX.out.2⟩ : _ ∧ _ ∧ _)
                clear hN hA
                go_ret
                first | exact ⟨⟨_, l5, rfl, by omega, HZ.out.1, fun a n c hh => Nat.le_trans (by omega) (HZ.out.2.1 a n c hh)⟩, HZ.out.2.2⟩ | exact ⟨⟨_, rfl, l5, by omega, HZ.out.1, fun a n c hh => Nat.le_trans (by omega) (HZ.out.2.1 a n c hh)⟩, HZ.out.2.2⟩
            ·
              have h17 := cells_fresh (w4.alloc (.cells (([x1, -1, 99] : List Int).map (Value.int .i64)).toArray 3)) ([x2, -1, 65536] : List Int) 3
              simp only [World.size_alloc] at h17
              go_simp
              refine hK.out _ _ ?_ (fun hHeld => ?_)
              focus (first | exact ⟨c1, c2⟩ | exact ⟨hR7.cell c1 hgs, hR7.cell c2 hgs⟩ | exact ⟨(hR7.alloc _).cell c1 hgs, (hR7.alloc _).cell c2 hgs⟩ | exact ⟨((hR7.alloc _).alloc _).cell c1 hgs, ((hR7.alloc _).alloc _).cell c2 hgs⟩ | exact ⟨hR6.cell c1 hgs, hR6.cell c2 hgs⟩ | exact ⟨(hR6.alloc _).cell c1 hgs, (hR6.alloc _).cell c2 hgs⟩ | exact ⟨((hR6.alloc _).alloc _).cell c1 hgs, ((hR6.alloc _).alloc _).cell c2 hgs⟩ | exact ⟨hR5.cell c1 hgs, hR5.cell c2 hgs⟩ | exact ⟨(hR5.alloc _).cell c1 hgs, (hR5.alloc _).cell c2 hgs⟩ | exact ⟨((hR5.alloc _).alloc _).cell c1 hgs, ((hR5.alloc _).alloc _).cell c2 hgs⟩ | exact ⟨hR0.cell c1 hgs, hR0.cell c2 hgs⟩ | exact ⟨(hR0.alloc _).cell c1 hgs, (hR0.alloc _).cell c2 hgs⟩ | exact ⟨((hR0.alloc _).alloc _).cell c1 hgs, ((hR0.alloc _).alloc _).cell c2 hgs⟩)
              clear hK K
              go_simp
              refine till_ready (rs := [4]) (by kernel_rfl) (by simp) (TillReady.cons rfl (fun K hK => ?_) TillReady.nil)
              go_simp
              go_at_call 47
              refine (odd_any sb t8 1 2 ((w4.alloc (.cells (([x1, -1, 99] : List Int).map (Value.int .i64)).toArray 3)).alloc (.cells (([x2, -1, 65536] : List Int).map (Value.int .i64)).toArray 3)).drew (Strm.kept ((hs8.alloc _).alloc _) fun _ _ => rfl) (by omega) (by decide) (by decide) (by decide)).mono ?_
              rintro e w5 ⟨⟨ro, ro1, ro2, rfl⟩, hr4⟩
              have hR5 := ((hR0.alloc _).alloc _).then (Nat.le_refl _) (by omega) hr4.undrew
              have hz5 : w4.heap.size ≤ w5.heap.size := hR5.size
              refine hK.out _ _ ?_ (fun hHeld => ?_)
              focus (first | exact ⟨c1, c2⟩ | exact ⟨hR7.cell c1 hgs, hR7.cell c2 hgs⟩ | exact ⟨(hR7.alloc _).cell c1 hgs, (hR7.alloc _).cell c2 hgs⟩ | exact ⟨((hR7.alloc _).alloc _).cell c1 hgs, ((hR7.alloc _).alloc _).cell c2 hgs⟩ | exact ⟨hR6.cell c1 hgs, hR6.cell c2 hgs⟩ | exact ⟨(hR6.alloc _).cell c1 hgs, (hR6.alloc _).cell c2 hgs⟩ | exact ⟨((hR6.alloc _).alloc _).cell c1 hgs, ((hR6.alloc _).alloc _).cell c2 hgs⟩ | exact ⟨hR5.cell c1 hgs, hR5.cell c2 hgs⟩ | exact ⟨(hR5.alloc _).cell c1 hgs, (hR5.alloc _).cell c2 hgs⟩ | exact ⟨((hR5.alloc _).alloc _).cell c1 hgs, ((hR5.alloc _).alloc _).cell c2 hgs⟩ | exact ⟨hR0.cell c1 hgs, hR0.cell c2 hgs⟩ | exact ⟨(hR0.alloc _).cell c1 hgs, (hR0.alloc _).cell c2 hgs⟩ | exact ⟨((hR0.alloc _).alloc _).cell c1 hgs, ((hR0.alloc _).alloc _).cell c2 hgs⟩)
              clear hK K
              go_simp
              refine till_ready (rs := [11]) (by kernel_rfl) (by simp) (TillReady.cons rfl (fun K hK => ?_) TillReady.nil)
              go_simp
              obtain ⟨t11, ht11, ht11', hs11⟩ := hR5.strm
              go_at_call 9
              refine (pick_any sb t11 (w4.heap.size) 0 3 3 (fun k => ([x1, -1, 99] : List Int).getD k 0) _ hs11 (by omega) (by decide) (by decide) (by omega) (fun k hk => (hr4.cell (cell_more (h10 k hk)) (show w4.heap.size ≠ sb by omega)))).mono ?_
              rintro e w6 ⟨⟨k11, hk11, rfl⟩, hr11⟩
              dsimp only
              generalize ([x1, -1, 99] : List Int).getD k11 0 = y1
              have hR6 := hR5.then ht11 ht11' hr11
              have hzw6 : w4.heap.size ≤ w6.heap.size := hR6.size
              refine hK.out _ _ ?_ (fun hHeld => ?_)
              focus (first | exact ⟨c1, c2⟩ | exact ⟨hR7.cell c1 hgs, hR7.cell c2 hgs⟩ | exact ⟨(hR7.alloc _).cell c1 hgs, (hR7.alloc _).cell c2 hgs⟩ | exact ⟨((hR7.alloc _).alloc _).cell c1 hgs, ((hR7.alloc _).alloc _).cell c2 hgs⟩ | exact ⟨hR6.cell c1 hgs, hR6.cell c2 hgs⟩ | exact ⟨(hR6.alloc _).cell c1 hgs, (hR6.alloc _).cell c2 hgs⟩ | exact ⟨((hR6.alloc _).alloc _).cell c1 hgs, ((hR6.alloc _).alloc _).cell c2 hgs⟩ | exact ⟨hR5.cell c1 hgs, hR5.cell c2 hgs⟩ | exact ⟨(hR5.alloc _).cell c1 hgs, (hR5.alloc _).cell c2 hgs⟩ | exact ⟨((hR5.alloc _).alloc _).cell c1 hgs, ((hR5.alloc _).alloc _).cell c2 hgs⟩ | exact ⟨hR0.cell c1 hgs, hR0.cell c2 hgs⟩ | exact ⟨(hR0.alloc _).cell c1 hgs, (hR0.alloc _).cell c2 hgs⟩ | exact ⟨((hR0.alloc _).alloc _).cell c1 hgs, ((hR0.alloc _).alloc _).cell c2 hgs⟩)
              clear hK K
              go_simp
              refine till_ready (rs := [18]) (by kernel_rfl) (by simp) (TillReady.cons rfl (fun K hK => ?_) TillReady.nil)
              go_simp
              obtain ⟨t18, ht18, ht18', hs18⟩ := hR6.strm
              go_at_call 9
              refine (pick_any sb t18 (w4.heap.size + 1) 0 3 3 (fun k => ([x2, -1, 65536] : List Int).getD k 0) _ hs18 (by omega) (by decide) (by decide) (by omega) (fun k hk => (hr11.cell (hr4.cell (h17 k hk) (show w4.heap.size + 1 ≠ sb by omega)) (show w4.heap.size + 1 ≠ sb by omega)))).mono ?_
              rintro e w7 ⟨⟨k18, hk18, rfl⟩, hr18⟩
              dsimp only
              generalize ([x2, -1, 65536] : List Int).getD k18 0 = y2
              have hR7 := hR6.then ht18 ht18' hr18
              have hzw7 : w4.heap.size ≤ w7.heap.size := hR7.size
              have hO7 := HR4.out.1.ran hR7 (by omega)
              obtain ⟨⟨a0, d0⟩, ⟨a1, d1⟩, ⟨a2, d2⟩, fz⟩ := hO7.cell hqi
              have e0 := fz (q * 3)
              have e1 := fz (q * 3 + 1)
              have e2 := fz (q * 3 + 2)
              have HO := Lib.hid (⟨hO7, (HR4.out.2.then ht8 ht8' hR7).mono (show _ ≤ 40 by omega)⟩ : _ ∧ _)
              refine hK.out _ _ ?_ (fun hHeld => ?_)
              focus (first | exact ⟨c1, c2⟩ | exact ⟨hR7.cell c1 hgs, hR7.cell c2 hgs⟩ | exact ⟨(hR7.alloc _).cell c1 hgs, (hR7.alloc _).cell c2 hgs⟩ | exact ⟨((hR7.alloc _).alloc _).cell c1 hgs, ((hR7.alloc _).alloc _).cell c2 hgs⟩ | exact ⟨hR6.cell c1 hgs, hR6.cell c2 hgs⟩ | exact ⟨(hR6.alloc _).cell c1 hgs, (hR6.alloc _).cell c2 hgs⟩ | exact ⟨((hR6.alloc _).alloc _).cell c1 hgs, ((hR6.alloc _).alloc _).cell c2 hgs⟩ | exact ⟨hR5.cell c1 hgs, hR5.cell c2 hgs⟩ | exact ⟨(hR5.alloc _).cell c1 hgs, (hR5.alloc _).cell c2 hgs⟩ | exact ⟨((hR5.alloc _).alloc _).cell c1 hgs, ((hR5.alloc _).alloc _).cell c2 hgs⟩ | exact ⟨hR0.cell c1 hgs, hR0.cell c2 hgs⟩ | exact ⟨(hR0.alloc _).cell c1 hgs, (hR0.alloc _).cell c2 hgs⟩ | exact ⟨((hR0.alloc _).alloc _).cell c1 hgs, ((hR0.alloc _).alloc _).cell c2 hgs⟩)
              clear hK K
              go_simp
              refine till_ready (rs := [19]) (by kernel_rfl) (by simp) (TillReady.late rfl (by kernel_rfl) (fun K hK => ?_) TillReady.nil)
              go_simp
              refine hK.out _ _ ?_
              clear hK K
              go_simp
              refine till_ready (rs := [20]) (by kernel_rfl) (by simp) (TillReady.late rfl (by kernel_rfl) (fun K hK => ?_) TillReady.nil)
              go_simp
              refine hK.out _ _ ?_
              clear hK K
              go_simp
              refine till_ready (rs := [21]) (by kernel_rfl) (by simp) (TillReady.late rfl (by kernel_rfl) (fun K hK => ?_) TillReady.nil)
              go_simp
              refine hK.out _ _ ?_
              clear hK K
              go_simp
              refine till_ready (rs := [22]) (by kernel_rfl) (by simp) (TillReady.late rfl (by kernel_rfl) (fun K hK => ?_) TillReady.nil)
              go_simp
              refine hK.out _ _ ?_
              clear hK K
              go_simp
              refine till_ready (rs := [23]) (by kernel_rfl) (by simp) (TillReady.late rfl (by kernel_rfl) (fun K hK => ?_) TillReady.nil)
              go_simp
              refine hK.out _ _ ?_
              clear hK K
              go_simp
              refine till_ready (rs := [24]) (by kernel_rfl) (by simp) (TillReady.late rfl (by kernel_rfl) (fun K hK => ?_) TillReady.nil)
              go_simp
              refine hK.out _ _ ?_
              clear hK K
              go_simp
              refine till_ready (rs := [25]) (by kernel_rfl) (by simp) (TillReady.late rfl (by kernel_rfl) (fun K hK => ?_) TillReady.nil)
              go_simp
              refine hK.out _ _ ?_
              clear hK K
              go_simp
              refine till_ready (rs := [26]) (by kernel_rfl) (by simp) (TillReady.late rfl (by kernel_rfl) (fun K hK => ?_) TillReady.nil)
              go_simp
              refine hK.out _ _ ?_
              clear hK K
              go_simp
              refine till_ready (rs := [27]) (by kernel_rfl) (by simp) (TillReady.late rfl (by kernel_rfl) (fun K hK => ?_) TillReady.nil)
              go_simp
              refine hK.out _ _ ?_
              clear hK K
              go_simp
              refine till_done (by kernel_rfl) ?_ _
              have HX := Lib.hid (⟨((HO.out.1.put (i := q * 3) ro).put (i := q * 3 + 1) y1).put (i := q * 3 + 2) y2, ((HO.out.2.setCell (a := ⟨g, q * 3, none⟩) (show w.heap.size ≤ g by omega) hsb (.int .i64 ro)).setCell (a := ⟨g, q * 3 + 1, none⟩) (show w.heap.size ≤ g by omega) hsb (.int .i64 y1)).setCell (a := ⟨g, q * 3 + 2, none⟩) (show w.heap.size ≤ g by omega) hsb (.int .i64 y2)⟩ : _ ∧ _)
              generalize ((w7.setCell ⟨g, q * 3, none⟩ (.int .i64 ro)).setCell ⟨g, q * 3 + 1, none⟩ (.int .i64 y1)).setCell ⟨g, q * 3 + 2, none⟩ (.int .i64 y2) = wz at HX ⊢
              clear hO7 d0 d1 d2 e0 e1 e2 fz
              go_wp2_with fail
              obtain ⟨l5, h5, hN, hA⟩ := HX.out.1.ops
              have HZ := Lib.hid (⟨hN, hA, HX.out.2⟩ : _ ∧ _ ∧ _)
              clear hN hA
              go_ret
              first | exact ⟨⟨_, l5, rfl, by omega, HZ.out.1, fun a n c hh => Nat.le_trans (by omega) (HZ.out.2.1 a n c hh)⟩, HZ.out.2.2⟩ | exact ⟨⟨_, rfl, l5, by omega, HZ.out.1, fun a n c hh => Nat.le_trans (by omega) (HZ.out.2.1 a n c hh)⟩, HZ.out.2.2⟩
          ·
            have h17 := cells_fresh w4 ([x2, -1, 65536] : List Int) 3
            go_simp
            refine hK.out _ _ ?_ (fun hHeld => ?_)
            focus (first | exact ⟨c1, c2⟩ | exact ⟨hR7.cell c1 hgs, hR7.cell c2 hgs⟩ | exact ⟨(hR7.alloc _).cell c1 hgs, (hR7.alloc _).cell c2 hgs⟩ | exact ⟨((hR7.alloc _).alloc _).cell c1 hgs, ((hR7.alloc _).alloc _).cell c2 hgs⟩ | exact ⟨hR6.cell c1 hgs, hR6.cell c2 hgs⟩ | exact ⟨(hR6.alloc _).cell c1 hgs, (hR6.alloc _).cell c2 hgs⟩ | exact ⟨((hR6.alloc _).alloc _).cell c1 hgs, ((hR6.alloc _).alloc _).cell c2 hgs⟩ | exact ⟨hR5.cell c1 hgs, hR5.cell c2 hgs⟩ | exact ⟨(hR5.alloc _).cell c1 hgs, (hR5.alloc _).cell c2 hgs⟩ | exact ⟨((hR5.alloc _).alloc _).cell c1 hgs, ((hR5.alloc _).alloc _).cell c2 hgs⟩ | exact ⟨hR0.cell c1 hgs, hR0.cell c2 hgs⟩ | exact ⟨(hR0.alloc _).cell c1 hgs, (hR0.alloc _).cell c2 hgs⟩ | exact ⟨((hR0.alloc _).alloc _).cell c1 hgs, ((hR0.alloc _).alloc _).cell c2 hgs⟩)
            clear hK K
            go_simp
            refine till_ready (rs := [4, 10]) (by kernel_rfl) (by simp) (TillReady.cons rfl (fun K hK => ?_) (TillReady.cons rfl (fun K hK => ?_) TillReady.nil))
            ·
              go_simp
              go_at_call 47
              refine (odd_any sb t8 1 2 (w4.alloc (.cells (([x2, -1, 65536] : List Int).map (Value.int .i64)).toArray 3)).drew (Strm.kept (hs8.alloc _) fun _ _ => rfl) (by omega) (by decide) (by decide) (by decide)).mono ?_
              rintro e w5 ⟨⟨ro, ro1, ro2, rfl⟩, hr4⟩
              have hR5 := (hR0.alloc _).then (Nat.le_refl _) (by omega) hr4.undrew
              have hz5 : w4.heap.size ≤ w5.heap.size := hR5.size
              refine hK.out _ _ ?_ (fun hHeld => ?_)
              focus (first | exact ⟨c1, c2⟩ | exact ⟨hR7.cell c1 hgs, hR7.cell c2 hgs⟩ | exact ⟨(hR7.alloc _).cell c1 hgs, (hR7.alloc _).cell c2 hgs⟩ | exact ⟨((hR7.alloc _).alloc _).cell c1 hgs, ((hR7.alloc _).alloc _).cell c2 hgs⟩ | exact ⟨hR6.cell c1 hgs, hR6.cell c2 hgs⟩ | exact ⟨(hR6.alloc _).cell c1 hgs, (hR6.alloc _).cell c2 hgs⟩ | exact ⟨((hR6.alloc _).alloc _).cell c1 hgs, ((hR6.alloc _).alloc _).cell c2 hgs⟩ | exact ⟨hR5.cell c1 hgs, hR5.cell c2 hgs⟩ | exact ⟨(hR5.alloc _).cell c1 hgs, (hR5.alloc _).cell c2 hgs⟩ | exact ⟨((hR5.alloc _).alloc _).cell c1 hgs, ((hR5.alloc _).alloc _).cell c2 hgs⟩ | exact ⟨hR0.cell c1 hgs, hR0.cell c2 hgs⟩ | exact ⟨(hR0.alloc _).cell c1 hgs, (hR0.alloc _).cell c2 hgs⟩ | exact ⟨((hR0.alloc _).alloc _).cell c1 hgs, ((hR0.alloc _).alloc _).cell c2 hgs⟩)
              clear hK K
              go_simp
              refine till_ready (rs := [10]) (by kernel_rfl) (by simp) (TillReady.cons rfl (fun K hK => ?_) TillReady.nil)
              have h10 := cells_fresh w5 ([x1, -1, 99] : List Int) 3
              go_simp
              refine hK.out _ _ ?_ (fun hHeld => ?_)
              focus (first | exact ⟨c1, c2⟩ | exact ⟨hR7.cell c1 hgs, hR7.cell c2 hgs⟩ | exact ⟨(hR7.alloc _).cell c1 hgs, (hR7.alloc _).cell c2 hgs⟩ | exact ⟨((hR7.alloc _).alloc _).cell c1 hgs, ((hR7.alloc _).alloc _).cell c2 hgs⟩ | exact ⟨hR6.cell c1 hgs, hR6.cell c2 hgs⟩ | exact ⟨(hR6.alloc _).cell c1 hgs, (hR6.alloc _).cell c2 hgs⟩ | exact ⟨((hR6.alloc _).alloc _).cell c1 hgs, ((hR6.alloc _).alloc _).cell c2 hgs⟩ | exact ⟨hR5.cell c1 hgs, hR5.cell c2 hgs⟩ | exact ⟨(hR5.alloc _).cell c1 hgs, (hR5.alloc _).cell c2 hgs⟩ | exact ⟨((hR5.alloc _).alloc _).cell c1 hgs, ((hR5.alloc _).alloc _).cell c2 hgs⟩ | exact ⟨hR0.cell c1 hgs, hR0.cell c2 hgs⟩ | exact ⟨(hR0.alloc _).cell c1 hgs, (hR0.alloc _).cell c2 hgs⟩ | exact ⟨((hR0.alloc _).alloc _).cell c1 hgs, ((hR0.alloc _).alloc _).cell c2 hgs⟩)
              clear hK K
              go_simp
              refine till_ready (rs := [11]) (by kernel_rfl) (by simp) (TillReady.cons rfl (fun K hK => ?_) TillReady.nil)
              go_simp
              obtain ⟨t11, ht11, ht11', hs11⟩ := (hR5.alloc _).strm
              go_at_call 9
              refine (pick_any sb t11 (w5.heap.size) 0 3 3 (fun k => ([x1, -1, 99] : List Int).getD k 0) _ hs11 (by omega) (by decide) (by decide) (by omega) (fun k hk => (h10 k hk))).mono ?_
              rintro e w6 ⟨⟨k11, hk11, rfl⟩, hr11⟩
              dsimp only
              generalize ([x1, -1, 99] : List Int).getD k11 0 = y1
              have hR6 := (hR5.alloc _).then ht11 ht11' hr11
              have hzw6 : w4.heap.size ≤ w6.heap.size := hR6.size
              refine hK.out _ _ ?_ (fun hHeld => ?_)
              focus (first | exact ⟨c1, c2⟩ | exact ⟨hR7.cell c1 hgs, hR7.cell c2 hgs⟩ | exact ⟨(hR7.alloc _).cell c1 hgs, (hR7.alloc _).cell c2 hgs⟩ | exact ⟨((hR7.alloc _).alloc _).cell c1 hgs, ((hR7.alloc _).alloc _).cell c2 hgs⟩ | exact ⟨hR6.cell c1 hgs, hR6.cell c2 hgs⟩ | exact ⟨(hR6.alloc _).cell c1 hgs, (hR6.alloc _).cell c2 hgs⟩ | exact ⟨((hR6.alloc _).alloc _).cell c1 hgs, ((hR6.alloc _).alloc _).cell c2 hgs⟩ | exact ⟨hR5.cell c1 hgs, hR5.cell c2 hgs⟩ | exact ⟨(hR5.alloc _).cell c1 hgs, (hR5.alloc _).cell c2 hgs⟩ | exact ⟨((hR5.alloc _).alloc _).cell c1 hgs, ((hR5.alloc _).alloc _).cell c2 hgs⟩ | exact ⟨hR0.cell c1 hgs, hR0.cell c2 hgs⟩ | exact ⟨(hR0.alloc _).cell c1 hgs, (hR0.alloc _).cell c2 hgs⟩ | exact ⟨((hR0.alloc _).alloc _).cell c1 hgs, ((hR0.alloc _).alloc _).cell c2 hgs⟩)
              clear hK K
              go_simp
              refine till_ready (rs := [18]) (by kernel_rfl) (by simp) (TillReady.cons rfl (fun K hK => ?_) TillReady.nil)
              go_simp
              obtain ⟨t18, ht18, ht18', hs18⟩ := hR6.strm
              go_at_call 9
              refine (pick_any sb t18 (w4.heap.size) 0 3 3 (fun k => ([x2, -1, 65536] : List Int).getD k 0) _ hs18 (by omega) (by decide) (by decide) (by omega) (fun k hk => (hr11.cell (cell_more (hr4.cell (h17 k hk) (show w4.heap.size ≠ sb by omega))) (show w4.heap.size ≠ sb by omega)))).mono ?_
              rintro e w7 ⟨⟨k18, hk18, rfl⟩, hr18⟩
              dsimp only
              generalize ([x2, -1, 65536] : List Int).getD k18 0 = y2
              have hR7 := hR6.then ht18 ht18' hr18
              have hzw7 : w4.heap.size ≤ w7.heap.size := hR7.size
              have hO7 := HR4.out.1.ran hR7 (by omega)
              obtain ⟨⟨a0, d0⟩, ⟨a1, d1⟩, ⟨a2, d2⟩, fz⟩ := hO7.cell hqi
              have e0 := fz (q * 3)
              have e1 := fz (q * 3 + 1)
              have e2 := fz (q * 3 + 2)
              have HO := Lib.hid (⟨hO7, (HR4.out.2.then ht8 ht8' hR7).mono (show _ ≤ 40 by omega)⟩ : _ ∧ _)
              refine hK.out _ _ ?_ (fun hHeld => ?_)
              focus (first | exact ⟨c1, c2⟩ | exact ⟨hR7.cell c1 hgs, hR7.cell c2 hgs⟩ | exact ⟨(hR7.alloc _).cell c1 hgs, (hR7.alloc _).cell c2 hgs⟩ | exact ⟨((hR7.alloc _).alloc _).cell c1 hgs, ((hR7.alloc _).alloc _).cell c2 hgs⟩ | exact ⟨hR6.cell c1 hgs, hR6.cell c2 hgs⟩ | exact ⟨(hR6.alloc _).cell c1 hgs, (hR6.alloc _).cell c2 hgs⟩ | exact ⟨((hR6.alloc _).alloc _).cell c1 hgs, ((hR6.alloc _).alloc _).cell c2 hgs⟩ | exact ⟨hR5.cell c1 hgs, hR5.cell c2 hgs⟩ | exact ⟨(hR5.alloc _).cell c1 hgs, (hR5.alloc _).cell c2 hgs⟩ | exact ⟨((hR5.alloc _).alloc _).cell c1 hgs, ((hR5.alloc _).alloc _).cell c2 hgs⟩ | exact ⟨hR0.cell c1 hgs, hR0.cell c2 hgs⟩ | exact ⟨(hR0.alloc _).cell c1 hgs, (hR0.alloc _).cell c2 hgs⟩ | exact ⟨((hR0.alloc _).alloc _).cell c1 hgs, ((hR0.alloc _).alloc _).cell c2 hgs⟩)
              clear hK K
              go_simp
              refine till_ready (rs := [19]) (by kernel_rfl) (by simp) (TillReady.late rfl (by kernel_rfl) (fun K hK => ?_) TillReady.nil)
              go_simp
              refine hK.out _ _ ?_
              clear hK K
              go_simp
              refine till_ready (rs := [20]) (by kernel_rfl) (by simp) (TillReady.late rfl (by kernel_rfl) (fun K hK => ?_) TillReady.nil)
              go_simp
              refine hK.out _ _ ?_
              clear hK K
              go_simp
              refine till_ready (rs := [21]) (by kernel_rfl) (by simp) (TillReady.late rfl (by kernel_rfl) (fun K hK => ?_) TillReady.nil)
              go_simp
              refine hK.out _ _ ?_
              clear hK K
              go_simp
              refine till_ready (rs := [22]) (by kernel_rfl) (by simp) (TillReady.late rfl (by kernel_rfl) (fun K hK => ?_) TillReady.nil)
              go_simp
              refine hK.out _ _ ?_
              clear hK K
              go_simp
              refine till_ready (rs := [23]) (by kernel_rfl) (by simp) (TillReady.late rfl (by kernel_rfl) (fun K hK => ?_) TillReady.nil)
              go_simp
              refine hK.out _ _ ?_
              clear hK K
              go_simp
              refine till_ready (rs := [24]) (by kernel_rfl) (by simp) (TillReady.late rfl (by kernel_rfl) (fun K hK => ?_) TillReady.nil)
              go_simp
              refine hK.out _ _ ?_
              clear hK K
              go_simp
              refine till_ready (rs := [25]) (by kernel_rfl) (by simp) (TillReady.late rfl (by kernel_rfl) (fun K hK => ?_) TillReady.nil)
              go_simp
              refine hK.out _ _ ?_
              clear hK K
              go_simp
              refine till_ready (rs := [26]) (by kernel_rfl) (by simp) (TillReady.late rfl (by kernel_rfl) (fun K hK => ?_) TillReady.nil)
              go_simp
              refine hK.out _ _ ?_
              clear hK K
              go_simp
              refine till_ready (rs := [27]) (by kernel_rfl) (by simp) (TillReady.late rfl (by kernel_rfl) (fun K hK => ?_) TillReady.nil)
              go_simp
              refine hK.out _ _ ?_
              clear hK K
              go_simp
              refine till_done (by kernel_rfl) ?_ _
              have HX := Lib.hid (⟨((HO.out.1.put (i := q * 3) ro).put (i := q * 3 + 1) y1).put (i := q * 3 + 2) y2, ((HO.out.2.setCell (a := ⟨g, q * 3, none⟩) (show w.heap.size ≤ g by omega) hsb (.int .i64 ro)).setCell (a := ⟨g, q * 3 + 1, none⟩) (show w.heap.size ≤ g by omega) hsb (.int .i64 y1)).setCell (a := ⟨g, q * 3 + 2, none⟩) (show w.heap.size ≤ g by omega) hsb (.int .i64 y2)⟩ : _ ∧ _)
              generalize ((w7.setCell ⟨g, q * 3, none⟩ (.int .i64 ro)).setCell ⟨g, q * 3 + 1, none⟩ (.int .i64 y1)).setCell ⟨g, q * 3 + 2, none⟩ (.int .i64 y2) = wz at HX ⊢
              clear hO7 d0 d1 d2 e0 e1 e2 fz
              go_wp2_with fail
              obtain ⟨l5, h5, hN, hA⟩ := HX.out.1.ops
              have HZ := Lib.hid (⟨hN, hA, HX.out.2⟩ : _ ∧ _ ∧ _)
              clear hN hA
              go_ret
              first | exact ⟨⟨_, l5, rfl, by omega, HZ.out.1, fun a n c hh => Nat.le_trans (by omega) (HZ.out.2.1 a n c hh)⟩, HZ.out.2.2⟩ | exact ⟨⟨_, rfl, l5, by omega, HZ.out.1, fun a n c hh => Nat.le_trans (by omega) (HZ.out.2.1 a n c hh)⟩, HZ.out.2.2⟩
            ·
              have h10 := cells_fresh (w4.alloc (.cells (([x2, -1, 65536] : List Int).map (Value.int .i64)).toArray 3)) ([x1, -1, 99] : List Int) 3
              simp only [World.size_alloc] at h10
              go_simp
              refine hK.out _ _ ?_ (fun hHeld => ?_)
              focus (first | exact ⟨c1, c2⟩ | exact ⟨hR7.cell c1 hgs, hR7.cell c2 hgs⟩ | exact ⟨(hR7.alloc _).cell c1 hgs, (hR7.alloc _).cell c2 hgs⟩ | exact ⟨((hR7.alloc _).alloc _).cell c1 hgs, ((hR7.alloc _).alloc _).cell c2 hgs⟩ | exact ⟨hR6.cell c1 hgs, hR6.cell c2 hgs⟩ | exact ⟨(hR6.alloc _).cell c1 hgs, (hR6.alloc _).cell c2 hgs⟩ | exact ⟨((hR6.alloc _).alloc _).cell c1 hgs, ((hR6.alloc _).alloc _).cell c2 hgs⟩ | exact ⟨hR5.cell c1 hgs, hR5.cell c2 hgs⟩ | exact ⟨(hR5.alloc _).cell c1 hgs, (hR5.alloc _).cell c2 hgs⟩ | exact ⟨((hR5.alloc _).alloc _).cell c1 hgs, ((hR5.alloc _).alloc _).cell c2 hgs⟩ | exact ⟨hR0.cell c1 hgs, hR0.cell c2 hgs⟩ | exact ⟨(hR0.alloc _).cell c1 hgs, (hR0.alloc _).cell c2 hgs⟩ | exact ⟨((hR0.alloc _).alloc _).cell c1 hgs, ((hR0.alloc _).alloc _).cell c2 hgs⟩)
              clear hK K
              go_simp
              refine till_ready (rs := [4]) (by kernel_rfl) (by simp) (TillReady.cons rfl (fun K hK => ?_) TillReady.nil)
              go_simp
              go_at_call 47
              refine (odd_any sb t8 1 2 ((w4.alloc (.cells (([x2, -1, 65536] : List Int).map (Value.int .i64)).toArray 3)).alloc (.cells (([x1, -1, 99] : List Int).map (Value.int .i64)).toArray 3)).drew (Strm.kept ((hs8.alloc _).alloc _) fun _ _ => rfl) (by omega) (by decide) (by decide) (by decide)).mono ?_
              rintro e w5 ⟨⟨ro, ro1, ro2, rfl⟩, hr4⟩
              have hR5 := ((hR0.alloc _).alloc _).then (Nat.le_refl _) (by omega) hr4.undrew
              have hz5 : w4.heap.size ≤ w5.heap.size := hR5.size
              refine hK.out _ _ ?_ (fun hHeld => ?_)
              focus (first | exact ⟨c1, c2⟩ | exact ⟨hR7.cell c1 hgs, hR7.cell c2 hgs⟩ | exact ⟨(hR7.alloc _).cell c1 hgs, (hR7.alloc _).cell c2 hgs⟩ | exact ⟨((hR7.alloc _).alloc _).cell c1 hgs, ((hR7.alloc _).alloc _).cell c2 hgs⟩ | exact ⟨hR6.cell c1 hgs, hR6.cell c2 hgs⟩ | exact ⟨(hR6.alloc _).cell c1 hgs, (hR6.alloc _).cell c2 hgs⟩ | exact ⟨((hR6.alloc _).alloc _).cell c1 hgs, ((hR6.alloc _).alloc _).cell c2 hgs⟩ | exact ⟨hR5.cell c1 hgs, hR5.cell c2 hgs⟩ | exact ⟨(hR5.alloc _).cell c1 hgs, (hR5.alloc _).cell c2 hgs⟩ | exact ⟨((hR5.alloc _).alloc _).cell c1 hgs, ((hR5.alloc _).alloc _).cell c2 hgs⟩ | exact ⟨hR0.cell c1 hgs, hR0.cell c2 hgs⟩ | exact ⟨(hR0.alloc _).cell c1 hgs, (hR0.alloc _).cell c2 hgs⟩ | exact ⟨((hR0.alloc _).alloc _).cell c1 hgs, ((hR0.alloc _).alloc _).cell c2 hgs⟩)
              clear hK K
              go_simp
              refine till_ready (rs := [11]) (by kernel_rfl) (by simp) (TillReady.cons rfl (fun K hK => ?_) TillReady.nil)
              go_simp
              obtain ⟨t11, ht11, ht11', hs11⟩ := hR5.strm
              go_at_call 9
              refine (pick_any sb t11 (w4.heap.size + 1) 0 3 3 (fun k => ([x1, -1, 99] : List Int).getD k 0) _ hs11 (by omega) (by decide) (by decide) (by omega) (fun k hk => (hr4.cell (h10 k hk) (show w4.heap.size + 1 ≠ sb by omega)))).mono ?_
              rintro e w6 ⟨⟨k11, hk11, rfl⟩, hr11⟩
              dsimp only
              generalize ([x1, -1, 99] : List Int).getD k11 0 = y1
              have hR6 := hR5.then ht11 ht11' hr11
              have hzw6 : w4.heap.size ≤ w6.heap.size := hR6.size
              refine hK.out _ _ ?_ (fun hHeld => ?_)
              focus (first | exact ⟨c1, c2⟩ | exact ⟨hR7.cell c1 hgs, hR7.cell c2 hgs⟩ | exact ⟨(hR7.alloc _).cell c1 hgs, (hR7.alloc _).cell c2 hgs⟩ | exact ⟨((hR7.alloc _).alloc _).cell c1 hgs, ((hR7.alloc _).alloc _).cell c2 hgs⟩ | exact ⟨hR6.cell c1 hgs, hR6.cell c2 hgs⟩ | exact ⟨(hR6.alloc _).cell c1 hgs, (hR6.alloc _).cell c2 hgs⟩ | exact ⟨((hR6.alloc _).alloc _).cell c1 hgs, ((hR6.alloc _).alloc _).cell c2 hgs⟩ | exact ⟨hR5.cell c1 hgs, hR5.cell c2 hgs⟩ | exact ⟨(hR5.alloc _).cell c1 hgs, (hR5.alloc _).cell c2 hgs⟩ | exact ⟨((hR5.alloc _).alloc _).cell c1 hgs, ((hR5.alloc _).alloc _).cell c2 hgs⟩ | exact ⟨hR0.cell c1 hgs, hR0.cell c2 hgs⟩ | exact ⟨(hR0.alloc _).cell c1 hgs, (hR0.alloc _).cell c2 hgs⟩ | exact ⟨((hR0.alloc _).alloc _).cell c1 hgs, ((hR0.alloc _).alloc _).cell c2 hgs⟩)
              clear hK K
              go_simp
              refine till_ready (rs := [18]) (by kernel_rfl) (by simp) (TillReady.cons rfl (fun K hK => ?_) TillReady.nil)
              go_simp
              obtain ⟨t18, ht18, ht18', hs18⟩ := hR6.strm
              go_at_call 9
              refine (pick_any sb t18 (w4.heap.size) 0 3 3 (fun k => ([x2, -1, 65536] : List Int).getD k 0) _ hs18 (by omega) (by decide) (by decide) (by omega) (fun k hk => (hr11.cell (hr4.cell (cell_more (h17 k hk)) (show w4.heap.size ≠ sb by omega)) (show w4.heap.size ≠ sb by omega)))).mono ?_
              rintro e w7 ⟨⟨k18, hk18, rfl⟩, hr18⟩
              dsimp only
              generalize ([x2, -1, 65536] : List Int).getD k18 0 = y2
              have hR7 := hR6.then ht18 ht18' hr18
              have hzw7 : w4.heap.size ≤ w7.heap.size := hR7.size
              have hO7 := HR4.out.1.ran hR7 (by omega)
              obtain ⟨⟨a0, d0⟩, ⟨a1, d1⟩, ⟨a2, d2⟩, fz⟩ := hO7.cell hqi
              have e0 := fz (q * 3)
              have e1 := fz (q * 3 + 1)
              have e2 := fz (q * 3 + 2)
              have HO := Lib.hid (⟨hO7, (HR4.out.2.then ht8 ht8' hR7).mono (show _ ≤ 40 by omega)⟩ : _ ∧ _)
              refine hK.out _ _ ?_ (fun hHeld => ?_)
              focus (first | exact ⟨c1, c2⟩ | exact ⟨hR7.cell c1 hgs, hR7.cell c2 hgs⟩ | exact ⟨(hR7.alloc _).cell c1 hgs, (hR7.alloc _).cell c2 hgs⟩ | exact ⟨((hR7.alloc _).alloc _).cell c1 hgs, ((hR7.alloc _).alloc _).cell c2 hgs⟩ | exact ⟨hR6.cell c1 hgs, hR6.cell c2 hgs⟩ | exact ⟨(hR6.alloc _).cell c1 hgs, (hR6.alloc _).cell c2 hgs⟩ | exact ⟨((hR6.alloc _).alloc _).cell c1 hgs, ((hR6.alloc _).alloc _).cell c2 hgs⟩ | exact ⟨hR5.cell c1 hgs, hR5.cell c2 hgs⟩ | exact ⟨(hR5.alloc _).cell c1 hgs, (hR5.alloc _).cell c2 hgs⟩ | exact ⟨((hR5.alloc _).alloc _).cell c1 hgs, ((hR5.alloc _).alloc _).cell c2 hgs⟩ | exact ⟨hR0.cell c1 hgs, hR0.cell c2 hgs⟩ | exact ⟨(hR0.alloc _).cell c1 hgs, (hR0.alloc _).cell c2 hgs⟩ | exact ⟨((hR0.alloc _).alloc _).cell c1 hgs, ((hR0.alloc _).alloc _).cell c2 hgs⟩)
              clear hK K
              go_simp
              refine till_ready (rs := [19]) (by kernel_rfl) (by simp) (TillReady.late rfl (by kernel_rfl) (fun K hK => ?_) TillReady.nil)
              go_simp
              refine hK.out _ _ ?_
              clear hK K
              go_simp
              refine till_ready (rs := [20]) (by kernel_rfl) (by simp) (TillReady.late rfl (by kernel_rfl) (fun K hK => ?_) TillReady.nil)
              go_simp
              refine hK.out _ _ ?_
              clear hK K
              go_simp
              refine till_ready (rs := [21]) (by kernel_rfl) (by simp) (TillReady.late rfl (by kernel_rfl) (fun K hK => ?_) TillReady.nil)
              go_simp
              refine hK.out _ _ ?_
              clear hK K
              go_simp
              refine till_ready (rs := [22]) (by kernel_rfl) (by simp) (TillReady.late rfl (by kernel_rfl) (fun K hK => ?_) TillReady.nil)
              go_simp
              refine hK.out _ _ ?_
              clear hK K
              go_simp
              refine till_ready (rs := [23]) (by kernel_rfl) (by simp) (TillReady.late rfl (by kernel_rfl) (fun K hK => ?_) TillReady.nil)
              go_simp
              refine hK.out _ _ ?_
              clear hK K
              go_simp
              refine till_ready (rs := [24]) (by kernel_rfl) (by simp) (TillReady.late rfl (by kernel_rfl) (fun K hK => ?_) TillReady.nil)
              go_simp
              refine hK.out _ _ ?_
              clear hK K
              go_simp
              refine till_ready (rs := [25]) (by kernel_rfl) (by simp) (TillReady.late rfl (by kernel_rfl) (fun K hK => ?_) TillReady.nil)
              go_simp
              refine hK.out _ _ ?_
              clear hK K
              go_simp
              refine till_ready (rs := [26]) (by kernel_rfl) (by simp) (TillReady.late rfl (by kernel_rfl) (fun K hK => ?_) TillReady.nil)
              go_simp
              refine hK.out _ _ ?_
              clear hK K
              go_simp
              refine till_ready (rs := [27]) (by kernel_rfl) (by simp) (TillReady.late rfl (by kernel_rfl) (fun K hK => ?_) TillReady.nil)
              go_simp
              refine hK.out _ _ ?_
              clear hK K
              go_simp
              refine till_done (by kernel_rfl) ?_ _
              have HX := Lib.hid (⟨((HO.out.1.put (i := q * 3) ro).put (i := q * 3 + 1) y1).put (i := q * 3 + 2) y2, ((HO.out.2.setCell (a := ⟨g, q * 3, none⟩) (show w.heap.size ≤ g by omega) hsb (.int .i64 ro)).setCell (a := ⟨g, q * 3 + 1, none⟩) (show w.heap.size ≤ g by omega) hsb (.int .i64 y1)).setCell (a := ⟨g, q * 3 + 2, none⟩) (show w.heap.size ≤ g by omega) hsb (.int .i64 y2)⟩ : _ ∧ _)
              generalize ((w7.setCell ⟨g, q * 3, none⟩ (.int .i64 ro)).setCell ⟨g, q * 3 + 1, none⟩ (.int .i64 y1)).setCell ⟨g, q * 3 + 2, none⟩ (.int .i64 y2) = wz at HX ⊢
              clear hO7 d0 d1 d2 e0 e1 e2 fz
              go_wp2_with fail
              obtain ⟨l5, h5, hN, hA⟩ := HX.out.1.ops
              have HZ := Lib.hid (⟨hN, hA, HX.out.2⟩ : _ ∧ _ ∧ _)
              clear hN hA
              go_ret
              first | exact ⟨⟨_, l5, rfl, by omega, HZ.out.1, fun a n c hh => Nat.le_trans (by omega) (HZ.out.2.1 a n c hh)⟩, HZ.out.2.2⟩ | exact ⟨⟨_, rfl, l5, by omega, HZ.out.1, fun a n c hh => Nat.le_trans (by omega) (HZ.out.2.1 a n c hh)⟩, HZ.out.2.2⟩
        | false =>
          have HX := Lib.hid (⟨HR3.out.1, HR3.out.2.mono (show _ ≤ 40 by omega)⟩ : _ ∧ _)
          clear HR3
          go_wp2_with fail
          obtain ⟨l5, h5, hN, hA⟩ := HX.out.1.ops
          have HZ := Lib.hid (⟨hN, hA, HX.out.2⟩ : _ ∧ _ ∧ _)
          clear hN hA
          go_ret
          first | exact ⟨⟨_, l5, rfl, by omega, HZ.out.1, fun a n c hh => Nat.le_trans (by omega) (HZ.out.2.1 a n c hh)⟩, HZ.out.2.2⟩ | exact ⟨⟨_, rfl, l5, by omega, HZ.out.1, fun a n c hh => Nat.le_trans (by omega) (HZ.out.2.1 a n c hh)⟩, HZ.out.2.2⟩
      · obtain rfl : i = 0 := by omega
        have HX := Lib.hid (⟨hrow, hr.mono (show _ ≤ 40 by omega)⟩ : _ ∧ _)
        clear hrow hr hs6 hcb
        go_wp2_with fail
        obtain ⟨l5, h5, hN, hA⟩ := HX.out.1.ops
        have HZ := Lib.hid (⟨hN, hA, HX.out.2⟩ : _ ∧ _ ∧ _)
        clear hN hA
        go_ret
        first | exact ⟨⟨_, l5, rfl, by omega, HZ.out.1, fun a n c hh => Nat.le_trans (by omega) (HZ.out.2.1 a n c hh)⟩, HZ.out.2.2⟩ | exact ⟨⟨_, rfl, l5, by omega, HZ.out.1, fun a n c hh => Nat.le_trans (by omega) (HZ.out.2.1 a n c hh)⟩, HZ.out.2.2⟩
end Go.Proofs.Ytdejjplkignaoaa
