/- The maker of memories: FlashOf. Made by gens/mkf.py. -/
import Derived.Test.YtfoocnhfppjbbaaGreatDoorMkA
import Derived.IntWalk
namespace Go.Proofs.YtfoocnhfppjbbaaGreatDoor
open Go.RowKit

/-- A variable's block that holds a row of n numbers. -/
def FSt (b n : Nat) (v : Value) (w : World) : Prop := w.cell? ⟨b, 0, none⟩ = some v ∧ w.frozen? ⟨b, 0, none⟩ = false ∧ IRow (b + 1) n w v
theorem FSt.ran {sb t K b n : Nat} {v : Value} {w w' : World} (h : FSt b n v w) (hr : Ran sb t K w w') (hb : sb < b) : FSt b n v w' :=
  ⟨hr.cell h.1 (show b ≠ sb by omega), ran_frozen hr (show b ≠ sb by omega) (show b < _ from World.block_lt_of_cell? w ⟨b, 0, none⟩ h.1) 0 h.2.1, h.2.2.ran hr (show sb < b + 1 by omega)⟩
theorem block_ran {sb t K b : Nat} {w w' : World} {o : Obj} (h : w.heap[b]? = some o) (hr : Ran sb t K w w') (hb : b ≠ sb) : w'.heap[b]? = some o := (hr.1.block b (Array.getElem?_eq_some_iff.1 h).1 (fun e => hb (Option.some.inj e))).trans h
set_option maxHeartbeats 1600000 in
set_option maxRecDepth 100000 in
theorem flashOf_any (sb t : Nat) (w : World) (hs : Strm w sb t) (ht : t ≤ 1000000) :
    Calls Tryz.prog 5 #[.pointer (some ⟨sb, 0, none⟩)] w fun e w' => (∃ v S, e = .returned (.agg #[v]) ∧ S.length ≤ 10 ∧ NumsAt w' v S ∧ Ahead w.heap.size v) ∧ Ran sb t 20 w w' := by
  have hsb := hs.lt
  obtain ⟨W1, hW1⟩ : ∃ X : World, X = (w.alloc (.cells #[.slice none 0 0] 27)).alloc (.cells #[.slice none 0 0] 27) := ⟨_, rfl⟩
  have hb0 : W1.heap[w.heap.size]? = some (.cells #[.slice none 0 0] 27 (0, 0)) := by rw [hW1, Below.heap_alloc _ _ _ (by simp)]; exact World.alloc_heap_new w _
  have hc1 : W1.cell? ⟨w.heap.size + 1, 0, none⟩ = some (.slice none 0 0) := by rw [hW1]; simp
  have hf1 : W1.frozen? ⟨w.heap.size + 1, 0, none⟩ = false := by rw [hW1]; simp
  have hs1 : Strm W1 sb t := by rw [hW1]; exact (hs.alloc _).alloc _
  have hr1 : Ran sb t 0 w W1 := by rw [hW1]; exact ((Ran.refl hs).alloc _).alloc _
  have hz1' : W1.heap.size = w.heap.size + 2 := by rw [hW1]; simp
  obtain ⟨i0, hi, hz0, hz1, hz2⟩ := info_parts Tryz.infoInt1
  have HW := Lib.hid hW1
  have H1 := Lib.hid (⟨hb0, hc1, hf1, hr1⟩ : _ ∧ _ ∧ _ ∧ _)
  have hrg0 := range_any sb t 1 4 W1 hs1 (by omega) (by decide) (by decide) (by decide)
  clear hW1 hb0 hc1 hf1 hr1 hs
  go_enter Tryz.func5, Tryz.ntmps5
  go_wp2_with fail
  rw [← HW.out]
  refine hrg0.mono ?_
  rintro e w2 ⟨⟨r, r0, r1, rfl⟩, hr2⟩
  obtain ⟨r, rfl⟩ : ∃ q : Nat, r = (q : Int) := ⟨r.toNat, by omega⟩
  have hf2 : FSt (w.heap.size + 1) 0 (.slice none 0 0) w2 := FSt.ran (t := t) (K := 1) ⟨H1.out.2.1, H1.out.2.2.1, IRow.nil _ _⟩ hr2 (by omega)
  have H2 := Lib.hid (⟨hf2, block_ran H1.out.1 hr2 (by omega), H1.out.2.2.2.then (Nat.le_refl _) (by omega) hr2⟩ : _ ∧ _ ∧ _)
  have hrr : r ≤ 4 := by omega
  clear hrg0 hr2 hf2 hs1
  go_wp2_with fail
  go_loopw [6] (fun ix wr => ∃ i : Nat, i ≤ r ∧ ix = .int .i64 (i : Int) ∧ (∃ v, FSt (w.heap.size + 1) i v wr) ∧ Ran sb t (1 + i) w wr ∧ wr.heap[w.heap.size]? = some (.cells #[.slice none 0 0] 27 (0, 0))) (fun ix _ => r - (intOf ix).toNat)
  case atStart => exact ⟨0, by omega, rfl, ⟨_, H2.out.1⟩, H2.out.2.2.mono (by omega), H2.out.2.1⟩
  case round =>
    obtain ⟨i, hir, rfl, ⟨v, hf⟩, hr, hbz⟩ := hrel
    by_cases hlt : i < r
    · obtain ⟨va, vc, rfl⟩ := hf.2.2.form
      have g1 := hf.1
      have f1 := hf.2.1
      have hbl : w.heap.size + 1 < wr.heap.size := World.block_lt_of_cell? wr ⟨w.heap.size + 1, 0, none⟩ g1
      obtain ⟨t6, ht6, ht6', hs6⟩ := hr.strm
      have hrg := fun X hX => range_any sb t6 1 5 X hX (by omega) (by decide) (by decide) (by decide)
      have v0 : (0 : Int) ≤ (i : Int) := by omega
      have v1 : (i : Int) < (r : Int) := by omega
      have HS := Lib.hid (⟨hr, hf.2.2, hbz⟩ : _ ∧ _ ∧ _)
      clear hf hr hbz
      go_wp2_with fail
      replace hs6 : Strm wr.drew sb t6 := hs6.kept fun _ _ => rfl
      refine wp_region_any (by kernel_rfl) ?_
      refine wpAny_take (i := 0) (v := ?_) rfl (by kernel_rfl) (by kernel_rfl) (by kernel_rfl) (fun _ _ _ h => h) (Or.inl ⟨by rfl, ?_⟩) ?_
      rotate_left
      focus (intro w; go_simp; first | done | with_reducible rfl)
      refine wpAny_take (i := 2) (v := ?_) rfl (by kernel_rfl) (by kernel_rfl) (by kernel_rfl) (fun _ _ _ h => h) (Or.inl ⟨by rfl, ?_⟩) ?_
      rotate_left
      focus (intro w; go_simp; first | done | with_reducible rfl)
      refine wpAny_ready (rs := [1, 3]) (by kernel_rfl) (by simp) (AllReady.cons rfl (fun K hK => ?_) (AllReady.cons rfl (fun K hK => ?_) AllReady.nil))
      ·
        (go_simp; refine hK _ _ ?_; clear hK K)
        refine wpAny_ready (rs := [3]) (by kernel_rfl) (by simp) (AllReady.cons rfl (fun K hK => ?_) AllReady.nil)
        go_simp
        go_at_call 21
        refine (hrg _ hs6).mono ?_
        rintro e w3 ⟨⟨q, q0, q1, rfl⟩, hr3⟩
        have g3 := hr3.cell g1 (by show w.heap.size + 1 ≠ sb; omega)
        have f3 := ran_frozen hr3 (show w.heap.size + 1 ≠ sb by omega) hbl 0 f1
        have hbl3 : w.heap.size + 1 < w3.heap.size := Nat.lt_of_lt_of_le hbl hr3.size
        have hz3 : w.heap.size < w3.heap.size := by omega
        have hrw3 := HS.out.2.1.ran hr3.undrew (by omega)
        have hr3' := HS.out.1.then ht6 ht6' hr3.undrew
        refine hK _ _ ?_
        clear hK K
        refine wpAny_ready (rs := [4]) (by kernel_rfl) (by simp) (AllReady.cons rfl (fun K hK => ?_) AllReady.nil)
        (go_simp; refine hK _ _ ?_; clear hK K)
        refine wpAny_ready (rs := [5]) (by kernel_rfl) (by simp) (AllReady.cons rfl (fun K hK => ?_) AllReady.nil)
        refine step_append_lies _ rfl _ _ 22 rfl (w.heap.size + 2) 3 i0 (.int .i64 0) 1 8 Tryz.underlying22 hi hz0 hz1 hz2 rfl (by decide) _ _ _ rfl ((hrw3.choose_spec.2).alloc _) ⟨w3.heap.size, 0, none⟩ 1 1 [.int .i64 q] rfl rfl (cell_one_new _ _ _) (by simp [Value.oneCell']) (by decide) (by unfold maxLen; omega) (by omega) (by simp; omega) _ rfl (fun g cap w4 hown hg hat hlt => ?_)
        have hB4 : Below (w.heap.size + 2) w3 w4 := ((Below.refl (w.heap.size + 2) w3).alloc (by omega) _).grown hg (by simp; omega) (fun j hj => (hrw3.choose_spec.2.lt j hj).1)
        have g4 := (hB4.cell (p := ⟨w.heap.size + 1, 0, none⟩) (by show w.heap.size + 1 < w.heap.size + 2; omega)).trans g3
        have f4 := (hB4.frozen (p := ⟨w.heap.size + 1, 0, none⟩) (by show w.heap.size + 1 < w.heap.size + 2; omega)).trans f3
        have hrow4 : IRow (w.heap.size + 2) (i + 1) w4 (.slice (some ⟨g, 0, none⟩) (i + 1) cap) := ⟨hrw3.choose ++ [q], by rw [List.length_append, hrw3.choose_spec.1]; rfl, by rw [List.map_append]; exact hown⟩
        have hr4 := ((hr3'.alloc (.cells #[.int .i64 q] 3)).grown hg (fun j hj => by have := (hrw3.choose_spec.2.lt j hj).1; omega) hsb)
        have HF := Lib.hid (⟨hB4, hrow4, hr4, f4⟩ : _ ∧ _ ∧ _ ∧ _)
        clear hB4 hrow4 hr4 hown hg hat hlt
        refine hK _ _ ?_
        clear hK K
        refine wpAny_take (i := 6) (v := ?_) rfl (by kernel_rfl) (by kernel_rfl) (by kernel_rfl) (fun _ _ _ h => h) (Or.inl ⟨by rfl, ?_⟩) ?_
        rotate_left
        focus (intro w; go_simp; first | done | with_reducible rfl)
        refine wpAny_ready (rs := [7]) (by kernel_rfl) (by simp) (AllReady.cons rfl (fun K hK => ?_) AllReady.nil)
        (go_simp; refine hK _ _ ?_; clear hK K)
        refine wpAny_done (by kernel_rfl) ?_ _
        have hfin : FSt (w.heap.size + 1) (i + 1) (.slice (some ⟨g, 0, none⟩) (i + 1) cap) (w4.setCell ⟨w.heap.size + 1, 0, none⟩ (.slice (some ⟨g, 0, none⟩) (i + 1) cap)) := ⟨World.cell?_setCell_same _ _ _ g4, (World.frozen?_setCell _ _ _ _).trans HF.out.2.2.2, HF.out.2.1.far (show w.heap.size + 1 < _ by omega) _⟩
        have hres : (w4.setCell ⟨w.heap.size + 1, 0, none⟩ (.slice (some ⟨g, 0, none⟩) (i + 1) cap)).heap[w.heap.size]? = some (.cells #[.slice none 0 0] 27 (0, 0)) := (Below.heap_setCell _ _ _ _ (by show w.heap.size ≠ w.heap.size + 1; omega)).trans ((HF.out.1.block _ (by omega)).trans ((hr3.1.block _ (show w.heap.size < wr.heap.size by omega) (fun hh => by have := Option.some.inj hh; omega)).trans HS.out.2.2))
        have HG := Lib.hid (⟨hfin, hres, (HF.out.2.2.1.setCell (a := ⟨w.heap.size + 1, 0, none⟩) (by show w.heap.size ≤ w.heap.size + 1; omega) hsb (.slice (some ⟨g, 0, none⟩) (i + 1) cap)).mono (show _ ≤ 1 + (i + 1) by omega)⟩ : _ ∧ _ ∧ _)
        generalize w4.setCell ⟨w.heap.size + 1, 0, none⟩ (.slice (some ⟨g, 0, none⟩) (i + 1) cap) = wz at HG ⊢
        clear hfin hres HF g4 f4 g3 f3
        go_wp2_with fail
        go_roundw
        case rel => exact ⟨i + 1, by omega, by go_num, ⟨_, HG.out.1⟩, HG.out.2.2, HG.out.2.1⟩
        case measure => simp [intOf]; omega
      ·
        go_simp
        go_at_call 21
        refine (hrg _ hs6).mono ?_
        rintro e w3 ⟨⟨q, q0, q1, rfl⟩, hr3⟩
        have g3 := hr3.cell g1 (by show w.heap.size + 1 ≠ sb; omega)
        have f3 := ran_frozen hr3 (show w.heap.size + 1 ≠ sb by omega) hbl 0 f1
        have hbl3 : w.heap.size + 1 < w3.heap.size := Nat.lt_of_lt_of_le hbl hr3.size
        have hz3 : w.heap.size < w3.heap.size := by omega
        have hrw3 := HS.out.2.1.ran hr3.undrew (by omega)
        have hr3' := HS.out.1.then ht6 ht6' hr3.undrew
        refine hK _ _ ?_
        clear hK K
        refine wpAny_ready (rs := [1, 4]) (by kernel_rfl) (by simp) (AllReady.cons rfl (fun K hK => ?_) (AllReady.cons rfl (fun K hK => ?_) AllReady.nil))
        ·
          (go_simp; refine hK _ _ ?_; clear hK K)
          refine wpAny_ready (rs := [4]) (by kernel_rfl) (by simp) (AllReady.cons rfl (fun K hK => ?_) AllReady.nil)
          (go_simp; refine hK _ _ ?_; clear hK K)
          refine wpAny_ready (rs := [5]) (by kernel_rfl) (by simp) (AllReady.cons rfl (fun K hK => ?_) AllReady.nil)
          refine step_append_lies _ rfl _ _ 22 rfl (w.heap.size + 2) 3 i0 (.int .i64 0) 1 8 Tryz.underlying22 hi hz0 hz1 hz2 rfl (by decide) _ _ _ rfl ((hrw3.choose_spec.2).alloc _) ⟨w3.heap.size, 0, none⟩ 1 1 [.int .i64 q] rfl rfl (cell_one_new _ _ _) (by simp [Value.oneCell']) (by decide) (by unfold maxLen; omega) (by omega) (by simp; omega) _ rfl (fun g cap w4 hown hg hat hlt => ?_)
          have hB4 : Below (w.heap.size + 2) w3 w4 := ((Below.refl (w.heap.size + 2) w3).alloc (by omega) _).grown hg (by simp; omega) (fun j hj => (hrw3.choose_spec.2.lt j hj).1)
          have g4 := (hB4.cell (p := ⟨w.heap.size + 1, 0, none⟩) (by show w.heap.size + 1 < w.heap.size + 2; omega)).trans g3
          have f4 := (hB4.frozen (p := ⟨w.heap.size + 1, 0, none⟩) (by show w.heap.size + 1 < w.heap.size + 2; omega)).trans f3
          have hrow4 : IRow (w.heap.size + 2) (i + 1) w4 (.slice (some ⟨g, 0, none⟩) (i + 1) cap) := ⟨hrw3.choose ++ [q], by rw [List.length_append, hrw3.choose_spec.1]; rfl, by rw [List.map_append]; exact hown⟩
          have hr4 := ((hr3'.alloc (.cells #[.int .i64 q] 3)).grown hg (fun j hj => by have := (hrw3.choose_spec.2.lt j hj).1; omega) hsb)
          have HF := Lib.hid (⟨hB4, hrow4, hr4, f4⟩ : _ ∧ _ ∧ _ ∧ _)
          clear hB4 hrow4 hr4 hown hg hat hlt
          refine hK _ _ ?_
          clear hK K
          refine wpAny_take (i := 6) (v := ?_) rfl (by kernel_rfl) (by kernel_rfl) (by kernel_rfl) (fun _ _ _ h => h) (Or.inl ⟨by rfl, ?_⟩) ?_
          rotate_left
          focus (intro w; go_simp; first | done | with_reducible rfl)
          refine wpAny_ready (rs := [7]) (by kernel_rfl) (by simp) (AllReady.cons rfl (fun K hK => ?_) AllReady.nil)
          (go_simp; refine hK _ _ ?_; clear hK K)
          refine wpAny_done (by kernel_rfl) ?_ _
          have hfin : FSt (w.heap.size + 1) (i + 1) (.slice (some ⟨g, 0, none⟩) (i + 1) cap) (w4.setCell ⟨w.heap.size + 1, 0, none⟩ (.slice (some ⟨g, 0, none⟩) (i + 1) cap)) := ⟨World.cell?_setCell_same _ _ _ g4, (World.frozen?_setCell _ _ _ _).trans HF.out.2.2.2, HF.out.2.1.far (show w.heap.size + 1 < _ by omega) _⟩
          have hres : (w4.setCell ⟨w.heap.size + 1, 0, none⟩ (.slice (some ⟨g, 0, none⟩) (i + 1) cap)).heap[w.heap.size]? = some (.cells #[.slice none 0 0] 27 (0, 0)) := (Below.heap_setCell _ _ _ _ (by show w.heap.size ≠ w.heap.size + 1; omega)).trans ((HF.out.1.block _ (by omega)).trans ((hr3.1.block _ (show w.heap.size < wr.heap.size by omega) (fun hh => by have := Option.some.inj hh; omega)).trans HS.out.2.2))
          have HG := Lib.hid (⟨hfin, hres, (HF.out.2.2.1.setCell (a := ⟨w.heap.size + 1, 0, none⟩) (by show w.heap.size ≤ w.heap.size + 1; omega) hsb (.slice (some ⟨g, 0, none⟩) (i + 1) cap)).mono (show _ ≤ 1 + (i + 1) by omega)⟩ : _ ∧ _ ∧ _)
          generalize w4.setCell ⟨w.heap.size + 1, 0, none⟩ (.slice (some ⟨g, 0, none⟩) (i + 1) cap) = wz at HG ⊢
          clear hfin hres HF g4 f4 g3 f3
          go_wp2_with fail
          go_roundw
          case rel => exact ⟨i + 1, by omega, by go_num, ⟨_, HG.out.1⟩, HG.out.2.2, HG.out.2.1⟩
          case measure => simp [intOf]; omega
        ·
          (go_simp; refine hK _ _ ?_; clear hK K)
          refine wpAny_ready (rs := [1]) (by kernel_rfl) (by simp) (AllReady.cons rfl (fun K hK => ?_) AllReady.nil)
          (go_simp; refine hK _ _ ?_; clear hK K)
          refine wpAny_ready (rs := [5]) (by kernel_rfl) (by simp) (AllReady.cons rfl (fun K hK => ?_) AllReady.nil)
          refine step_append_lies _ rfl _ _ 22 rfl (w.heap.size + 2) 3 i0 (.int .i64 0) 1 8 Tryz.underlying22 hi hz0 hz1 hz2 rfl (by decide) _ _ _ rfl ((hrw3.choose_spec.2).alloc _) ⟨w3.heap.size, 0, none⟩ 1 1 [.int .i64 q] rfl rfl (cell_one_new _ _ _) (by simp [Value.oneCell']) (by decide) (by unfold maxLen; omega) (by omega) (by simp; omega) _ rfl (fun g cap w4 hown hg hat hlt => ?_)
          have hB4 : Below (w.heap.size + 2) w3 w4 := ((Below.refl (w.heap.size + 2) w3).alloc (by omega) _).grown hg (by simp; omega) (fun j hj => (hrw3.choose_spec.2.lt j hj).1)
          have g4 := (hB4.cell (p := ⟨w.heap.size + 1, 0, none⟩) (by show w.heap.size + 1 < w.heap.size + 2; omega)).trans g3
          have f4 := (hB4.frozen (p := ⟨w.heap.size + 1, 0, none⟩) (by show w.heap.size + 1 < w.heap.size + 2; omega)).trans f3
          have hrow4 : IRow (w.heap.size + 2) (i + 1) w4 (.slice (some ⟨g, 0, none⟩) (i + 1) cap) := ⟨hrw3.choose ++ [q], by rw [List.length_append, hrw3.choose_spec.1]; rfl, by rw [List.map_append]; exact hown⟩
          have hr4 := ((hr3'.alloc (.cells #[.int .i64 q] 3)).grown hg (fun j hj => by have := (hrw3.choose_spec.2.lt j hj).1; omega) hsb)
          have HF := Lib.hid (⟨hB4, hrow4, hr4, f4⟩ : _ ∧ _ ∧ _ ∧ _)
          clear hB4 hrow4 hr4 hown hg hat hlt
          refine hK _ _ ?_
          clear hK K
          refine wpAny_take (i := 6) (v := ?_) rfl (by kernel_rfl) (by kernel_rfl) (by kernel_rfl) (fun _ _ _ h => h) (Or.inl ⟨by rfl, ?_⟩) ?_
          rotate_left
          focus (intro w; go_simp; first | done | with_reducible rfl)
          refine wpAny_ready (rs := [7]) (by kernel_rfl) (by simp) (AllReady.cons rfl (fun K hK => ?_) AllReady.nil)
          (go_simp; refine hK _ _ ?_; clear hK K)
          refine wpAny_done (by kernel_rfl) ?_ _
          have hfin : FSt (w.heap.size + 1) (i + 1) (.slice (some ⟨g, 0, none⟩) (i + 1) cap) (w4.setCell ⟨w.heap.size + 1, 0, none⟩ (.slice (some ⟨g, 0, none⟩) (i + 1) cap)) := ⟨World.cell?_setCell_same _ _ _ g4, (World.frozen?_setCell _ _ _ _).trans HF.out.2.2.2, HF.out.2.1.far (show w.heap.size + 1 < _ by omega) _⟩
          have hres : (w4.setCell ⟨w.heap.size + 1, 0, none⟩ (.slice (some ⟨g, 0, none⟩) (i + 1) cap)).heap[w.heap.size]? = some (.cells #[.slice none 0 0] 27 (0, 0)) := (Below.heap_setCell _ _ _ _ (by show w.heap.size ≠ w.heap.size + 1; omega)).trans ((HF.out.1.block _ (by omega)).trans ((hr3.1.block _ (show w.heap.size < wr.heap.size by omega) (fun hh => by have := Option.some.inj hh; omega)).trans HS.out.2.2))
          have HG := Lib.hid (⟨hfin, hres, (HF.out.2.2.1.setCell (a := ⟨w.heap.size + 1, 0, none⟩) (by show w.heap.size ≤ w.heap.size + 1; omega) hsb (.slice (some ⟨g, 0, none⟩) (i + 1) cap)).mono (show _ ≤ 1 + (i + 1) by omega)⟩ : _ ∧ _ ∧ _)
          generalize w4.setCell ⟨w.heap.size + 1, 0, none⟩ (.slice (some ⟨g, 0, none⟩) (i + 1) cap) = wz at HG ⊢
          clear hfin hres HF g4 f4 g3 f3
          go_wp2_with fail
          go_roundw
          case rel => exact ⟨i + 1, by omega, by go_num, ⟨_, HG.out.1⟩, HG.out.2.2, HG.out.2.1⟩
          case measure => simp [intOf]; omega
    · obtain rfl : i = r := by omega
      obtain ⟨g, vc, rfl, hgb, hgl⟩ := hf.2.2.block (by omega)
      obtain ⟨t6, ht6, ht6', hs6⟩ := hr.strm
      have hfl := flip_any sb t6 20 wr hs6 (by omega) (by decide) (by decide)
      have HS := Lib.hid (⟨hf, hr, hbz⟩ : _ ∧ _ ∧ _)
      clear hf hr hbz
      go_wp2_with fail
      refine hfl.mono ?_
      rintro e w3 ⟨⟨bb, rfl⟩, hr3⟩
      have hf3 := HS.out.1.ran hr3 (by omega)
      have hr3' := (HS.out.2.1.then ht6 ht6' hr3).mono (show _ ≤ 1 + i + 1 by omega)
      have hb3 := block_ran HS.out.2.2 hr3 (by omega)
      obtain ⟨t7, ht7, ht7', hs7⟩ := hr3'.strm
      clear hfl hr3 hs6
      cases bb with
      | true =>
        have g1 := hf3.1
        have f1 := hf3.2.1
        have hbl : w.heap.size + 1 < w3.heap.size := World.block_lt_of_cell? w3 ⟨w.heap.size + 1, 0, none⟩ g1
        have hgl3 : g < w3.heap.size := by
          obtain ⟨g', c', hh, -, h2⟩ := hf3.2.2.block (by omega)
          cases hh
          exact h2
        have hnx := fun X hX => next_any sb t7 (i : Int) X hX (by omega) (by omega) (by omega)
        have hs7d : Strm w3.drew sb t7 := hs7.kept fun _ _ => rfl
        have hs7a : ∀ o, Strm (w3.alloc o).drew sb t7 := fun o => (hs7.alloc o).kept fun _ _ => rfl
        have H3 := Lib.hid (⟨hf3, hr3', hb3⟩ : _ ∧ _ ∧ _)
        clear hf3 hr3' hb3 hs7
        go_wp2_with fail
        refine wp_region_held_drew (S := (fun W' => W'.cell? ⟨w.heap.size + 1, 0, none⟩ = some (.slice (some ⟨g, 0, none⟩) i vc))) (by kernel_rfl) (by first | exact g1 | exact g5 | exact g8 | exact (World.cell?_alloc_lt w3 _ _ (show w.heap.size + 1 < w3.heap.size by omega)).trans g1 | exact (World.cell?_alloc_lt w5 _ _ (show w.heap.size + 1 < w5.heap.size by omega)).trans g5 | exact (World.cell?_setCell_other _ _ _ _ (fun hh => hgz (by cases hh; rfl))).trans g8) (fun hHeld => ?_)
        refine wpAnyH_take (i := 0) (v := ?_) rfl (by kernel_rfl) (by kernel_rfl) (by kernel_rfl) (fun _ _ _ h => h) (Or.inl ⟨by rfl, ?_⟩) (by assumption) ?_
        rotate_left
        focus (intro w hSw; (try dsimp only at hSw); go_simp; first | done | with_reducible rfl)
        go_simp
        refine wpAnyH_take (i := 1) (v := ?_) rfl (by kernel_rfl) (by kernel_rfl) (by kernel_rfl) (fun _ _ _ h => h) (Or.inl ⟨by rfl, ?_⟩) (by assumption) ?_
        rotate_left
        focus (intro w hSw; (try dsimp only at hSw); go_simp; first | done | with_reducible rfl)
        go_simp
        refine wpAnyH_take (i := 2) (v := ?_) rfl (by kernel_rfl) (by kernel_rfl) (by kernel_rfl) (fun _ _ _ h => h) (Or.inl ⟨by rfl, ?_⟩) (by assumption) ?_
        rotate_left
        focus (intro w hSw; (try dsimp only at hSw); go_simp; first | done | with_reducible rfl)
        go_simp
        refine wpAnyH_take (i := 3) (v := ?_) rfl (by kernel_rfl) (by kernel_rfl) (by kernel_rfl) (fun _ _ _ h => h) (Or.inl ⟨by rfl, ?_⟩) (by assumption) ?_
        rotate_left
        focus (intro w hSw; (try dsimp only at hSw); go_simp; first | done | with_reducible rfl)
        go_simp
        refine wpAnyH_take (i := 4) (v := ?_) rfl (by kernel_rfl) (by kernel_rfl) (by kernel_rfl) (fun _ _ _ h => h) (Or.inl ⟨by rfl, ?_⟩) (by assumption) ?_
        rotate_left
        focus (intro w hSw; (try dsimp only at hSw); go_simp; first | done | with_reducible rfl)
        go_simp
        refine wpAnyH_take (i := 5) (v := ?_) rfl (by kernel_rfl) (by kernel_rfl) (by kernel_rfl) (fun _ _ _ h => h) (Or.inl ⟨by rfl, ?_⟩) (by assumption) ?_
        rotate_left
        focus (intro w hSw; (try dsimp only at hSw); go_simp; first | done | with_reducible rfl)
        go_simp
        refine wpAnyH_take (i := 7) (v := ?_) rfl (by kernel_rfl) (by kernel_rfl) (by kernel_rfl) (fun _ _ _ h => h) (Or.inl ⟨by rfl, ?_⟩) (by assumption) ?_
        rotate_left
        focus (intro w hSw; (try dsimp only at hSw); go_simp; first | done | with_reducible rfl)
        go_simp
        refine wpAnyH_ready (rs := [6, 8]) (by kernel_rfl) (by simp) (AllReadyH.cons rfl (fun K hK => ?_) (AllReadyH.cons rfl (fun K hK => ?_) AllReadyH.nil))
        ·
          go_simp
          go_at_call 24
          refine (hnx _ hs7d).mono ?_
          rintro e w5 ⟨⟨q, q0, q1, rfl⟩, hr5c⟩
          have hr5 := hr5c.undrew
          obtain ⟨q, rfl⟩ : ∃ z : Nat, q = (z : Int) := ⟨q.toNat, by omega⟩
          have g5 := hr5.cell g1 (show w.heap.size + 1 ≠ sb by omega)
          have f5 := ran_frozen hr5 (show w.heap.size + 1 ≠ sb by omega) hbl 0 f1
          have hs8 := hr5.strm
          have hz5 : w3.heap.size ≤ w5.heap.size := hr5.size
          refine hK.out _ _ ?_ (fun hHeld => ?_)
          focus (first | exact g1 | exact g5 | exact g8 | exact (World.cell?_alloc_lt w3 _ _ (show w.heap.size + 1 < w3.heap.size by omega)).trans g1 | exact (World.cell?_alloc_lt w5 _ _ (show w.heap.size + 1 < w5.heap.size by omega)).trans g5 | exact (World.cell?_setCell_other _ _ _ _ (fun hh => hgz (by cases hh; rfl))).trans g8)
          clear hK K
          go_simp
          refine wpAnyH_ready (rs := [8]) (by kernel_rfl) (by simp) (AllReadyH.cons rfl (fun K hK => ?_) AllReadyH.nil)
          go_simp
          refine hK.out _ _ ?_ (fun hHeld => ?_)
          focus (first | exact g1 | exact g5 | exact g8 | exact (World.cell?_alloc_lt w3 _ _ (show w.heap.size + 1 < w3.heap.size by omega)).trans g1 | exact (World.cell?_alloc_lt w5 _ _ (show w.heap.size + 1 < w5.heap.size by omega)).trans g5 | exact (World.cell?_setCell_other _ _ _ _ (fun hh => hgz (by cases hh; rfl))).trans g8)
          clear hK K
          go_simp
          refine wpAnyH_ready (rs := [9]) (by kernel_rfl) (by simp) (AllReadyH.cons rfl (fun K hK => ?_) AllReadyH.nil)
          go_simp
          obtain ⟨t8, ht8, ht8', hs8⟩ := hs8
          go_at_call 23
          refine (pick_any sb t8 w5.heap.size 0 4 4 (fun k => ([0, -1, 4096, 4097] : List Int).getD k 0) _ (hs8.alloc _) (by omega) (by decide) (by decide) (by omega) (cells_fresh w5 ([0, -1, 4096, 4097] : List Int) _)).mono ?_
          rintro e w8 ⟨⟨kk, hkk, rfl⟩, hr8⟩
          have hr8 := hr8.after_alloc
          dsimp only
          generalize ([0, -1, 4096, 4097] : List Int).getD kk 0 = z
          have hr38 := (hr5.then ht8 ht8' hr8).mono (show _ ≤ 2 by omega)
          have hf8 := H3.out.1.ran hr38 (by omega)
          have g8 := hf8.1
          obtain ⟨x8, c8, fz8⟩ := hf8.2.2.cell (i := q) (by omega)
          have HB8 := Lib.hid (⟨hf8, (H3.out.2.1.then ht7 ht7' hr38).mono (show _ ≤ 1 + i + 3 by omega), block_ran H3.out.2.2 hr38 (by omega)⟩ : _ ∧ _ ∧ _)
          have q2 : (0 : Int) ≤ (q : Int) := by omega
          have hgz : w.heap.size + 1 ≠ g := by omega
          clear hf8 hr38 hr8 hr5 hr5c
          refine hK.out _ _ ?_ (fun hHeld => ?_)
          focus (first | exact g1 | exact g5 | exact g8 | exact (World.cell?_alloc_lt w3 _ _ (show w.heap.size + 1 < w3.heap.size by omega)).trans g1 | exact (World.cell?_alloc_lt w5 _ _ (show w.heap.size + 1 < w5.heap.size by omega)).trans g5 | exact (World.cell?_setCell_other _ _ _ _ (fun hh => hgz (by cases hh; rfl))).trans g8)
          clear hK K
          go_simp
          refine wpAnyH_take (i := 10) (v := ?_) rfl (by kernel_rfl) (by kernel_rfl) (by kernel_rfl) (fun _ _ _ h => h) (Or.inl ⟨by rfl, ?_⟩) (by assumption) ?_
          rotate_left
          focus (intro w hSw; (try dsimp only at hSw); go_simp; first | done | with_reducible rfl)
          go_simp
          refine wpAnyH_ready (rs := [11]) (by kernel_rfl) (by simp) (AllReadyH.cons rfl (fun K hK => ?_) AllReadyH.nil)
          go_simp
          refine hK.out _ _ ?_ (fun hHeld => ?_)
          focus (first | exact g1 | exact g5 | exact g8 | exact (World.cell?_alloc_lt w3 _ _ (show w.heap.size + 1 < w3.heap.size by omega)).trans g1 | exact (World.cell?_alloc_lt w5 _ _ (show w.heap.size + 1 < w5.heap.size by omega)).trans g5 | exact (World.cell?_setCell_other _ _ _ _ (fun hh => hgz (by cases hh; rfl))).trans g8)
          clear hK K
          go_simp
          refine wpAnyH_done (by kernel_rfl) ?_ _
          have hF9 : FSt (w.heap.size + 1) i (.slice (some ⟨g, 0, none⟩) i vc) (w8.setCell ⟨g, q, none⟩ (.int .i64 z)) := ⟨(World.cell?_setCell_other _ _ _ _ (fun hh => hgz (by cases hh; rfl))).trans g8, (World.frozen?_setCell _ _ _ _).trans HB8.out.1.2.1, HB8.out.1.2.2.put z⟩
          have HT := Lib.hid (⟨hF9, HB8.out.2.1.setCell (a := ⟨g, q, none⟩) (show w.heap.size ≤ g by omega) hsb (.int .i64 z), (Below.heap_setCell w8 ⟨g, q, none⟩ (.int .i64 z) _ (show w.heap.size ≠ g by omega)).trans HB8.out.2.2⟩ : _ ∧ _ ∧ _)
          generalize w8.setCell ⟨g, q, none⟩ (.int .i64 z) = w9 at HT ⊢
          clear hF9 g8 c8 fz8 g5 f5 hs8 g1 f1
          obtain ⟨t9, ht9, ht9', hst⟩ := HT.out.2.1.strm
          go_wp2_with fail
          refine (flip_any sb t9 40 _ hst (by omega) (by decide) (by decide)).mono ?_
          rintro e wa ⟨⟨b2, rfl⟩, hra⟩
          have hfa := HT.out.1.ran hra (by omega)
          have HA := Lib.hid (⟨hfa, (HT.out.2.1.then ht9 ht9' hra).mono (show _ ≤ 20 by omega), block_ran HT.out.2.2 hra (by omega)⟩ : _ ∧ _ ∧ _)
          have g9 := hfa.1
          have f9 := hfa.2.1
          have hbla : w.heap.size + 1 < wa.heap.size := World.block_lt_of_cell? wa ⟨w.heap.size + 1, 0, none⟩ g9
          have z0 : wa.cell? ⟨w.heap.size, 0, none⟩ = some (.slice none 0 0) := by unfold World.cell?; simp only [HA.out.2.2]; rfl
          have z1 : wa.frozen? ⟨w.heap.size, 0, none⟩ = false := by unfold World.frozen?; simp only [HA.out.2.2]; rfl
          clear hfa hra hst
          cases b2 with
          | true =>
            go_wp2_with fail
            have hk0 : ((wa.setCell ⟨w.heap.size + 1, 0, none⟩ (.slice none 0 0)).setCell ⟨w.heap.size, 0, none⟩ (.slice none 0 0)).cell? ⟨w.heap.size, 0, none⟩ = some (.slice none 0 0) := World.cell?_setCell_same _ _ _ ((World.cell?_setCell_other _ _ _ _ (by simp)).trans z0)
            have hR : Ran sb t 20 w ((wa.setCell ⟨w.heap.size + 1, 0, none⟩ (.slice none 0 0)).setCell ⟨w.heap.size, 0, none⟩ (.slice none 0 0)) := (HA.out.2.1.setCell (a := ⟨w.heap.size + 1, 0, none⟩) (by show w.heap.size ≤ w.heap.size + 1; omega) hsb _).setCell (a := ⟨w.heap.size, 0, none⟩) (by show w.heap.size ≤ w.heap.size; omega) hsb _
            have hI : IRow (w.heap.size + 2) 0 ((wa.setCell ⟨w.heap.size + 1, 0, none⟩ (.slice none 0 0)).setCell ⟨w.heap.size, 0, none⟩ (.slice none 0 0)) (.slice none 0 0) := IRow.nil _ _
            obtain ⟨l, hl, hN, hA⟩ := hI.nums
            exact bodyPost_ret (v := .agg #[.slice none 0 0]) (by simp [results, Tryz.results5, go_sem, hk0]) rfl ⟨⟨_, l, rfl, by omega, hN, fun a n c hh => Nat.le_trans (by omega) (hA a n c hh)⟩, hR⟩
          | false =>
            go_wp2_with fail
            have hk0 : (wa.setCell ⟨w.heap.size, 0, none⟩ (.slice (some ⟨g, 0, none⟩) i vc)).cell? ⟨w.heap.size, 0, none⟩ = some (.slice (some ⟨g, 0, none⟩) i vc) := World.cell?_setCell_same _ _ _ z0
            have hR : Ran sb t 20 w (wa.setCell ⟨w.heap.size, 0, none⟩ (.slice (some ⟨g, 0, none⟩) i vc)) := HA.out.2.1.setCell (a := ⟨w.heap.size, 0, none⟩) (by show w.heap.size ≤ w.heap.size; omega) hsb _
            have hI : IRow (w.heap.size + 2) i (wa.setCell ⟨w.heap.size, 0, none⟩ (.slice (some ⟨g, 0, none⟩) i vc)) (.slice (some ⟨g, 0, none⟩) i vc) := HA.out.1.2.2.far (show w.heap.size < w.heap.size + 2 by omega) _
            obtain ⟨l, hl, hN, hA⟩ := hI.nums
            exact bodyPost_ret (v := .agg #[.slice (some ⟨g, 0, none⟩) i vc]) (by simp [results, Tryz.results5, go_sem, hk0]) rfl ⟨⟨_, l, rfl, by omega, hN, fun a n c hh => Nat.le_trans (by omega) (hA a n c hh)⟩, hR⟩
        ·
          go_simp
          refine hK.out _ _ ?_ (fun hHeld => ?_)
          focus (first | exact g1 | exact g5 | exact g8 | exact (World.cell?_alloc_lt w3 _ _ (show w.heap.size + 1 < w3.heap.size by omega)).trans g1 | exact (World.cell?_alloc_lt w5 _ _ (show w.heap.size + 1 < w5.heap.size by omega)).trans g5 | exact (World.cell?_setCell_other _ _ _ _ (fun hh => hgz (by cases hh; rfl))).trans g8)
          clear hK K
          go_simp
          refine wpAnyH_ready (rs := [6]) (by kernel_rfl) (by simp) (AllReadyH.cons rfl (fun K hK => ?_) AllReadyH.nil)
          go_simp
          go_at_call 24
          refine (hnx _ (hs7a _)).mono ?_
          rintro e w5 ⟨⟨q, q0, q1, rfl⟩, hr5c⟩
          have hr5 := hr5c.undrew.after_alloc
          obtain ⟨q, rfl⟩ : ∃ z : Nat, q = (z : Int) := ⟨q.toNat, by omega⟩
          have g5 := hr5.cell g1 (show w.heap.size + 1 ≠ sb by omega)
          have f5 := ran_frozen hr5 (show w.heap.size + 1 ≠ sb by omega) hbl 0 f1
          have hs8 := hr5.strm
          have hz5 : w3.heap.size ≤ w5.heap.size := hr5.size
          refine hK.out _ _ ?_ (fun hHeld => ?_)
          focus (first | exact g1 | exact g5 | exact g8 | exact (World.cell?_alloc_lt w3 _ _ (show w.heap.size + 1 < w3.heap.size by omega)).trans g1 | exact (World.cell?_alloc_lt w5 _ _ (show w.heap.size + 1 < w5.heap.size by omega)).trans g5 | exact (World.cell?_setCell_other _ _ _ _ (fun hh => hgz (by cases hh; rfl))).trans g8)
          clear hK K
          go_simp
          refine wpAnyH_ready (rs := [9]) (by kernel_rfl) (by simp) (AllReadyH.cons rfl (fun K hK => ?_) AllReadyH.nil)
          go_simp
          obtain ⟨t8, ht8, ht8', hs8⟩ := hs8
          go_at_call 23
          refine (pick_any sb t8 w3.heap.size 0 4 4 (fun k => ([0, -1, 4096, 4097] : List Int).getD k 0) _ hs8 (by omega) (by decide) (by decide) (by omega) (fun k hk => hr5c.cell (cells_fresh w3 ([0, -1, 4096, 4097] : List Int) _ k hk) (show w3.heap.size ≠ sb by omega))).mono ?_
          rintro e w8 ⟨⟨kk, hkk, rfl⟩, hr8⟩
          dsimp only
          generalize ([0, -1, 4096, 4097] : List Int).getD kk 0 = z
          have hr38 := (hr5.then ht8 ht8' hr8).mono (show _ ≤ 2 by omega)
          have hf8 := H3.out.1.ran hr38 (by omega)
          have g8 := hf8.1
          obtain ⟨x8, c8, fz8⟩ := hf8.2.2.cell (i := q) (by omega)
          have HB8 := Lib.hid (⟨hf8, (H3.out.2.1.then ht7 ht7' hr38).mono (show _ ≤ 1 + i + 3 by omega), block_ran H3.out.2.2 hr38 (by omega)⟩ : _ ∧ _ ∧ _)
          have q2 : (0 : Int) ≤ (q : Int) := by omega
          have hgz : w.heap.size + 1 ≠ g := by omega
          clear hf8 hr38 hr8 hr5 hr5c
          refine hK.out _ _ ?_ (fun hHeld => ?_)
          focus (first | exact g1 | exact g5 | exact g8 | exact (World.cell?_alloc_lt w3 _ _ (show w.heap.size + 1 < w3.heap.size by omega)).trans g1 | exact (World.cell?_alloc_lt w5 _ _ (show w.heap.size + 1 < w5.heap.size by omega)).trans g5 | exact (World.cell?_setCell_other _ _ _ _ (fun hh => hgz (by cases hh; rfl))).trans g8)
          clear hK K
          go_simp
          refine wpAnyH_take (i := 10) (v := ?_) rfl (by kernel_rfl) (by kernel_rfl) (by kernel_rfl) (fun _ _ _ h => h) (Or.inl ⟨by rfl, ?_⟩) (by assumption) ?_
          rotate_left
          focus (intro w hSw; (try dsimp only at hSw); go_simp; first | done | with_reducible rfl)
          go_simp
          refine wpAnyH_ready (rs := [11]) (by kernel_rfl) (by simp) (AllReadyH.cons rfl (fun K hK => ?_) AllReadyH.nil)
          go_simp
          refine hK.out _ _ ?_ (fun hHeld => ?_)
          focus (first | exact g1 | exact g5 | exact g8 | exact (World.cell?_alloc_lt w3 _ _ (show w.heap.size + 1 < w3.heap.size by omega)).trans g1 | exact (World.cell?_alloc_lt w5 _ _ (show w.heap.size + 1 < w5.heap.size by omega)).trans g5 | exact (World.cell?_setCell_other _ _ _ _ (fun hh => hgz (by cases hh; rfl))).trans g8)
          clear hK K
          go_simp
          refine wpAnyH_done (by kernel_rfl) ?_ _
          have hF9 : FSt (w.heap.size + 1) i (.slice (some ⟨g, 0, none⟩) i vc) (w8.setCell ⟨g, q, none⟩ (.int .i64 z)) := ⟨(World.cell?_setCell_other _ _ _ _ (fun hh => hgz (by cases hh; rfl))).trans g8, (World.frozen?_setCell _ _ _ _).trans HB8.out.1.2.1, HB8.out.1.2.2.put z⟩
          have HT := Lib.hid (⟨hF9, HB8.out.2.1.setCell (a := ⟨g, q, none⟩) (show w.heap.size ≤ g by omega) hsb (.int .i64 z), (Below.heap_setCell w8 ⟨g, q, none⟩ (.int .i64 z) _ (show w.heap.size ≠ g by omega)).trans HB8.out.2.2⟩ : _ ∧ _ ∧ _)
          generalize w8.setCell ⟨g, q, none⟩ (.int .i64 z) = w9 at HT ⊢
          clear hF9 g8 c8 fz8 g5 f5 hs8 g1 f1
          obtain ⟨t9, ht9, ht9', hst⟩ := HT.out.2.1.strm
          go_wp2_with fail
          refine (flip_any sb t9 40 _ hst (by omega) (by decide) (by decide)).mono ?_
          rintro e wa ⟨⟨b2, rfl⟩, hra⟩
          have hfa := HT.out.1.ran hra (by omega)
          have HA := Lib.hid (⟨hfa, (HT.out.2.1.then ht9 ht9' hra).mono (show _ ≤ 20 by omega), block_ran HT.out.2.2 hra (by omega)⟩ : _ ∧ _ ∧ _)
          have g9 := hfa.1
          have f9 := hfa.2.1
          have hbla : w.heap.size + 1 < wa.heap.size := World.block_lt_of_cell? wa ⟨w.heap.size + 1, 0, none⟩ g9
          have z0 : wa.cell? ⟨w.heap.size, 0, none⟩ = some (.slice none 0 0) := by unfold World.cell?; simp only [HA.out.2.2]; rfl
          have z1 : wa.frozen? ⟨w.heap.size, 0, none⟩ = false := by unfold World.frozen?; simp only [HA.out.2.2]; rfl
          clear hfa hra hst
          cases b2 with
          | true =>
            go_wp2_with fail
            have hk0 : ((wa.setCell ⟨w.heap.size + 1, 0, none⟩ (.slice none 0 0)).setCell ⟨w.heap.size, 0, none⟩ (.slice none 0 0)).cell? ⟨w.heap.size, 0, none⟩ = some (.slice none 0 0) := World.cell?_setCell_same _ _ _ ((World.cell?_setCell_other _ _ _ _ (by simp)).trans z0)
            have hR : Ran sb t 20 w ((wa.setCell ⟨w.heap.size + 1, 0, none⟩ (.slice none 0 0)).setCell ⟨w.heap.size, 0, none⟩ (.slice none 0 0)) := (HA.out.2.1.setCell (a := ⟨w.heap.size + 1, 0, none⟩) (by show w.heap.size ≤ w.heap.size + 1; omega) hsb _).setCell (a := ⟨w.heap.size, 0, none⟩) (by show w.heap.size ≤ w.heap.size; omega) hsb _
            have hI : IRow (w.heap.size + 2) 0 ((wa.setCell ⟨w.heap.size + 1, 0, none⟩ (.slice none 0 0)).setCell ⟨w.heap.size, 0, none⟩ (.slice none 0 0)) (.slice none 0 0) := IRow.nil _ _
            obtain ⟨l, hl, hN, hA⟩ := hI.nums
            exact bodyPost_ret (v := .agg #[.slice none 0 0]) (by simp [results, Tryz.results5, go_sem, hk0]) rfl ⟨⟨_, l, rfl, by omega, hN, fun a n c hh => Nat.le_trans (by omega) (hA a n c hh)⟩, hR⟩
          | false =>
            go_wp2_with fail
            have hk0 : (wa.setCell ⟨w.heap.size, 0, none⟩ (.slice (some ⟨g, 0, none⟩) i vc)).cell? ⟨w.heap.size, 0, none⟩ = some (.slice (some ⟨g, 0, none⟩) i vc) := World.cell?_setCell_same _ _ _ z0
            have hR : Ran sb t 20 w (wa.setCell ⟨w.heap.size, 0, none⟩ (.slice (some ⟨g, 0, none⟩) i vc)) := HA.out.2.1.setCell (a := ⟨w.heap.size, 0, none⟩) (by show w.heap.size ≤ w.heap.size; omega) hsb _
            have hI : IRow (w.heap.size + 2) i (wa.setCell ⟨w.heap.size, 0, none⟩ (.slice (some ⟨g, 0, none⟩) i vc)) (.slice (some ⟨g, 0, none⟩) i vc) := HA.out.1.2.2.far (show w.heap.size < w.heap.size + 2 by omega) _
            obtain ⟨l, hl, hN, hA⟩ := hI.nums
            exact bodyPost_ret (v := .agg #[.slice (some ⟨g, 0, none⟩) i vc]) (by simp [results, Tryz.results5, go_sem, hk0]) rfl ⟨⟨_, l, rfl, by omega, hN, fun a n c hh => Nat.le_trans (by omega) (hA a n c hh)⟩, hR⟩
      | false =>
        have HT := Lib.hid (⟨hf3, hr3'.mono (show _ ≤ 1 + i + 3 by omega), hb3⟩ : _ ∧ _ ∧ _)
        obtain ⟨t9, ht9, ht9', hs9⟩ := HT.out.2.1.strm
        have hst := hs9
        clear hf3 hr3' hb3 hs7 hs9
        go_wp2_with fail
        refine (flip_any sb t9 40 _ hst (by omega) (by decide) (by decide)).mono ?_
        rintro e wa ⟨⟨b2, rfl⟩, hra⟩
        have hfa := HT.out.1.ran hra (by omega)
        have HA := Lib.hid (⟨hfa, (HT.out.2.1.then ht9 ht9' hra).mono (show _ ≤ 20 by omega), block_ran HT.out.2.2 hra (by omega)⟩ : _ ∧ _ ∧ _)
        have g9 := hfa.1
        have f9 := hfa.2.1
        have hbla : w.heap.size + 1 < wa.heap.size := World.block_lt_of_cell? wa ⟨w.heap.size + 1, 0, none⟩ g9
        have z0 : wa.cell? ⟨w.heap.size, 0, none⟩ = some (.slice none 0 0) := by unfold World.cell?; simp only [HA.out.2.2]; rfl
        have z1 : wa.frozen? ⟨w.heap.size, 0, none⟩ = false := by unfold World.frozen?; simp only [HA.out.2.2]; rfl
        clear hfa hra hst
        cases b2 with
        | true =>
          go_wp2_with fail
          have hk0 : ((wa.setCell ⟨w.heap.size + 1, 0, none⟩ (.slice none 0 0)).setCell ⟨w.heap.size, 0, none⟩ (.slice none 0 0)).cell? ⟨w.heap.size, 0, none⟩ = some (.slice none 0 0) := World.cell?_setCell_same _ _ _ ((World.cell?_setCell_other _ _ _ _ (by simp)).trans z0)
          have hR : Ran sb t 20 w ((wa.setCell ⟨w.heap.size + 1, 0, none⟩ (.slice none 0 0)).setCell ⟨w.heap.size, 0, none⟩ (.slice none 0 0)) := (HA.out.2.1.setCell (a := ⟨w.heap.size + 1, 0, none⟩) (by show w.heap.size ≤ w.heap.size + 1; omega) hsb _).setCell (a := ⟨w.heap.size, 0, none⟩) (by show w.heap.size ≤ w.heap.size; omega) hsb _
          have hI : IRow (w.heap.size + 2) 0 ((wa.setCell ⟨w.heap.size + 1, 0, none⟩ (.slice none 0 0)).setCell ⟨w.heap.size, 0, none⟩ (.slice none 0 0)) (.slice none 0 0) := IRow.nil _ _
          obtain ⟨l, hl, hN, hA⟩ := hI.nums
          exact bodyPost_ret (v := .agg #[.slice none 0 0]) (by simp [results, Tryz.results5, go_sem, hk0]) rfl ⟨⟨_, l, rfl, by omega, hN, fun a n c hh => Nat.le_trans (by omega) (hA a n c hh)⟩, hR⟩
        | false =>
          go_wp2_with fail
          have hk0 : (wa.setCell ⟨w.heap.size, 0, none⟩ (.slice (some ⟨g, 0, none⟩) i vc)).cell? ⟨w.heap.size, 0, none⟩ = some (.slice (some ⟨g, 0, none⟩) i vc) := World.cell?_setCell_same _ _ _ z0
          have hR : Ran sb t 20 w (wa.setCell ⟨w.heap.size, 0, none⟩ (.slice (some ⟨g, 0, none⟩) i vc)) := HA.out.2.1.setCell (a := ⟨w.heap.size, 0, none⟩) (by show w.heap.size ≤ w.heap.size; omega) hsb _
          have hI : IRow (w.heap.size + 2) i (wa.setCell ⟨w.heap.size, 0, none⟩ (.slice (some ⟨g, 0, none⟩) i vc)) (.slice (some ⟨g, 0, none⟩) i vc) := HA.out.1.2.2.far (show w.heap.size < w.heap.size + 2 by omega) _
          obtain ⟨l, hl, hN, hA⟩ := hI.nums
          exact bodyPost_ret (v := .agg #[.slice (some ⟨g, 0, none⟩) i vc]) (by simp [results, Tryz.results5, go_sem, hk0]) rfl ⟨⟨_, l, rfl, by omega, hN, fun a n c hh => Nat.le_trans (by omega) (hA a n c hh)⟩, hR⟩
end Go.Proofs.YtfoocnhfppjbbaaGreatDoor
