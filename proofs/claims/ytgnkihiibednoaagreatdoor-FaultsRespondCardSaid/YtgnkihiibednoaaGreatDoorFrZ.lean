/- The maker of lists of faults: FaultList. -/
import Derived.Test.YtgnkihiibednoaaGreatDoorFrY
namespace Go.Proofs.YtgnkihiibednoaaGreatDoor
open Go.RowKit Go.Shelf

/-- A row of these faults, each with a row of nets, all at or beyond B. -/
def FltB (B : Nat) (w : World) (v : Value) (L : List Flt) : Prop :=
  ∃ vals : List Value, vals.length = L.length ∧ w.ownsRow B 30 2 v L.length (fltCells L vals) ∧ ∀ i, i < L.length → NetsOwn B w (vals.getD i undef) (L.getD i (0, [])).2
theorem FltB.own {B : Nat} {w : World} {v : Value} {L : List Flt} (h : FltB B w v L) : FltOwn B w v L := by
  obtain ⟨vals, h1, h2, h3⟩ := h
  exact ⟨vals, h1, h2, fun i hi => ⟨B, h3 i hi⟩⟩
theorem FltB.nil (B : Nat) (w : World) : FltB B w (.slice none 0 0) [] := ⟨[], rfl, World.ownsRow_nil _ _ _ _, fun _ h => absurd h (Nat.not_lt_zero _)⟩
theorem FltB.ran {B sb t K : Nat} {w w' : World} {v : Value} {L : List Flt} (h : FltB B w v L) (hr : Ran sb t K w w') (hB : sb < B) : FltB B w' v L := by
  obtain ⟨vals, h1, h2, h3⟩ := h
  exact ⟨vals, h1, row_ran h2 hr hB, fun i hi => row_ran (h3 i hi) hr hB⟩
theorem FltB.later {B : Nat} {w w' : World} {v : Value} {L : List Flt} (h : FltB B w v L) (hB : Below w.heap.size w w') : FltB B w' v L := by
  obtain ⟨vals, h1, h2, h3⟩ := h
  exact ⟨vals, h1, row_later h2 hB, fun i hi => row_later (h3 i hi) hB⟩
theorem FBox.not_row {w : World} {b : Nat} {k : Int} {u : Value} (h : FBox w b k u) {base size n : Nat} {v : Value} {xs : List Value} (hr : w.ownsRow base 3 size v n xs) : some b ≠ v.ownBlock := by
  rcases hr.2 with ⟨rfl, _⟩ | ⟨g, cap, cur, rfl, _, hgb, _⟩
  · simp [Value.ownBlock]
  · intro e'
    obtain rfl : b = g := by simpa [Value.ownBlock] using e'
    have := (show w.heap[b]? = _ from h).symm.trans hgb
    simp at this
theorem FltB.join {B : Nat} {W W' : World} {v v' : Value} {L M : List Flt} {vals mals : List Value} (h1 : vals.length = L.length) (hr : W.ownsRow B 30 2 v L.length (fltCells L vals)) (h3 : ∀ i, i < L.length → NetsOwn B W (vals.getD i undef) (L.getD i (0, [])).2)
    (m1 : mals.length = M.length) (m3 : ∀ i, i < M.length → NetsOwn B W (mals.getD i undef) (M.getD i (0, [])).2)
    (hown : W'.ownsRow B 30 2 v' (L.length + M.length) (fltCells L vals ++ fltCells M mals)) (hg : W.grownBy W' v.ownBlock) : FltB B W' v' (L ++ M) := by
  have hk : ∀ (u : Value) (l : List Int), NetsOwn B W u l → NetsOwn B W' u l := fun u l hn => World.ownsRow.kept hn hg (row_apart hr hn (by decide))
  refine ⟨vals ++ mals, by rw [List.length_append, List.length_append, h1, m1], ?_, fun i hi => ?_⟩
  · rw [List.length_append, fltCells_append _ _ _ _ h1.symm]
    exact hown
  · rw [List.length_append] at hi
    by_cases hl : i < L.length
    · have e1 : (vals ++ mals).getD i undef = vals.getD i undef := by simp [List.getD, List.getElem?_append, h1, hl]
      have e2 : (L ++ M).getD i (0, []) = L.getD i (0, []) := by simp [List.getD, List.getElem?_append, hl]
      rw [e1, e2]
      exact hk _ _ (h3 i hl)
    · have e1 : (vals ++ mals).getD i undef = mals.getD (i - L.length) undef := by simp [List.getD, List.getElem?_append, h1, hl]
      have e2 : (L ++ M).getD i (0, []) = M.getD (i - L.length) (0, []) := by simp [List.getD, List.getElem?_append, hl]
      rw [e1, e2]
      exact hk _ _ (m3 (i - L.length) (by omega))

set_option maxHeartbeats 2000000 in
set_option maxRecDepth 100000 in
theorem flist_any (sb t nets : Nat) (w : World) (hs : Strm w sb t) (ht : t ≤ 800000) (hnets : nets ≤ 100) :
    Calls Tryz.prog 7 #[.pointer (some ⟨sb, 0, none⟩), .int .i64 (nets : Int)] w fun e w' => ∃ (v : Value) (L : List Flt), e = .returned v ∧ L.length ≤ 6 ∧ (∀ i, i < L.length → (L.getD i (0, [])).2.length ≤ 7) ∧ FltB w.heap.size w' v L ∧ Ran sb t 1300 w w' := by
  obtain ⟨i0, hi, hz0, hz1, hz2⟩ := info_parts Tryz.infoFlt
  have hsb := hs.lt
  go_enter Tryz.func7, Tryz.ntmps7
  go_wp2_with fail
  refine (range_any sb t 0 6 w hs (by omega) (by decide) (by decide) (by decide)).mono ?_
  rintro e w1 ⟨⟨zn, hn0, hn6, rfl⟩, hr1⟩
  obtain ⟨n, rfl⟩ : ∃ n : Nat, zn = (n : Int) := ⟨zn.toNat, by omega⟩
  have HA := Lib.hid hr1
  clear hr1 hs
  go_wp2_with fail
  go_loopw [5, 9] (fun v c wr => ∃ L : List Flt, L.length ≤ n ∧ c = .int .i64 (L.length : Int) ∧ (∀ i, i < L.length → (L.getD i (0, [])).2.length ≤ 7) ∧ FltB w.heap.size wr v L ∧ Ran sb t (1 + 200 * L.length) w wr) (fun _ c _ => n - (intOf c).toNat)
  case atStart => exact ⟨[], by simp, rfl, fun i hi => absurd hi (Nat.not_lt_zero _), FltB.nil _ _, HA.out⟩
  case round =>
    clear HA
    obtain ⟨L, hl, rfl, hz, hF, hr⟩ := hrel
    obtain ⟨a, c, rfl⟩ := hF.own.open
    by_cases hlt : L.length < n
    · obtain ⟨t2, ht2, ht2', hs2⟩ := hr.strm
      have hgl : w.heap.size ≤ wr.heap.size := hr.1.size
      have H := Lib.hid (⟨hF, hr, hz⟩ : _ ∧ _ ∧ _)
      clear hF hr hz
      go_wp2_with fail
      refine (afault_any sb t2 nets wr hs2 (by omega) hnets).mono ?_
      rintro e w3 ⟨k, nv, l, rfl, hl7, hN, hr3⟩
      obtain ⟨na, nc, rfl, hN1, hN2, hN3⟩ := hN
      have hz3 : wr.heap.size ≤ w3.heap.size := hr3.1.size
      have hr4 := H.out.2.1.then ht2 ht2' hr3
      have hF3 := H.out.1.ran hr3 hsb
      obtain ⟨W4, hW4⟩ : ∃ W4 : World, W4 = w3.alloc (.cells #[.int .i64 k, .slice na l.length nc] 30) := ⟨_, rfl⟩
      have hb4 : FBox W4 w3.heap.size k (.slice na l.length nc) := by rw [hW4]; exact World.alloc_heap_new w3 _
      have hB4 : Below w3.heap.size w3 W4 := by rw [hW4]; exact (Below.refl _ _).alloc (Nat.le_refl _) _
      have hz4 : W4.heap.size = w3.heap.size + 1 := by rw [hW4]; simp
      have hcl : Calls Tryz.prog 30 #[.slice na l.length nc] W4 fun e w' => ∃ v', e = .returned v' ∧ NetsOwn w.heap.size w' v' l ∧ Below W4.heap.size W4 w' := by
        by_cases hl0 : l.length = 0
        · have e := hN2 hl0
          subst e
          have e2 := List.eq_nil_of_length_eq_zero hl0
          subst e2
          refine (Tryz.slices_Clone_int_nil 0 nc W4).mono ?_
          rintro e w' ⟨rfl, rfl⟩
          exact ⟨_, rfl, World.ownsRow_nil _ _ _ _, Below.refl _ _⟩
        · obtain ⟨g, o, rfl, hg1, hg2, hg3⟩ := hN3 (by omega)
          refine (Tryz.slices_Clone_int g o l.length nc l W4 (Nat.le_refl _) (by omega) (fun j hj => (hB4.cell (p := ⟨g, o + j, none⟩) hg2).trans (hg3 j hj))).mono ?_
          rintro e w' ⟨v', rfl, hv', -, hB⟩
          rw [List.take_length] at hv'
          exact ⟨v', rfl, row_base hv' (by omega), hB⟩
      have H4 := Lib.hid (⟨hr4, hF3, hb4, hB4⟩ : _ ∧ _ ∧ _ ∧ _)
      have HW4 := Lib.hid hW4
      clear hN1 hN2 hN3 hr4 hF3 hb4 hB4 hW4 hr3 hs2
      go_wp2_with fail
      rw [← HW4.out]
      refine hcl.mono ?_
      rintro e w5 ⟨v', rfl, hN5, hB5⟩
      obtain ⟨a5, c5, rfl, -⟩ := hN5.at
      have hb5 := H4.out.2.2.1.kept (hB5.block _ (by omega))
      have hz5 := hB5.size
      have hF5 := (H4.out.2.1.later H4.out.2.2.2).later hB5
      have hr5 := (H4.out.1.thenB H4.out.2.2.2).thenB hB5
      have d0 := hb5.c0
      have d1 := hb5.c1
      have d2 := hb5.f1
      have hb6 := hb5.set1 (.slice a5 l.length c5)
      have hg6 : w5.grownBy (w5.setCell ⟨w3.heap.size, 1, none⟩ (.slice a5 l.length c5)) (some w3.heap.size) := grownBy_setCell1 _ _ _ _
      have hr6 := hr5.setCell (a := ⟨w3.heap.size, 1, none⟩) (by show w.heap.size ≤ w3.heap.size; omega) hsb (.slice a5 l.length c5)
      have hN6 : NetsOwn w.heap.size (w5.setCell ⟨w3.heap.size, 1, none⟩ (.slice a5 l.length c5)) (.slice a5 l.length c5) l := World.ownsRow.kept hN5 hg6 (.inr (hb5.not_row hN5).symm)
      have hB36 : Below w3.heap.size w3 (w5.setCell ⟨w3.heap.size, 1, none⟩ (.slice a5 l.length c5)) := (H4.out.2.2.2.trans (hB5.mono (by omega))).setCell (p := ⟨w3.heap.size, 1, none⟩) (Nat.le_refl _) _
      have hF6 := H4.out.2.1.later hB36
      obtain ⟨vals, v1, hrow, v3⟩ := hF6
      have hs6 : (w5.setCell ⟨w3.heap.size, 1, none⟩ (.slice a5 l.length c5)).heap.size = w5.heap.size := by
        show (w5.heap.modify _ _).size = _
        rw [Array.size_modify]
      have hcN : ∀ (j : Nat) (u : Value), [Value.int .i64 k, .slice a5 l.length c5][j]? = some u → ((w5.setCell ⟨w3.heap.size, 1, none⟩ (.slice a5 l.length c5)).alloc (.cells #[.int .i64 k, .slice a5 l.length c5] 30)).cell? (Addr.add ⟨w5.heap.size, 0, none⟩ j) = some u := by
        intro j u hj
        rw [add_at, ← hs6]
        match j, hj with
        | 0, hj => cases hj; exact cell_fresh _ _ _ rfl
        | 1, hj => cases hj; exact cell_fresh _ _ _ rfl
      have HS := Lib.hid (⟨v1, hrow, v3, hcN, hN6, hr6⟩ : _ ∧ _ ∧ _ ∧ _ ∧ _ ∧ _)
      clear hb5 hb6 hg6 hF5 hr5 hB36 v1 hrow v3 hcN hN5 hN6 hr6 hB5 hcl
      go_wp2_with (at_builtin; refine wpList_append_own _ rfl _ _ 32 rfl w.heap.size 30 i0 (.agg #[.int .i64 0, .slice none 0 0]) 2 32 Tryz.underlying32 hi hz0 hz1 hz2 rfl (by decide) _ _ _ rfl (HS.out.2.1.alloc _) ⟨w5.heap.size, 0, none⟩ 1 1 [.int .i64 k, .slice a5 l.length c5] rfl rfl HS.out.2.2.2.1 ?c2 ?c3 ?c4 ?c5 ?_)
      case c2 =>
        intro u hu
        simp at hu
        rcases hu with rfl | rfl <;> rfl
      case c3 => unfold maxLen; omega
      case c4 => omega
      case c5 => simp; omega
      intro v7 w7 hown' hg7 _
      have hjoin : FltB w.heap.size w7 v7 (L ++ [(k, l)]) := FltB.join (mals := [.slice a5 l.length c5]) HS.out.1 (HS.out.2.1.alloc _) (fun i hi => World.ownsRow.alloc (HS.out.2.2.1 i hi) _) rfl (fun i hi => by
        obtain rfl : i = 0 := by simpa using hi
        exact World.ownsRow.alloc HS.out.2.2.2.2.1 _) hown' hg7
      have hr7 : Ran sb t (1 + 200 * (L.length + 1)) w w7 := ((HS.out.2.2.2.2.2.alloc _).grown hg7 (fun j hj => (HS.out.2.1.lt j hj).1) hsb).mono (by omega)
      obtain ⟨g9, cap9, rfl⟩ := ownsRow_succ hown'
      have hz7 : ∀ i, i < (L ++ [(k, l)]).length → ((L ++ [(k, l)]).getD i (0, [])).2.length ≤ 7 := fun i hi => by
        by_cases h : i < L.length
        · have e : (L ++ [(k, l)]).getD i (0, []) = L.getD i (0, []) := by simp [List.getD, List.getElem?_append, h]
          rw [e]
          exact H.out.2.2 i h
        · have e1 : i = L.length := by simp at hi; omega
          have e : (L ++ [(k, l)]).getD i (0, []) = (k, l) := by subst e1; simp [List.getD]
          rw [e]
          exact hl7
      have HF := Lib.hid (⟨hjoin, hr7, hz7⟩ : _ ∧ _ ∧ _)
      clear hjoin hr7 hz7 hown' hg7 HS H4 HW4
      go_wp2_with fail
      go_roundw
      case rel => exact ⟨L ++ [(k, l)], by simp; omega, by simp, HF.out.2.2, HF.out.1, by rw [List.length_append]; exact HF.out.2.1⟩
      case measure => simp [intOf]; omega
    · obtain hln : L.length = n := by omega
      have H := Lib.hid (⟨hF, hz, hr⟩ : _ ∧ _ ∧ _)
      clear hF hz hr
      go_wp2_with fail
      go_ret
      exact ⟨_, L, rfl, by omega, H.out.2.1, H.out.1, H.out.2.2.mono (by omega)⟩
end Go.Proofs.YtgnkihiibednoaaGreatDoor
