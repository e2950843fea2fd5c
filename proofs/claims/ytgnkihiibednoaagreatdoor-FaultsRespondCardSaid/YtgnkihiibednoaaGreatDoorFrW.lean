/- Package fault: Combined. -/
import Derived.Test.YtgnkihiibednoaaGreatDoorFrT
import Derived.Test.YtgnkihiibednoaaGreatDoorFrV
import Derived.Maps.AppendAt
namespace Go.Proofs.YtgnkihiibednoaaGreatDoor
open Go.RowKit Go.Shelf

attribute [local go_sem] Oper.semAt_some

/-- Marks of ranges that are over: blocks for deferred calls, each beyond the one before, none holding a call. -/
def Marks (B : Nat) : Nat → List Deferred → World → Prop
  | _, [], _ => True
  | top, d :: ds, W => ∃ r, d = { target := .collected r, args := #[] } ∧ B ≤ r ∧ r < top ∧ W.heap[r]? = some (.deferred (some [])) ∧ Marks B r ds W
theorem Marks.kept {B : Nat} {W W' : World} : ∀ {ds : List Deferred} {top : Nat}, Marks B top ds W → (∀ k, B ≤ k → k < top → W.heap[k]? = some (.deferred (some [])) → W'.heap[k]? = some (.deferred (some []))) → Marks B top ds W'
  | [], _, _, _ => trivial
  | _ :: _, _, ⟨r, h1, h2, h3, h4, h5⟩, hk => ⟨r, h1, h2, h3, hk r h2 h3 h4, h5.kept fun k hb ht => hk k hb (by omega)⟩
theorem Marks.up {B : Nat} {W : World} : ∀ {ds : List Deferred} {top top' : Nat}, Marks B top ds W → top ≤ top' → Marks B top' ds W
  | [], _, _, _, _ => trivial
  | _ :: _, _, _, ⟨r, h1, h2, h3, h4, h5⟩, hk => ⟨r, h1, h2, by omega, h4, h5⟩
theorem marks_leave {B : Nat} {F : Fence} {n : Nat} {P : Program} {fn : Func} {tmps : Array Value} {R : Ending → World → Prop} (I : World → Prop)
    (hI : ∀ W r, I W → B ≤ r → W.heap[r]? = some (.deferred (some [])) → I (W.putObj r (.deferred none)))
    (hR : ∀ W, I W → LeavesInM F n P fn tmps R [] .returning W) : ∀ (ds : List Deferred) (top : Nat) (W : World), Marks B top ds W → I W → LeavesInM F n P fn tmps R ds .returning W
  | [], _, W, _, hi => hR W hi
  | d :: ds, top, W, ⟨r, hd, hB, hr, hb, hm⟩, hi => by
    subst hd
    refine ⟨by simp, .inl ⟨r, _, rfl, run_takeDeferred hb, ?_⟩⟩
    exact marks_leave I hI hR ds r _ (hm.kept fun k _ hk h => (World.putObj_heap_other (by omega)).trans h) (hI W r hi hB hb)

theorem sets_cell {B : Nat} {w : World} {gs n sc : Nat} {S : List Nat} (h : w.ownsRow B 68 1 (.slice (some ⟨gs, 0, none⟩) n sc) n (S.map setV)) (hl : S.length = n) {q : Nat} (hq : q < n) : w.cell? ⟨gs, q, none⟩ = some (.int .u64 (S.getD q 0 : Int)) := by
  have hq' : q < S.length := by omega
  rw [h.cellAt q (by omega)]
  simp [hq', setV]
theorem row_block {w w' : World} {B : Nat} {e : TypeId} {size gs n c k : Nat} {xs : List Value} (h : w.ownsRow B e size (.slice (some ⟨gs, 0, none⟩) n c) k xs) (hb : w'.heap[gs]? = w.heap[gs]?) : w'.ownsRow B e size (.slice (some ⟨gs, 0, none⟩) n c) k xs := by
  obtain ⟨h1, h2 | ⟨g, cap, cur, e1, e2, e3, e4⟩⟩ := h
  · exact ⟨h1, .inl h2⟩
  · cases e1
    exact ⟨h1, .inr ⟨gs, _, cur, rfl, e2, hb.trans e3, e4⟩⟩

theorem fltsFirst_zero (n : Int) : ∀ (L : List Flt), fltsFirst n L = 0 → ∀ f, f ∈ L → fltErr n f = 0
  | [], _, f, hf => by cases hf
  | x :: L, h, f, hf => by
    unfold fltsFirst at h
    split at h
    · rename_i h0
      rcases List.mem_cons.1 hf with rfl | hf
      · exact h0
      · exact fltsFirst_zero n L h f hf
    · rename_i h0
      exact absurd h h0
theorem listErr_right (T : List (List UInt8)) (L : List Flt) (h : listErr T L = 0) : TestRight T T.length (T.getD 0 []).length ∧ (∀ f, f ∈ L → FltRight T.length f) ∧ L.length ≤ 20000 := by
  unfold listErr at h
  split at h
  · rename_i h0
    unfold fltsErr at h
    split at h
    · cases h
    · exact ⟨testErr_right T h0, fun f hf => fltErr_right T.length f (fltsFirst_zero _ L h f hf), by omega⟩
  · rename_i h0
    exact absurd h h0

set_option maxHeartbeats 8000000 in
set_option maxRecDepth 100000 in
theorem combined_any : CombSaid := by
  intro T hTz hTb L hLz hLl B w tv lv h hF
  obtain ⟨i0, hi, hz0, hz1, hz2⟩ := info_strv
  have hck := fcheck_any T hTz hTb L hLz hLl B w tv lv h hF
  by_cases h0 : listErr T L = 0
  · obtain ⟨hT, hL, hL2⟩ := listErr_right T L h0
    rw [if_pos h0]
    rw [h0] at hck ⊢
    obtain ⟨n, hn⟩ : ∃ n, n = T.length := ⟨_, rfl⟩
    obtain ⟨m, hm⟩ : ∃ m, m = (T.getD 0 []).length := ⟨_, rfl⟩
    rw [← hn, ← hm] at hT
    rw [← hn] at hL
    rw [← hm]
    have hn1 := hT.n1
    have hn2 := hT.n2
    have hm2 := hT.m2
    obtain ⟨la, lc, rfl⟩ := hF.open
    have HT := Lib.hid (⟨hT, hL, hF, h⟩ : _ ∧ _ ∧ _ ∧ _)
    clear hT hL hF h hn hm h0 hTz hTb hLz hLl
    refine (callsIn_wide (n := 9)).1 ?_
    refine callsIn_of_wp_marks Tryz.func9 rfl trivial ?_ rfl
    simp only [Tryz.ntmps9, List.size_toArray, List.length_cons, List.length_nil, Nat.reduceAdd, Nat.reduceSub, Array.replicate_succ, Array.replicate_zero, List.push_toArray, List.append_toArray, List.nil_append, List.cons_append]
    gi_wp2_with (refine ⟨trivial, ?_⟩; gi_at_call 31)
    refine (callsIn_wide.2 hck).mono ?_
    rintro e w2 ⟨rfl, hB2⟩
    have hwr := wire_any T n m HT.out.1 B w2 tv (row_later HT.out.2.2.2 hB2)
    have HB2 := Lib.hid hB2
    clear hck hB2
    gi_wp2_with (refine ⟨trivial, ?_⟩; gi_at_call 32)
    refine (callsIn_wide.2 hwr).mono ?_
    rintro e w3 ⟨sv, rfl, hS, hB3⟩
    have hSl : (T.map setL).length = n := by rw [List.length_map, HT.out.1.len]
    obtain ⟨sa, sc, hsv, hat⟩ := hS.at
    obtain ⟨gs, rfl, hgs, -⟩ := hat (by rw [hSl]; omega)
    rw [hSl] at hsv
    subst hsv
    have hgb : w2.heap.size ≤ gs := (World.ownsRow.lt (show w3.ownsRow _ _ 1 (.slice (some ⟨gs, 0, none⟩) n sc) (T.map setL).length _ from hS) gs rfl).1
    have hBw3 : Below w.heap.size w w3 := HB2.out.trans (hB3.mono HB2.out.size)
    obtain ⟨W4, hW4⟩ : ∃ W4 : World, W4 = w3.alloc (.cells #[.int .i64 (m : Int), .slice (some ⟨gs, 0, none⟩) n sc] 62) := ⟨_, rfl⟩
    have HW := Lib.hid hW4
    have H3 := Lib.hid (⟨hS, hBw3, hgb, hgs⟩ : _ ∧ _ ∧ _ ∧ _)
    clear hwr hS hB3 hat hgs hgb hBw3 hW4 hSl
    gi_wp2_with fail
    rw [← HW.out]
    have hsz4 : W4.heap.size = w3.heap.size + 1 := by rw [HW.out]; simp
    have hB34 : Below w3.heap.size w3 W4 := by rw [HW.out]; exact (Below.refl _ _).alloc (Nat.le_refl _) _
    have hrow4 : W4.ownsRow w2.heap.size 68 1 (.slice (some ⟨gs, 0, none⟩) n sc) n ((T.map setL).map setV) := by
      have h := row_later (show w3.ownsRow _ _ 1 (.slice (some ⟨gs, 0, none⟩) n sc) (T.map setL).length _ from H3.out.1) hB34
      rw [List.length_map, HT.out.1.len] at h
      exact h
    have hbox4 : WBox W4 w3.heap.size m (.slice (some ⟨gs, 0, none⟩) n sc) := by
      rw [HW.out]
      exact World.alloc_heap_new w3 _
    have hBw4 : Below w.heap.size w W4 := H3.out.2.1.trans (hB34.mono H3.out.2.1.size)
    have H4 := Lib.hid (⟨hrow4, hbox4, hBw4, hsz4⟩ : _ ∧ _ ∧ _ ∧ _)
    clear hrow4 hbox4 hBw4 hsz4 hB34 HW
    refine wpIn_loop (fun a W => ∃ (i : Nat) (u9 ix u26 u27 u28 u29 u30 u31 u42 : Value) (ds : List Deferred) (top : Nat), a = ({ tmps := List.toArray (tv :: .slice la L.length lc :: undef :: undef :: .slice none 0 0 :: .int .i64 0 :: .int .i64 0 :: .pointer (some ⟨w3.heap.size, 0, none⟩) :: undef :: u9 :: undef :: undef :: undef :: undef :: undef :: tv :: .slice la L.length lc :: .int .i64 0 :: .int .i64 0 :: .bool false :: undef :: tv :: .agg #[.int .i64 (m : Int), .slice (some ⟨gs, 0, none⟩) n sc] :: .slice la L.length lc :: .int .i64 (L.length : Int) :: ix :: u26 :: u27 :: u28 :: u29 :: u30 :: u31 :: undef :: undef :: undef :: undef :: undef :: undef :: undef :: undef :: undef :: undef :: u42 :: undef :: undef :: undef :: undef :: undef :: undef :: undef :: undef :: undef :: undef :: undef :: undef :: undef :: undef :: undef :: undef :: []), defers := ds } : Act) ∧ ix = .int .i64 (i : Int) ∧ i ≤ L.length ∧ Marks w3.heap.size top ds W ∧ top ≤ W.heap.size ∧
        W.ownsRow w2.heap.size 68 1 (.slice (some ⟨gs, 0, none⟩) n sc) n (((combL m T (L.take i)).map setL).map setV) ∧ WBox W w3.heap.size m (.slice (some ⟨gs, 0, none⟩) n sc) ∧ Below w.heap.size w W ∧ w3.heap.size + 1 ≤ W.heap.size)
      (fun a _ => L.length - (intOf (a.tmps.getD 25 undef)).toNat) ?start ?round
    case start => exact ⟨0, _, _, _, _, _, _, _, _, _, [], 0, rfl, rfl, Nat.zero_le _, trivial, Nat.zero_le _, H4.out.1, H4.out.2.1, H4.out.2.2.1, by rw [H4.out.2.2.2]; exact Nat.le_refl _⟩
    case round =>
      clear H4
      rintro a W ⟨i, u9, ix, u26, u27, u28, u29, u30, u31, u42, ds, top, rfl, rfl, hi', hmk, htop, hrow, hbox, hBW, hsz⟩
      have hSl : (((combL m T (L.take i)).map setL)).length = n := by
        rw [List.length_map]
        exact (combL_right T HT.out.1 _ fun f hf => HT.out.2.1 f (List.mem_of_mem_take hf)).len
      by_cases hlt : i < L.length
      · obtain ⟨f, hf⟩ : ∃ f, f = L.getD i (0, []) := ⟨_, rfl⟩
        have hfm : f ∈ L := by rw [hf, List.getD_eq_getElem?_getD, List.getElem?_eq_getElem hlt]; exact List.getElem_mem hlt
        have hfr := HT.out.2.1 f hfm
        have hTi := combL_right T HT.out.1 (L.take i) fun f hf => HT.out.2.1 f (List.mem_of_mem_take hf)
        have hnext : chgOn ((combL m T (L.take i)).map setL) m f = (combL m T (L.take (i + 1))).map setL := by
          have e : L.take (i + 1) = L.take i ++ [f] := by rw [List.take_succ_eq_append_getElem hlt, hf, List.getD_eq_getElem?_getD, List.getElem?_eq_getElem hlt]; rfl
          rw [chgOn_resp hTi hfr, e, combL_snoc]
        obtain ⟨la', lc', he, hop⟩ := HT.out.2.2.1
        injection he with he1 he2 he3
        subst he1
        subst he3
        clear he2
        obtain ⟨g, rfl, hg, hcells⟩ := hop (by omega)
        obtain ⟨c1w, nv, c2w, hN⟩ := hcells i hlt
        rw [← hf] at c1w hN
        obtain ⟨an, fc, rfl, hMc, hNop⟩ := hN
        obtain ⟨gn, og, rfl, hgn, hncw⟩ := hNop (by have := hfr.l1; omega)
        have c1 := (hBW.cell (p := ⟨g, i * 2, none⟩) hg).trans c1w
        have c2 := (hBW.cell (p := ⟨g, i * 2 + 1, none⟩) hg).trans c2w
        have hnc := fun j hj => (hBW.cell (p := ⟨gn, og + j, none⟩) hgn).trans (hncw j hj)
        have hgnW : gn < W.heap.size := Nat.lt_of_lt_of_le hgn hBW.size
        clear c1w c2w hncw hg
        obtain ⟨S, hS⟩ : ∃ S, S = (combL m T (L.take i)).map setL := ⟨_, rfl⟩
        rw [← hS] at hrow hSl hnext
        have hOn : On64 S := by
          rw [hS]
          intro k
          rw [List.getD_eq_getElem?_getD]
          by_cases hk : k < ((combL m T (L.take i)).map setL).length
          · rw [List.getElem?_eq_getElem hk, List.getElem_map]
            exact setL_lt _
          · rw [List.getElem?_eq_none (by omega)]
            decide
        have hgsW : gs < W.heap.size := (hrow.lt gs rfl).2
        have d0 := hbox.c0
        have d1 := hbox.c1
        have db := hbox.lt
        obtain ⟨M, hM⟩ : ∃ M, M = f.2.length := ⟨_, rfl⟩
        obtain ⟨fk, hfk⟩ : ∃ k, k = f.1 := ⟨_, rfl⟩
        rw [← hfk] at c1
        rw [← hM] at c2 hMc hnc
        obtain ⟨W5, hW5⟩ : ∃ W5 : World, W5 = W.alloc (.cells #[.int .i64 fk, .slice (some ⟨gn, og, none⟩) M fc] 30) := ⟨_, rfl⟩
        have hB5 : Below W.heap.size W W5 := by rw [hW5]; exact (Below.refl _ _).alloc (Nat.le_refl _) _
        have hs5 : W5.heap.size = W.heap.size + 1 := by rw [hW5]; simp
        have hsc : ∀ j, j < n → W.cell? ⟨gs, j, none⟩ = some (.int .u64 (S.getD j 0 : Int)) := fun j hj => sets_cell hrow hSl hj
        have hch := fchanged_any n m (HT.out.1.m2) S hSl hOn f hfr W5 gn og fc gs sc (by omega) (by omega) (by rw [← hM]; exact hMc) (fun j hj => (hB5.cell (p := ⟨gn, og + j, none⟩) hgnW).trans (hnc j (by rw [hM]; exact hj))) (fun j hj => (hB5.cell (p := ⟨gs, j, none⟩) hgsW).trans (hsc j hj))
        rw [← hfk, ← hM] at hch
        have i1 : (0 : Int) ≤ (i : Int) := by omega
        have i2 : (i : Int) < (L.length : Int) := by omega
        have hgsn : gn ≠ gs := by
          have h1 := H3.out.2.2.1
          have h2 := HB2.out.size
          omega
        have HI := Lib.hid (show (Marks w3.heap.size top ds W ∧ top ≤ W.heap.size ∧ W.ownsRow w2.heap.size 68 1 (.slice (some ⟨gs, 0, none⟩) n sc) n (S.map setV) ∧ WBox W w3.heap.size m (.slice (some ⟨gs, 0, none⟩) n sc) ∧ Below w.heap.size w W ∧ chgOn S m f = (combL m T (L.take (i + 1))).map setL ∧ On64 S ∧ FltRight n f ∧ Below W.heap.size W W5 ∧ W5.heap.size = W.heap.size + 1) from ⟨hmk, htop, hrow, hbox, hBW, hnext, hOn, hfr, hB5, hs5⟩)
        have HW5 := Lib.hid hW5
        have HM := Lib.hid (⟨hM, hfk, hSl, hS⟩ : _ ∧ _ ∧ _ ∧ _)
        clear hmk htop hrow hbox hBW hnext hOn hfr hB5 hW5 hM hfk hSl hS hf hfm hTi hop hcells hNop hMc hnc hsc
        gi_wp2_with (refine ⟨trivial, ?_⟩; gi_at_call 33)
        rw [← HW5.out]
        refine (callsIn_wide.2 hch).mono ?_
        rintro e w6 ⟨pv, rfl, hpv1, hpv2, hC, hB6⟩
        clear hch c1 c2
        have hs6 := hB6.size
        rw [hs5] at hC hpv1
        have HC := Lib.hid (⟨hC, hB6, hpv1⟩ : _ ∧ _ ∧ _)
        clear hC hB6
        gi_wp2_with fail
        refine range_own (α := XV) rfl (by decide) (gf := 65) (lb := #[.pointer (some ⟨(W.heap.size + 1) + 1, 0, none⟩), .pointer (some ⟨pv, 0, none⟩), .pointer (some ⟨(W.heap.size + 1), 0, none⟩)]) rfl trivial (enters_of Tryz.func65 (by kernel_rfl) rfl)
          (encs := fun x => #[Value.int .i64 x.1.1, Value.int .u64 (x.1.2 : Int)]) (fun _ => rfl)
          (fun pre W' => W'.ownsRow w2.heap.size 68 1 (.slice (some ⟨gs, 0, none⟩) n sc) n ((flips S (pre.map (·.1))).map setV) ∧ w6.heap.size ≤ W'.heap.size ∧ Below w.heap.size w W' ∧ ∀ k, k < w6.heap.size → k ≠ gs → W'.heap[k]? = w6.heap[k]?)
          (fun pre x => ∃ k, k < M ∧ pre.map (·.1) = chgTo m S f k ∧ x.1 = (f.2.getD k 0, comL m S f ^^^ S.getD (f.2.getD k 0).toNat 0))
          (fun xs => xs.map (·.1) = chgL m S f) ?seq ?own ?zero
          (fun x => ({ tmps := List.toArray (tv :: .slice (some ⟨g, 0, none⟩) L.length lc :: undef :: undef :: .slice none 0 0 :: .int .i64 0 :: .int .i64 0 :: .pointer (some ⟨w3.heap.size, 0, none⟩) :: undef :: .pointer (some ⟨W.heap.size, 0, none⟩) :: .int .i64 x.1.1 :: .int .u64 (x.1.2 : Int) :: undef :: undef :: undef :: tv :: .slice (some ⟨g, 0, none⟩) L.length lc :: .int .i64 0 :: .int .i64 0 :: .bool false :: undef :: tv :: .agg #[.int .i64 (m : Int), .slice (some ⟨gs, 0, none⟩) n sc] :: .slice (some ⟨g, 0, none⟩) L.length lc :: .int .i64 (L.length : Int) :: .int .i64 (i : Int) :: .bool true :: .pointer (some ⟨g, i * 2, none⟩) :: .agg #[.int .i64 fk, .slice (some ⟨gn, og, none⟩) M fc] :: .agg #[.int .i64 (m : Int), .slice (some ⟨gs, 0, none⟩) n sc] :: .agg #[.int .i64 fk, .slice (some ⟨gn, og, none⟩) M fc] :: .func (.func 65) #[] #[.pointer (some ⟨W.heap.size + 1 + 1, 0, none⟩), .pointer (some ⟨pv, 0, none⟩), .pointer (some ⟨W.heap.size + 1, 0, none⟩)] :: .int .i64 x.1.1 :: .int .u64 (x.1.2 : Int) :: undef :: undef :: undef :: undef :: undef :: undef :: undef :: undef :: u42 :: undef :: undef :: undef :: undef :: undef :: undef :: undef :: undef :: undef :: undef :: undef :: undef :: undef :: undef :: undef :: undef :: []), defers := [] } : Act)) ?assign ?body ?done
        case seq =>
          intro l J W' hJI hJd hY h0
          have hb0 := hJI [] W' h0
          exact changed1_J Fence.wide 8 trivial rfl (by decide) l ((W.heap.size + 1) + 1) pv (W.heap.size + 1) gn og fc gs sc n M m S f (by rw [HM.out.1]; exact HI.out.2.2.2.2.2.2.2.1.l2) HM.out.1.symm HI.out.2.2.2.2.2.2.1
            (fun k hk => by
              have h1 := HI.out.2.2.2.2.2.2.2.1.low k (by rw [← HM.out.1]; exact hk)
              have h2 := HI.out.2.2.2.2.2.2.2.1.high k (by rw [← HM.out.1]; exact hk)
              exact ⟨(f.2.getD k 0).toNat, by omega, by omega, rfl⟩)
            J hJd
            (fun pre W2 k hJ hk hp => by
              obtain ⟨r1, r2, r3, r4⟩ := hJI pre W2 hJ
              have h1 := HI.out.2.2.2.2.2.2.2.1.low k (by rw [← HM.out.1]; exact hk)
              have h2 := HI.out.2.2.2.2.2.2.2.1.high k (by rw [← HM.out.1]; exact hk)
              refine ⟨(World.cell?_of_block (a := ⟨pv, 0, none⟩) (r4 pv hpv2 (by omega))).trans HC.out.1.val, (World.cell?_of_block (a := ⟨(W.heap.size + 1), 1, none⟩) (r4 _ (by show (W.heap.size + 1) < _; omega) (by show (W.heap.size + 1) ≠ _; omega))).trans HC.out.1.sets, (World.cell?_of_block (a := ⟨gn, og + k, none⟩) (r4 gn (by show gn < _; omega) hgsn)).trans (HC.out.1.net k hk), ?_⟩
              rw [sets_cell r1 (by rw [flips_len]; exact HM.out.2.2.1) (show (f.2.getD k 0).toNat < n by omega), hp, flips_fresh HI.out.2.2.2.2.2.2.2.1 m S HM.out.2.2.1 k (by rw [← HM.out.1]; exact hk)])
            (fun pre x W2 k hJ hk hp hx _ => hY pre x W2 hJ ⟨k, hk, hp, hx⟩) W'
            ((World.cell?_of_block (a := ⟨(W.heap.size + 1) + 1, 1, none⟩) (hb0.2.2.2 _ (by show (W.heap.size + 1) + 1 < _; omega) (by show (W.heap.size + 1) + 1 ≠ _; omega))).trans HC.out.1.nets) h0
        case own =>
          rintro pre A B2 row ⟨r1, r2, r3, r4⟩ hg hr
          have hne : ∀ k, k < w6.heap.size → row ≠ some k := fun k hk e => by have := (hr k e).1; omega
          refine ⟨row_block r1 (hg.block gs (r1.lt gs rfl).2 (fun e => hne gs (by omega) e.symm)), Nat.le_trans r2 hg.size, ownFrom_below (β := Unit) (Nat.le_refl _) (show w.heap.size ≤ w6.heap.size by have := HI.out.2.2.2.2.1.size; omega) () A B2 row r3 hg hr, fun k hk hkg => (hg.block k (by omega) (fun e => hne k hk e.symm)).trans (r4 k hk hkg)⟩
        case zero =>
          have e6 : w6.heap[gs]? = W.heap[gs]? := (HC.out.2.1.block gs (by omega)).trans (HI.out.2.2.2.2.2.2.2.2.1.block gs hgsW)
          exact ⟨row_block HI.out.2.2.1 e6, Nat.le_refl _, HI.out.2.2.2.2.1.trans ((HI.out.2.2.2.2.2.2.2.2.1.mono HI.out.2.2.2.2.1.size).trans (HC.out.2.1.mono (by have := HI.out.2.2.2.2.1.size; omega))), fun _ _ _ => rfl⟩
        case assign =>
          intro l x W K hK
          gi_wp2
          exact hK
        case body =>
          rintro l pre ⟨⟨net, vec⟩, hvec⟩ W' ⟨r1, r2, r3, r4⟩ ⟨k, hk, hp, hx⟩
          dsimp only at hvec hx ⊢
          have h1 := HI.out.2.2.2.2.2.2.2.1.low k (by rw [← HM.out.1]; exact hk)
          have h2 := HI.out.2.2.2.2.2.2.2.1.high k (by rw [← HM.out.1]; exact hk)
          obtain ⟨q, hq⟩ : ∃ q : Nat, f.2.getD k 0 = (q : Int) := ⟨(f.2.getD k 0).toNat, by omega⟩
          have hqt : (f.2.getD k 0).toNat = q := by omega
          have hqn : q < n := by omega
          rw [hqt, hq] at hx
          obtain rfl : net = (q : Int) := congrArg Prod.fst hx
          clear hx
          obtain ⟨cv, hcv⟩ : ∃ x, x = S.getD q 0 := ⟨_, rfl⟩
          have hgs3 := H3.out.2.2.2
          have hbx : W'.heap[w3.heap.size]? = some (.cells #[.int .i64 (m : Int), .slice (some ⟨gs, 0, none⟩) n sc] 62 (0, 0)) :=
            ((r4 _ (by omega) (by omega)).trans ((HC.out.2.1.block _ (by omega)).trans (HI.out.2.2.2.2.2.2.2.2.1.block _ (by omega)))).trans HI.out.2.2.2.1
          have b1 := WBox.c1 (w := W') (b := w3.heap.size) (m := m) (v := .slice (some ⟨gs, 0, none⟩) n sc) hbx
          have fl := flips_fresh HI.out.2.2.2.2.2.2.2.1 m S HM.out.2.2.1 k (by rw [← HM.out.1]; exact hk)
          rw [hqt, ← hp, ← hcv] at fl
          have hlen : (flips S (pre.map (·.1))).length = n := by rw [flips_len]; exact HM.out.2.2.1
          have b2 := sets_cell r1 hlen hqn
          rw [fl] at b2
          have b3 := r1.frozenAt q
          have hcv64 : cv < 18446744073709551616 := by rw [hcv]; exact HI.out.2.2.2.2.2.2.1 q
          have hnew : (flips S ((pre ++ [(⟨((q : Int), vec), hvec⟩ : XV)]).map (·.1))).map setV = ((flips S (pre.map (·.1))).map setV).set q (.int .u64 ((cv ^^^ vec : Nat) : Int)) := by
            rw [List.map_append, List.map_singleton, flips_snoc, flip1]
            show ((flips S (pre.map (·.1))).set (q : Int).toNat ((flips S (pre.map (·.1))).getD (q : Int).toNat 0 ^^^ vec)).map setV = _
            rw [Int.toNat_natCast, fl, List.map_set]
            rfl
          have r1' := (r1.stored q (.int .u64 ((cv ^^^ vec : Nat) : Int))).1
          rw [← hnew] at r1'
          have hxor := u64_xor_nat cv vec hcv64 hvec
          have hfin : KeepsOthers W' (W'.setCell ⟨gs, q, none⟩ (.int .u64 ((cv ^^^ vec : Nat) : Int))) ∧ (W'.setCell ⟨gs, q, none⟩ (.int .u64 ((cv ^^^ vec : Nat) : Int))).ownsRow w2.heap.size 68 1 (.slice (some ⟨gs, 0, none⟩) n sc) n ((flips S ((pre ++ [(⟨((q : Int), vec), hvec⟩ : XV)]).map (·.1))).map setV) ∧ w6.heap.size ≤ (W'.setCell ⟨gs, q, none⟩ (.int .u64 ((cv ^^^ vec : Nat) : Int))).heap.size ∧ Below w.heap.size w (W'.setCell ⟨gs, q, none⟩ (.int .u64 ((cv ^^^ vec : Nat) : Int))) ∧ (∀ k, k < w6.heap.size → k ≠ gs → (W'.setCell ⟨gs, q, none⟩ (.int .u64 ((cv ^^^ vec : Nat) : Int))).heap[k]? = w6.heap[k]?) :=
            ⟨KeepsOthers.setCell _ _ _, r1', Nat.le_trans r2 (KeepsWalks.setCell W' _ _).size, r3.setCell (p := ⟨gs, q, none⟩) (by show w.heap.size ≤ gs; have h3 := H3.out.2.2.1; have h4 := HB2.out.size; omega) _, fun k hk hne => (Below.heap_setCell _ _ _ k (by show k ≠ gs; exact hne)).trans (r4 k hk hne)⟩
          have q0 : (0 : Int) ≤ (q : Int) := by omega
          have q1 : (q : Int) < (n : Int) := by omega
          have HF := Lib.hid hfin
          clear hfin r1' hnew r1 r4 hbx fl hp hcv64 hcv hq hqt
          gi_wp2_with fail
          exact ⟨HF.out.1, by have h := HF.out.2.1; rw [List.map_append, List.map_singleton] at h; exact h, HF.out.2.2.2.1, HF.out.2.2.2.2⟩
        case done =>
          rintro D xs W' hD hxs ⟨r1, r2, r3, r4⟩ hK
          rw [hxs, show chgL m S f = chgL m S f from rfl, flips_all HI.out.2.2.2.2.2.2.2.1 m S HM.out.2.2.1, HI.out.2.2.2.2.2.1] at r1
          have hgs3 := H3.out.2.2.2
          have htop := HI.out.2.1
          have hmk7 : Marks w3.heap.size (D + 1) ({ target := .collected D, args := #[] } :: ds) W' := ⟨D, rfl, by omega, by omega, hK, (HI.out.1.up (by omega)).kept fun k hb ht h => by
            have hkw : k < W.heap.size := (Array.getElem?_eq_some_iff.1 h).1
            exact ((r4 k (by omega) (by omega)).trans ((HC.out.2.1.block k (by omega)).trans (HI.out.2.2.2.2.2.2.2.2.1.block k hkw))).trans h⟩
          have hbox7 : WBox W' w3.heap.size m (.slice (some ⟨gs, 0, none⟩) n sc) :=
            ((r4 _ (by omega) (by omega)).trans ((HC.out.2.1.block _ (by omega)).trans (HI.out.2.2.2.2.2.2.2.2.1.block _ (by omega)))).trans HI.out.2.2.2.1
          have hD7 : D < W'.heap.size := (Array.getElem?_eq_some_iff.1 hK).1
          have HN := Lib.hid (⟨hmk7, r1, hbox7, r3⟩ : _ ∧ _ ∧ _ ∧ _)
          clear hmk7 r1 hbox7 r3 r4 hxs hK
          gi_wp2
          exact ⟨⟨i + 1, _, _, _, _, _, _, _, _, _, _, D + 1, rfl, by go_num, by omega, HN.out.1, by omega, HN.out.2.1, HN.out.2.2.1, HN.out.2.2.2, by omega⟩, by simp [intOf]; omega⟩
      · obtain rfl : i = L.length := by omega
        obtain ⟨Sf, hSf⟩ : ∃ S, S = (combL m T (L.take L.length)).map setL := ⟨_, rfl⟩
        rw [← hSf] at hrow hSl
        have hlast : Sf.map (textL m) = combL m T L := by
          rw [hSf, List.take_length]
          exact textAll (combL_right T HT.out.1 L HT.out.2.1)
        have hS64 : ∀ k, Sf.getD k 0 < 18446744073709551616 := by
          rw [hSf]
          intro k
          rw [List.getD_eq_getElem?_getD]
          by_cases hk : k < ((combL m T (L.take L.length)).map setL).length
          · rw [List.getElem?_eq_getElem hk, List.getElem_map]
            exact setL_lt _
          · rw [List.getElem?_eq_none (by omega)]
            decide
        have hgsW : gs < W.heap.size := (hrow.lt gs rfl).2
        have hbl := hbox.lt
        have hn0 : ∀ j, j ≤ n → ((Sf.take j).map (textL m)).length = j := fun j hj => by rw [List.length_map, List.length_take]; omega
        have hnx : ∀ j, j < n → (Sf.take (j + 1)).map (textL m) = (Sf.take j).map (textL m) ++ [textL m (Sf.getD j 0)] := fun j hj => by
          have hj' : j < Sf.length := by omega
          rw [List.take_succ_eq_append_getElem hj', List.map_append, List.getD_eq_getElem?_getD, List.getElem?_eq_getElem hj']
          rfl
        have hwn : Sf.take n = Sf := by rw [← hSl]; exact List.take_length
        have HI := Lib.hid (⟨hmk, hBW, fun j (hj : j < n) => sets_cell hrow hSl hj, hS64, hlast, hwn⟩ : _ ∧ _ ∧ _ ∧ _ ∧ _ ∧ _)
        have d0 := hbox.c0
        have d1 := hbox.c1
        clear hmk htop hrow hbox hBW hSl hSf hlast hS64 hwn
        gi_wp2_with fail
        gi_loopw [12, 46] (fun out ix wr => ∃ j : Nat, j ≤ n ∧ ix = .int .i64 (j : Int) ∧ StrsAt W.heap.size wr out ((Sf.take j).map (textL m)) ∧ Below W.heap.size W wr) (fun _ ix _ => n - (intOf ix).toNat)
        case atStart => exact ⟨0, by omega, rfl, World.ownsRow_nil _ _ _ _, Below.refl _ _⟩
        case round =>
          obtain ⟨j, hj, rfl, hout, hB⟩ := hrel
          have hol := hn0 j hj
          obtain ⟨oa, oc, rfl, -⟩ := strs_open hout
          rw [hol]
          by_cases hlt : j < n
          · have e0 := (hB.cell (p := ⟨w3.heap.size, 0, none⟩) hbl).trans d0
            have e1 := (hB.cell (p := ⟨w3.heap.size, 1, none⟩) hbl).trans d1
            have e2 := (hB.cell (p := ⟨gs, j, none⟩) hgsW).trans (HI.out.2.2.1 j hlt)
            have htx := setText_any (Sf.getD j 0) m (HI.out.2.2.2.1 j) hm2 wr
            obtain ⟨xv, hxv⟩ : ∃ x, x = Sf.getD j 0 := ⟨_, rfl⟩
            have hsn := hnx j hlt
            rw [← hxv] at e2 htx hsn
            have hrow' : wr.ownsRow W.heap.size 9 1 (.slice oa j oc) j (((Sf.take j).map (textL m)).map strV) := by
              have := hout
              unfold StrsAt at this
              rw [hol] at this
              exact this
            have hbn := hB.size
            have j0 : (0 : Int) ≤ (j : Int) := by omega
            have j1 : (j : Int) < (n : Int) := by omega
            have HS := Lib.hid (⟨hrow', hB, hsn, hol⟩ : _ ∧ _ ∧ _ ∧ _)
            clear hout hrow' hB hsn hol hxv
            gi_wp2_with (refine ⟨trivial, ?_⟩; gi_at_call 34)
            refine (callsIn_wide.2 htx).mono ?_
            rintro e w5 ⟨rfl, hB5⟩
            have hrow5 := row_later HS.out.1 hB5
            have hBs5 : Below W.heap.size W w5 := HS.out.2.1.trans (hB5.mono hbn)
            have hbn5 := hBs5.size
            obtain ⟨sx, hsx⟩ : ∃ s : ByteArray, s = ⟨(textL m xv).toArray⟩ := ⟨_, rfl⟩
            have hsxl : sx.data.toList = textL m xv := by rw [hsx]
            rw [← hsx]
            have H6 := Lib.hid (⟨hrow5, hBs5, hsxl⟩ : _ ∧ _ ∧ _)
            clear htx hB5 hrow5 hBs5 hsx hsxl
            gi_wp2_with (gi_at_builtin; refine wpListIn_append_own _ rfl _ _ 26 rfl W.heap.size 9 i0 (.string ⟨#[]⟩) 1 16 Tryz.underlying26 hi hz0 hz1 hz2 rfl (by decide) _ _ _ rfl (H6.out.1.alloc _) ⟨w5.heap.size, 0, none⟩ 1 1 [.string sx] rfl rfl ?c1 ?c2 ?c3 ?c4 ?c5 ?_)
            case c1 => exact cell_one_new _ _ _
            case c2 => simp [Value.oneCell']
            case c3 => unfold maxLen; omega
            case c4 => omega
            case c5 => simp; omega
            intro v' w7 hown' hg7 _
            have hB7 : Below W.heap.size W w7 := (H6.out.2.1.alloc (by omega) _).grown hg7 (by simp; omega) (fun j hj => (H6.out.1.lt j hj).1)
            have hN7 : StrsAt W.heap.size w7 v' ((Sf.take (j + 1)).map (textL m)) := by
              rw [HS.out.2.2.1, ← H6.out.2.2]
              refine strs_snocR sx ?_
              rw [HS.out.2.2.2, show List.map strV (List.map (textL m) (List.take j Sf)) = List.take j (List.map (strV ∘ textL m) Sf) by rw [List.map_map, List.map_take]]
              exact hown'
            obtain ⟨g9, cap9, rfl⟩ := ownsRow_succ hown'
            have H9 := Lib.hid (⟨hN7, hB7⟩ : _ ∧ _)
            clear hB7 hN7 hown' hg7
            gi_wp2_with fail
            go_roundw
            case rel => exact ⟨j + 1, by omega, by go_num, H9.out⟩
            case measure => simp [intOf]; omega
          · obtain rfl : j = n := by omega
            have hfin : StrsAt w.heap.size wr (.slice oa j oc) (combL m T L) := by
              have h := row_base hout (show w.heap.size ≤ W.heap.size from HI.out.2.1.size)
              rw [HI.out.2.2.2.2.2, HI.out.2.2.2.2.1] at h
              have hlen : (combL m T L).length = j := by rw [← HI.out.2.2.2.2.1, ← HI.out.2.2.2.2.2]; exact hol
              rw [hlen] at h
              unfold StrsAt
              rw [hlen]
              exact h
            have hB9 : Below w.heap.size w wr := HI.out.2.1.trans (hB.mono HI.out.2.1.size)
            have hmk9 : Marks w3.heap.size top ds wr := HI.out.1.kept fun k _ _ h => (hB.block k (Array.getElem?_eq_some_iff.1 h).1).trans h
            have H9 := Lib.hid (⟨hfin, hB9, hmk9⟩ : _ ∧ _ ∧ _)
            have hw3 : w.heap.size ≤ w3.heap.size := H3.out.2.1.size
            clear hout hB hfin hB9 hmk9
            gi_wp2_with fail
            exact marks_leave (B := w3.heap.size) (fun W' => StrsAt w.heap.size W' (.slice oa j oc) (combL m T L) ∧ Below w.heap.size w W')
              (fun W' r h hr hK => ⟨ownsRow_putObj h.1 _ hK rfl, h.2.trans (belowK_b (w := w) (Nat.le_refl _) W' r _ _ (by omega) hK rfl rfl)⟩)
              (fun W' h => ⟨_, results_tmp2 rfl _ _ _, _, rfl, h.1, h.2⟩) ds top wr H9.out.2.2 ⟨H9.out.1, H9.out.2.1⟩
  · rw [if_neg h0]
    obtain ⟨er, her⟩ : ∃ er, er = listErr T L := ⟨_, rfl⟩
    rw [← her] at hck h0 ⊢
    have n0 : (er != 0) = true := by simpa using h0
    clear her h hF hTb hLl h0
    go_enter Tryz.func9, Tryz.ntmps9
    go_wp2_with fail
    refine hck.mono ?_
    rintro e w2 ⟨rfl, hB2⟩
    have HB2 := Lib.hid hB2
    clear hck hB2
    go_wp2_with fail
    go_ret2
    exact ⟨_, rfl, World.ownsRow_nil _ _ _ _, HB2.out⟩
end Go.Proofs.YtgnkihiibednoaaGreatDoor
