/- The walk of FaultsRespond: it returns true, and turns nothing that was there. -/
import Derived.Test.YtgnkihiibednoaaGreatDoorFrZ
namespace Go.Proofs.YtgnkihiibednoaaGreatDoor
open Go.RowKit

theorem seqEqual_same (S : List (List UInt8)) (hz : S.length ≤ 1000) (B1 B2 : Nat) (v1 v2 : Value) (w : World) (h1 : StrsAt B1 w v1 S) (h2 : StrsAt B2 w v2 S) :
    Calls Tryz.prog 20 #[v1, v2] w fun e w' => e = .returned (.bool true) ∧ Below w.heap.size w w' := by
  have h := seqEqual_any S S ⟨hz, hz⟩ B1 B2 v1 v2 w h1 h2
  rw [decide_eq_true rfl] at h
  exact h
theorem strs_two {B : Nat} {w : World} {v : Value} {S : List (List UInt8)} (h : StrsAt B w v S) : ∃ a c, v = .slice a S.length c := by
  obtain ⟨a, c, e, -⟩ := strs_open h
  exact ⟨a, c, e⟩
theorem NetsB.at {B : Nat} {w : World} {v : Value} {l : List Int} (h : NetsB B w v l) : NetsAt w v l := by
  obtain ⟨a, c, rfl, h1, -, h2⟩ := h
  refine ⟨a, c, rfl, h1, fun h0 => ?_⟩
  obtain ⟨g, o, rfl, -, h3, h4⟩ := h2 h0
  exact ⟨g, o, rfl, h3, h4⟩
theorem NetsB.ran {B sb t K : Nat} {w w' : World} {v : Value} {l : List Int} (h : NetsB B w v l) (hr : Ran sb t K w w') (hB : sb < B) : NetsB B w' v l :=
  h.kept hr.1.size fun g h1 h2 _ => hr.1.block g h2 (fun e => by have := Option.some.inj e; omega)
theorem wpAny_join {P : Program} {md : Region.Mode} {ops : Array Oper} {Q : Exit → Act → World → Prop} {n : Nat} {l : Array Bool} {a : Act} {w : World} (n2 : Nat) (l2 : Array Bool) (J : Act → World → Prop)
    (rest : ∀ a w, J a w → wpAny P md ops Q n2 l2 a w) (first : (∀ l a w, l = l2 → J a w → wpAny P md ops Q n2 l a w) → wpAny P md ops Q n l a w) : wpAny P md ops Q n l a w :=
  first fun l a w hl hj => by
    subst hl
    exact rest a w hj
/-- What the law's own 'two' is behind so many faults. -/
def twoTo (T : List (List UInt8)) (L : List Flt) (i : Nat) : Int := if testErr T = 0 then fltsFirst (T.length : Int) (L.take i) else testErr T
theorem fltsFirst_snoc (n : Int) (f : Flt) : ∀ (L : List Flt), fltsFirst n (L ++ [f]) = if fltsFirst n L = 0 then fltErr n f else fltsFirst n L
  | [] => by
    show fltsFirst n [f] = if fltsFirst n [] = 0 then _ else _
    unfold fltsFirst
    simp only [fltsFirst]
    by_cases h : fltErr n f = 0
    · rw [if_pos h]; simp [h]
    · rw [if_neg h]; simp
  | x :: L => by
    have ih := fltsFirst_snoc n f L
    show fltsFirst n (x :: (L ++ [f])) = _
    unfold fltsFirst
    by_cases h : fltErr n x = 0
    · rw [if_pos h, if_pos h]; exact ih
    · rw [if_neg h, if_neg h, if_neg h]
theorem twoTo_zero (T : List (List UInt8)) (L : List Flt) : twoTo T L 0 = testErr T := by
  unfold twoTo
  by_cases h : testErr T = 0
  · rw [if_pos h, h]; rfl
  · rw [if_neg h]
theorem twoTo_succ (T : List (List UInt8)) (L : List Flt) (i : Nat) (hi : i < L.length) : twoTo T L (i + 1) = if twoTo T L i = 0 then fltErr (T.length : Int) (L.getD i (0, [])) else twoTo T L i := by
  unfold twoTo
  by_cases h : testErr T = 0
  · rw [if_pos h, if_pos h, List.take_succ_eq_append_getElem hi, fltsFirst_snoc]
    have e : L.getD i (0, []) = L[i] := by simp [hi]
    rw [e]
  · rw [if_neg h, if_neg h, if_neg h]
theorem twoTo_all (T : List (List UInt8)) (L : List Flt) (hz : L.length ≤ 20000) : twoTo T L L.length = listErr T L := by
  unfold twoTo listErr fltsErr
  rw [List.take_length, if_neg (show ¬ 20000 < L.length by omega)]

set_option maxHeartbeats 6000000 in
set_option maxRecDepth 100000 in
theorem frlaw_any (a0 : Option Addr) (len cap : Nat) (w : World) (h : RowIn w a0 len) :
    Calls Tryz.prog 3 #[.slice a0 len cap] w fun e w' => e = .returned (.bool true) ∧ Below w.heap.size w w' := by
  have hs := Strm.start (cap := cap) h
  obtain ⟨W0, hW0⟩ : ∃ W0 : World, w.alloc (.cells #[.slice a0 len cap, .int .i64 0] 25) = W0 := ⟨_, rfl⟩
  rw [hW0] at hs
  have hB0 : Below w.heap.size w W0 := by rw [← hW0]; exact (Below.refl _ w).alloc (Nat.le_refl _) _
  have hsz0 : w.heap.size < W0.heap.size := hs.lt
  have HB0 := Lib.hid hB0
  clear h hB0
  go_enter Tryz.func3, Tryz.ntmps3
  go_wp2_with fail
  have HW0 := Lib.hid hW0
  clear hW0
  refine (atest_any w.heap.size 0 W0 hs (by omega)).mono ?_
  rintro e w1 ⟨v1, rfl, T, hT, hl, hz, hr1⟩
  obtain ⟨t1, ht1, ht1', hs1⟩ := hr1.strm
  obtain ⟨a1, c1, rfl⟩ := strs_two hT
  have H1 := Lib.hid (⟨hT, hl, hz, hr1⟩ : _ ∧ _ ∧ _ ∧ _)
  have hpk := pick_any w.heap.size t1 w1.heap.size 0 7 7 (fun k => ([(T.length : Int), (T.length : Int), (T.length : Int), 3, 0, 100, 101] : List Int).getD k 0) _ (hs1.alloc (.cells (([(T.length : Int), (T.length : Int), (T.length : Int), 3, 0, 100, 101] : List Int).map (Value.int .i64)).toArray 3)) (by omega) (by decide) (by decide) (by have := hs1.lt; omega) (ints_fresh w1 [(T.length : Int), (T.length : Int), (T.length : Int), 3, 0, 100, 101] 3)
  clear hT hl hz hr1 hs
  go_wp2_with fail
  refine hpk.mono ?_
  rintro e w2 ⟨⟨kk, hkk, rfl⟩, hr2'⟩
  have hr2 := hr2'.after_alloc
  dsimp only
  obtain ⟨nets, hnets⟩ : ∃ x, x = ([(T.length : Int), (T.length : Int), (T.length : Int), 3, 0, 100, 101] : List Int).getD kk 0 := ⟨_, rfl⟩
  rw [← hnets]
  clear hnets hpk hr2' hkk
  have hr12 : Ran w.heap.size 0 61 W0 w2 := H1.out.2.2.2.then ht1 ht1' hr2
  have hT2 := row_ran H1.out.1 hr2 hsz0
  obtain ⟨t2, ht2, ht2', hs2⟩ := hr12.strm
  have hl5 : T.length ≤ 5 := H1.out.2.1
  have H2 := Lib.hid (⟨hT2, hr12⟩ : StrsAt W0.heap.size w2 (.slice a1 T.length c1) T ∧ _)
  have hlt2 := hs2.lt
  clear hr2 hr12 hT2 hs1 ht1 ht1'
  go_wp2_with fail
  refine (afault_any w.heap.size t2 T.length w2 hs2 (by omega) (by omega)).mono ?_
  rintro e w3 ⟨k, nv, l, rfl, hl7, hN3, hr3⟩
  have hr13 : Ran w.heap.size 0 261 W0 w3 := H2.out.2.then ht2 ht2' hr3
  have hT3 := row_ran H2.out.1 hr3 hsz0
  obtain ⟨t3, ht3, ht3', hs3⟩ := hr13.strm
  have H3 := Lib.hid (⟨hT3, hr13, hN3⟩ : StrsAt W0.heap.size w3 (.slice a1 T.length c1) T ∧ _ ∧ _)
  have hlt3 := hs3.lt
  clear hr3 hr13 hT3 hN3 hs2 ht2 ht2'
  go_wp2_with fail
  refine (flist_any w.heap.size t3 T.length w3 hs3 (by omega) (by omega)).mono ?_
  rintro e w4 ⟨v4, L, rfl, hL6, hL7, hF4, hr4⟩
  have hr14 : Ran w.heap.size 0 2000 W0 w4 := (H3.out.2.1.then ht3 ht3' hr4).mono (by omega)
  have hT4 := row_ran H3.out.1 hr4 hsz0
  have hN4 := H3.out.2.2.ran hr4 hlt2
  obtain ⟨a4, c4, rfl⟩ := hF4.own.open
  obtain ⟨na, nc, rfl, -⟩ := hN4.at
  obtain ⟨W5, hW5⟩ : ∃ W5 : World, W5 = w4.alloc (.cells #[.int .i64 k, .slice na l.length nc] 30) := ⟨_, rfl⟩
  have hB5 : Below w4.heap.size w4 W5 := by rw [hW5]; exact (Below.refl _ _).alloc (Nat.le_refl _) _
  have hA : Below w.heap.size w W5 := (HB0.out.trans (hr14.below (by omega))).trans (hB5.mono (by have := (HB0.out.trans (hr14.below (by omega))).size; omega))
  have hb5 : FBox W5 w4.heap.size k (.slice na l.length nc) := by rw [hW5]; exact World.alloc_heap_new w4 _
  have R1 := Lib.hid (show StrsAt W0.heap.size W5 (.slice a1 T.length c1) T from row_later hT4 hB5)
  have RN := Lib.hid (hN4.at.later hB5)
  have RF := Lib.hid (hF4.own.at.later hB5)
  have RB := Lib.hid hb5
  have HW5 := Lib.hid hW5
  have hTz : T.length ≤ 1000000 := by omega
  have hTb : ∀ k, k < T.length → (T.getD k []).length ≤ 1000000 := fun k hk => by have := H1.out.2.2.1 k hk; omega
  have hLb : ∀ i, i < L.length → (L.getD i (0, [])).2.length ≤ 1000 := fun i hi => by have := hL7 i hi; omega
  obtain ⟨E, hE⟩ : ∃ E, E = testErr T := ⟨_, rfl⟩
  obtain ⟨A, hA1⟩ : ∃ A, A = listErr T [(k, l)] := ⟨_, rfl⟩
  obtain ⟨C, hC1⟩ : ∃ C, C = listErr T L := ⟨_, rfl⟩
  obtain ⟨RR, hRR⟩ : ∃ R, R = if listErr T [(k, l)] = 0 then respL T (k, l) (T.getD 0 []).length else [] := ⟨_, rfl⟩
  obtain ⟨RC, hRC⟩ : ∃ R, R = if listErr T L = 0 then combL (T.getD 0 []).length T L else [] := ⟨_, rfl⟩
  obtain ⟨FF, hFF⟩ : ∃ x : Int, x = if listErr T [(k, l)] = 0 then (firstN T (k, l) (T.getD 0 []).length : Int) else 0 := ⟨_, rfl⟩
  obtain ⟨DD, hDD⟩ : ∃ x : Bool, x = if listErr T [(k, l)] = 0 then anyN T (k, l) (T.getD 0 []).length else false := ⟨_, rfl⟩
  have HC1 : ∀ W, StrsAt W0.heap.size W (.slice a1 T.length c1) T → NetsAt W (.slice na l.length nc) l → Calls Tryz.prog 8 #[.slice a1 T.length c1, .agg #[.int .i64 k, .slice na l.length nc]] W fun e w' => (∃ v', e = .returned (.tuple #[v', .int .i64 A]) ∧ StrsAt W.heap.size w' v' RR) ∧ Below W.heap.size W w' := fun W h hN => by
    rw [hA1, hRR]
    refine (flResponse_any combined_any T hTz hTb k l (by omega) _ W _ _ h hN).mono ?_
    rintro e w' ⟨v', h1, h2, h3⟩
    exact ⟨⟨v', h1, h2⟩, h3⟩
  have HC2 : ∀ W, StrsAt W0.heap.size W (.slice a1 T.length c1) T → FltsAt W (.slice a4 L.length c4) L → Calls Tryz.prog 9 #[.slice a1 T.length c1, .slice a4 L.length c4] W fun e w' => (∃ v', e = .returned (.tuple #[v', .int .i64 C]) ∧ StrsAt W.heap.size w' v' RC) ∧ Below W.heap.size W w' := fun W h hF => by
    rw [hC1, hRC]
    refine (combined_any T hTz hTb L (by omega) hLb _ W _ _ h hF).mono ?_
    rintro e w' ⟨v', h1, h2, h3⟩
    exact ⟨⟨v', h1, h2⟩, h3⟩
  have HC3 : ∀ W, StrsAt W0.heap.size W (.slice a1 T.length c1) T → NetsAt W (.slice na l.length nc) l → Calls Tryz.prog 10 #[.slice a1 T.length c1, .agg #[.int .i64 k, .slice na l.length nc]] W fun e w' => e = .returned (.tuple #[.bool DD, .int .i64 A]) ∧ Below W.heap.size W w' := fun W h hN => by
    rw [hA1, hDD]
    exact flDetects_any T hTz hTb k l (by omega) _ W _ _ h hN
  have HC4 : ∀ W, StrsAt W0.heap.size W (.slice a1 T.length c1) T → NetsAt W (.slice na l.length nc) l → Calls Tryz.prog 11 #[.slice a1 T.length c1, .agg #[.int .i64 k, .slice na l.length nc]] W fun e w' => e = .returned (.tuple #[.int .i64 FF, .bool DD, .int .i64 A]) ∧ Below W.heap.size W w' := fun W h hN => by
    rw [hA1, hDD, hFF]
    exact flFirst_any T hTz hTb k l (by omega) _ W _ _ h hN
  have HC5 : ∀ W, StrsAt W0.heap.size W (.slice a1 T.length c1) T → NetsAt W (.slice na l.length nc) l → Calls Tryz.prog 12 #[.slice a1 T.length c1, .slice (some ⟨W.heap.size, 0, none⟩) 1 1] (W.alloc (.cells #[.int .i64 k, .slice na l.length nc] 30)) fun e w' => e = .returned (.int .i64 A) ∧ Below W.heap.size W w' := fun W h hN => by
    rw [hA1]
    have hBa : Below W.heap.size W (W.alloc (.cells #[.int .i64 k, .slice na l.length nc] 30)) := (Below.refl _ _).alloc (Nat.le_refl _) _
    refine (listFault_any T hTz hTb [(k, l)] (by simp) (fun i hi => by
      have : i = 0 := by simpa using hi
      subst this
      show l.length ≤ 1000
      omega) _ _ _ _ (row_later h hBa) (flts_one hN)).mono ?_
    rintro e w' ⟨h1, h2⟩
    exact ⟨h1, hBa.trans (h2.mono hBa.size)⟩
  have HC6 : ∀ W, StrsAt W0.heap.size W (.slice a1 T.length c1) T → Calls Tryz.prog 13 #[.slice a1 T.length c1] W fun e w' => e = .returned (.int .i64 E) ∧ Below W.heap.size W w' := fun W h => by
    rw [hE]
    exact testFaultG_any T hTz hTb _ W _ h
  have HC7 : ∀ W, StrsAt W0.heap.size W (.slice a1 T.length c1) T → Calls Tryz.prog 18 #[.slice a1 T.length c1] W fun e w' => e = .returned (.int .i64 E) ∧ Below W.heap.size W w' := fun W h => by
    rw [hE]
    exact checkTestG_any T hTz hTb _ W _ h
  have HC := Lib.hid (⟨HC1, HC2, HC3, HC4, HC5, HC6, HC7⟩ : _ ∧ _ ∧ _ ∧ _ ∧ _ ∧ _ ∧ _)
  have HE := Lib.hid (⟨hE, hA1, hC1, hRR, hRC, hFF, hDD, hLb⟩ : _ ∧ _ ∧ _ ∧ _ ∧ _ ∧ _ ∧ _ ∧ _)
  clear HC1 HC2 HC3 HC4 HC5 HC6 HC7 hE hA1 hC1 hRR hRC hFF hDD hLb H1 H2 H3 hT4 hN4 hF4 hr4 hr14 hs3 hb5 hB5 hW5 hL7 HB0 HW0 hTb
  go_wp2_with fail
  rw [← HW5.out]
  have hc := HC.out.1 W5 R1.out RN.out
  refine hc.mono ?_
  rintro e x6 ⟨⟨v6, rfl, hS⟩, hB⟩
  clear hc
  replace hA := hA.trans (hB.mono hA.size)
  replace R1 := Lib.hid (row_later R1.out hB)
  replace RN := Lib.hid (NetsAt.later RN.out hB)
  replace RF := Lib.hid (FltsAt.later RF.out hB)
  replace RB := Lib.hid (FBox.kept RB.out (hB.block _ RB.out.lt))
  clear hB
  obtain ⟨a6, c6, rfl⟩ := strs_two hS
  have R6 := Lib.hid hS
  clear hS
  have hc := HC.out.2.1 x6 R1.out RF.out
  have fb0 := RB.out.c0
  have fb1 := RB.out.c1
  go_wp2_with fail
  refine hc.mono ?_
  rintro e x7 ⟨⟨v7, rfl, hS⟩, hB⟩
  clear hc fb0 fb1
  replace hA := hA.trans (hB.mono hA.size)
  replace R1 := Lib.hid (row_later R1.out hB)
  replace RN := Lib.hid (NetsAt.later RN.out hB)
  replace RF := Lib.hid (FltsAt.later RF.out hB)
  replace RB := Lib.hid (FBox.kept RB.out (hB.block _ RB.out.lt))
  replace R6 := Lib.hid (row_later R6.out hB)
  clear hB
  obtain ⟨a7, c7, rfl⟩ := strs_two hS
  have R7 := Lib.hid hS
  clear hS
  have hc := HC.out.2.2.1 x7 R1.out RN.out
  have fb0 := RB.out.c0
  have fb1 := RB.out.c1
  go_wp2_with fail
  refine hc.mono ?_
  rintro e x8 ⟨rfl, hB⟩
  clear hc fb0 fb1
  replace hA := hA.trans (hB.mono hA.size)
  replace R1 := Lib.hid (row_later R1.out hB)
  replace RN := Lib.hid (NetsAt.later RN.out hB)
  replace RF := Lib.hid (FltsAt.later RF.out hB)
  replace RB := Lib.hid (FBox.kept RB.out (hB.block _ RB.out.lt))
  replace R6 := Lib.hid (row_later R6.out hB)
  replace R7 := Lib.hid (row_later R7.out hB)
  clear hB
  have hc := HC.out.2.2.2.1 x8 R1.out RN.out
  have fb0 := RB.out.c0
  have fb1 := RB.out.c1
  go_wp2_with fail
  refine hc.mono ?_
  rintro e x9 ⟨rfl, hB⟩
  clear hc fb0 fb1
  replace hA := hA.trans (hB.mono hA.size)
  replace R1 := Lib.hid (row_later R1.out hB)
  replace RN := Lib.hid (NetsAt.later RN.out hB)
  replace RF := Lib.hid (FltsAt.later RF.out hB)
  replace RB := Lib.hid (FBox.kept RB.out (hB.block _ RB.out.lt))
  replace R6 := Lib.hid (row_later R6.out hB)
  replace R7 := Lib.hid (row_later R7.out hB)
  clear hB
  have hc := HC.out.2.2.2.2.1 x9 R1.out RN.out
  have fb0 := RB.out.c0
  have fb1 := RB.out.c1
  go_wp2_with fail
  refine hc.mono ?_
  rintro e x10 ⟨rfl, hB⟩
  clear hc fb0 fb1
  replace hA := hA.trans (hB.mono hA.size)
  replace R1 := Lib.hid (row_later R1.out hB)
  replace RN := Lib.hid (NetsAt.later RN.out hB)
  replace RF := Lib.hid (FltsAt.later RF.out hB)
  replace RB := Lib.hid (FBox.kept RB.out (hB.block _ RB.out.lt))
  replace R6 := Lib.hid (row_later R6.out hB)
  replace R7 := Lib.hid (row_later R7.out hB)
  clear hB
  have hc := HC.out.2.2.2.2.2.1 x10 R1.out
  have fb0 := RB.out.c0
  have fb1 := RB.out.c1
  go_wp2_with fail
  refine hc.mono ?_
  rintro e x11 ⟨rfl, hB⟩
  clear hc fb0 fb1
  replace hA := hA.trans (hB.mono hA.size)
  replace R1 := Lib.hid (row_later R1.out hB)
  replace RN := Lib.hid (NetsAt.later RN.out hB)
  replace RF := Lib.hid (FltsAt.later RF.out hB)
  replace RB := Lib.hid (FBox.kept RB.out (hB.block _ RB.out.lt))
  replace R6 := Lib.hid (row_later R6.out hB)
  replace R7 := Lib.hid (row_later R7.out hB)
  clear hB
  have HL := Lib.hid (⟨HE.out.1.trans (twoTo_zero T L).symm, twoTo_all T L (by omega)⟩ : _ ∧ _)
  go_wp2_with fail
  go_loopw [18, 80] (fun two ix wr => ∃ i : Nat, i ≤ L.length ∧ ix = .int .i64 (i : Int) ∧ two = .int .i64 (twoTo T L i) ∧ Below x11.heap.size x11 wr) (fun _ ix _ => L.length - (intOf ix).toNat)
  case atStart => exact ⟨0, Nat.zero_le _, rfl, by rw [HL.out.1], Below.refl _ _⟩
  case round =>
    obtain ⟨i, hi, rfl, rfl, hB⟩ := hrel
    by_cases hlt : i < L.length
    · obtain ⟨la', lc', he, hop⟩ := RF.out
      injection he with he1 he2 he3
      subst he1
      subst he3
      clear he2
      obtain ⟨g, rfl, hg, hcells⟩ := hop (by omega)
      obtain ⟨q1, yv, q2, hyN⟩ := hcells i hlt
      have b1 := (hB.cell (p := ⟨g, i * 2, none⟩) hg).trans q1
      have b2 := (hB.cell (p := ⟨g, i * 2 + 1, none⟩) hg).trans q2
      obtain ⟨f, hf⟩ : ∃ f, f = L.getD i (0, []) := ⟨_, rfl⟩
      have hsu := twoTo_succ T L i hlt
      have hfl := HE.out.2.2.2.2.2.2.2 i hlt
      rw [← hf] at hyN b1 hsu hfl
      obtain ⟨ya, yc, rfl, hyc, hyop⟩ := hyN.later hB
      obtain ⟨fk, fl⟩ := f
      dsimp only at b1 hyc hyop hsu hfl
      have hyN2 : NetsAt wr (.slice ya fl.length yc) fl := ⟨ya, yc, rfl, hyc, hyop⟩
      obtain ⟨W9, hW9⟩ : ∃ W9 : World, W9 = wr.alloc (.cells #[.int .i64 fk, .slice ya fl.length yc] 30) := ⟨_, rfl⟩
      have hB9 : Below wr.heap.size wr W9 := by rw [hW9]; exact (Below.refl _ _).alloc (Nat.le_refl _) _
      have hff := faultFault_any (T.length : Int) fk fl hfl W9 _ (hyN2.later hB9)
      have hBt : Below x11.heap.size x11 W9 := hB.trans (hB9.mono hB.size)
      have i0 : (0 : Int) ≤ (i : Int) := by omega
      have i1 : (i : Int) < (L.length : Int) := by omega
      obtain ⟨tw, htw⟩ : ∃ x, x = twoTo T L i := ⟨_, rfl⟩
      rw [← htw] at hsu ⊢
      have HS := Lib.hid (⟨hsu, hBt⟩ : _ ∧ _)
      have HW9 := Lib.hid hW9
      clear hf q1 q2 hyN hyN2 hyc hyop hcells hop hg hsu hBt hB hB9 hW9 htw hfl
      by_cases htz : tw = 0
      · subst htz
        go_wp2_with fail
        rw [← HW9.out]
        refine hff.mono ?_
        rintro e w9 ⟨rfl, hBx⟩
        have hBy := HS.out.2.trans (hBx.mono HS.out.2.size)
        have HY := Lib.hid (⟨by rw [HS.out.1]; simp, hBy⟩ : fltErr (T.length : Int) (fk, fl) = twoTo T L (i + 1) ∧ _)
        clear hBx hBy hff HW9
        go_wp2_with fail
        go_roundw
        case rel => exact ⟨i + 1, by omega, by go_num, by rw [HY.out.1], HY.out.2⟩
        case measure => simp [intOf]; omega
      · have hnz : (tw == 0) = false := by simpa using htz
        have HZ := Lib.hid htz
        have HY := Lib.hid (⟨by rw [HS.out.1, if_neg htz], by rw [← HW9.out]; exact HS.out.2⟩ : tw = twoTo T L (i + 1) ∧ Below x11.heap.size x11 (wr.alloc (.cells #[.int .i64 fk, .slice ya fl.length yc] 30)))
        clear hff htz
        go_wp2_with fail
        go_roundw
        case rel => exact ⟨i + 1, by omega, by go_num, by rw [HY.out.1], HY.out.2⟩
        case measure => simp [intOf]; omega
    · obtain rfl : i = L.length := by omega
      have htC : twoTo T L L.length = C := HL.out.2.trans HE.out.2.2.1.symm
      rw [htC]
      clear htC hi hlt HL
      replace hA := hA.trans (hB.mono hA.size)
      replace R1 := Lib.hid (row_later R1.out hB)
      replace RN := Lib.hid (NetsAt.later RN.out hB)
      replace RF := Lib.hid (FltsAt.later RF.out hB)
      replace RB := Lib.hid (FBox.kept RB.out (hB.block _ RB.out.lt))
      replace R6 := Lib.hid (row_later R6.out hB)
      replace R7 := Lib.hid (row_later R7.out hB)
      clear hB
      have hRl : RR.length ≤ 1000 := by
        rw [HE.out.2.2.2.1]
        split
        · rw [respL_len]; omega
        · simp
      have hRl2 : RC.length ≤ 1000 := by
        rw [HE.out.2.2.2.2.1]
        split
        · rename_i h
          have hr := listErr_right T L h
          rw [(combL_right T hr.1 L hr.2.1).len]
          omega
        · simp
      have hwr := hA.size
      go_upto_if 92 with (fail)
      go_cut [21, 23, 24] (fun v21 v23 v24 wx => (∃ a c, v21 = .slice a RR.length c ∧ StrsAt w.heap.size wx (.slice a RR.length c) RR) ∧ v23 = .int .i64 FF ∧ v24 = .bool DD ∧ Below wr.heap.size wr wx)
      case first =>
        have hT := Below.refl wr.heap.size wr
        by_cases h1 : A = 0
        · have hAr := listErr_right T [(k, l)] (HE.out.2.1.symm.trans h1)
          have hfr := hAr.2.1 (k, l) (by simp)
          have hRR := HE.out.2.2.2.1
          have hFF := HE.out.2.2.2.2.2.1
          have hDD := HE.out.2.2.2.2.2.2.1
          rw [if_pos (HE.out.2.1.symm.trans h1)] at hRR hFF hDD
          have HX := Lib.hid (⟨hAr.1, hfr, hRR, hFF, hDD⟩ : _ ∧ _ ∧ _ ∧ _ ∧ _)
          clear hAr hfr hRR hFF hDD
          subst h1
          have hRO : ∀ W, StrsAt W0.heap.size W (.slice a1 T.length c1) T → NetsAt W (.slice na l.length nc) l → Calls Tryz.prog 15 #[.slice a1 T.length c1, .agg #[.int .i64 k, .slice na l.length nc]] W fun e w' => (∃ v', e = .returned v' ∧ StrsAt W.heap.size w' v' RR) ∧ Below W.heap.size W w' := fun W h hN => by
            rw [HX.out.2.2.1]
            refine (responseOf_any T _ _ HX.out.1 (k, l) HX.out.2.1 _ W _ _ h hN).mono ?_
            rintro e w' ⟨v', q1, q2, q3⟩
            exact ⟨⟨v', q1, q2⟩, q3⟩
          have hFO : ∀ W, StrsAt W0.heap.size W (.slice a1 T.length c1) T → NetsAt W (.slice na l.length nc) l → Calls Tryz.prog 16 #[.slice a1 T.length c1, .agg #[.int .i64 k, .slice na l.length nc]] W fun e w' => e = .returned (.tuple #[.int .i64 FF, .bool DD]) ∧ Below W.heap.size W w' := fun W h hN => by
            rw [HX.out.2.2.2.1, HX.out.2.2.2.2]
            exact firstOf_any T _ _ HX.out.1 (k, l) HX.out.2.1 _ W _ _ h hN
          have HO := Lib.hid (⟨hRO, hFO⟩ : _ ∧ _)
          clear hRO hFO
          have hc := HO.out.1 wr R1.out RN.out
          have fb0 := RB.out.c0
          have fb1 := RB.out.c1
          go_wp2_with fail
          refine hc.mono ?_
          rintro e x21 ⟨⟨v8, rfl, hS⟩, hB⟩
          clear hc fb0 fb1
          replace hA := hA.trans (hB.mono hA.size)
          replace hT := hT.trans (hB.mono hT.size)
          replace R1 := Lib.hid (row_later R1.out hB)
          replace RN := Lib.hid (NetsAt.later RN.out hB)
          replace RF := Lib.hid (FltsAt.later RF.out hB)
          replace RB := Lib.hid (FBox.kept RB.out (hB.block _ RB.out.lt))
          replace R6 := Lib.hid (row_later R6.out hB)
          replace R7 := Lib.hid (row_later R7.out hB)
          clear hB
          obtain ⟨a8, c8, rfl⟩ := strs_two hS
          have R8 := Lib.hid hS
          clear hS
          have hc := HO.out.2 x21 R1.out RN.out
          have fb0 := RB.out.c0
          have fb1 := RB.out.c1
          go_wp2_with fail
          refine hc.mono ?_
          rintro e x22 ⟨rfl, hB⟩
          clear hc fb0 fb1
          replace hA := hA.trans (hB.mono hA.size)
          replace hT := hT.trans (hB.mono hT.size)
          replace R1 := Lib.hid (row_later R1.out hB)
          replace RN := Lib.hid (NetsAt.later RN.out hB)
          replace RF := Lib.hid (FltsAt.later RF.out hB)
          replace RB := Lib.hid (FBox.kept RB.out (hB.block _ RB.out.lt))
          replace R6 := Lib.hid (row_later R6.out hB)
          replace R7 := Lib.hid (row_later R7.out hB)
          replace R8 := Lib.hid (row_later R8.out hB)
          clear hB
          have hwx := hA.size
          go_wp2_with fail
          go_meet
          exact ⟨⟨_, _, rfl, row_base R8.out hwr⟩, rfl, rfl, hT⟩
        · have hRR := HE.out.2.2.2.1
          have hFF := HE.out.2.2.2.2.2.1
          have hDD := HE.out.2.2.2.2.2.2.1
          rw [if_neg (fun h => h1 (HE.out.2.1.trans h))] at hRR hFF hDD
          subst hFF
          subst hDD
          subst hRR
          have hz1 : (A == 0) = false := by simpa using h1
          clear h1
          go_wp2_with fail
          go_meet
          exact ⟨⟨none, 0, rfl, World.ownsRow_nil _ _ _ _⟩, rfl, rfl, hT⟩
      case rest =>
        obtain ⟨⟨a8, c8, rfl, hS⟩, rfl, rfl, hB⟩ := hcut
        obtain ⟨wy, rfl⟩ : ∃ x, x = wc := ⟨_, rfl⟩
        replace hA := hA.trans (hB.mono hA.size)
        replace R1 := Lib.hid (row_later R1.out hB)
        replace RN := Lib.hid (NetsAt.later RN.out hB)
        replace RF := Lib.hid (FltsAt.later RF.out hB)
        replace RB := Lib.hid (FBox.kept RB.out (hB.block _ RB.out.lt))
        replace R6 := Lib.hid (row_later R6.out hB)
        replace R7 := Lib.hid (row_later R7.out hB)
        clear hB
        have R8 := Lib.hid hS
        clear hS
        have hwr := hA.size
        go_upto_if 103 with (fail)
        go_cut [22] (fun v22 wx => (∃ a c, v22 = .slice a RC.length c ∧ StrsAt w.heap.size wx (.slice a RC.length c) RC) ∧ Below wy.heap.size wy wx)
        case first =>
          have hT := Below.refl wy.heap.size wy
          by_cases h2 : C = 0
          · have hCr := listErr_right T L (HE.out.2.2.1.symm.trans h2)
            have hRC := HE.out.2.2.2.2.1
            rw [if_pos (HE.out.2.2.1.symm.trans h2)] at hRC
            have HX2 := Lib.hid (⟨hCr.1, hCr.2.1, hRC⟩ : _ ∧ _ ∧ _)
            clear hCr hRC
            subst h2
            have hCO : ∀ W, StrsAt W0.heap.size W (.slice a1 T.length c1) T → FltsAt W (.slice a4 L.length c4) L → Calls Tryz.prog 17 #[.slice a1 T.length c1, .slice a4 L.length c4] W fun e w' => (∃ v', e = .returned v' ∧ StrsAt W.heap.size w' v' RC) ∧ Below W.heap.size W w' := fun W h hN => by
              rw [HX2.out.2.2]
              refine (combinedOf_any T _ _ HX2.out.1 L HX2.out.2.1 (by omega) _ W _ _ h hN).mono ?_
              rintro e w' ⟨v', q1, q2, q3⟩
              exact ⟨⟨v', q1, q2⟩, q3⟩
            have HO2 := Lib.hid hCO
            clear hCO
            have hc := HO2.out wy R1.out RF.out
            have fb0 := RB.out.c0
            have fb1 := RB.out.c1
            go_wp2_with fail
            refine hc.mono ?_
            rintro e x31 ⟨⟨v9, rfl, hS⟩, hB⟩
            clear hc fb0 fb1
            replace hA := hA.trans (hB.mono hA.size)
            replace hT := hT.trans (hB.mono hT.size)
            replace R1 := Lib.hid (row_later R1.out hB)
            replace RN := Lib.hid (NetsAt.later RN.out hB)
            replace RF := Lib.hid (FltsAt.later RF.out hB)
            replace RB := Lib.hid (FBox.kept RB.out (hB.block _ RB.out.lt))
            replace R6 := Lib.hid (row_later R6.out hB)
            replace R7 := Lib.hid (row_later R7.out hB)
            replace R8 := Lib.hid (row_later R8.out hB)
            clear hB
            obtain ⟨a9, c9, rfl⟩ := strs_two hS
            have R9 := Lib.hid hS
            clear hS
            go_wp2_with fail
            go_meet
            exact ⟨⟨_, _, rfl, row_base R9.out hwr⟩, hT⟩
          · have hRC := HE.out.2.2.2.2.1
            rw [if_neg (fun h => h2 (HE.out.2.2.1.trans h))] at hRC
            subst hRC
            have hz2 : (C == 0) = false := by simpa using h2
            clear h2
            go_wp2_with fail
            go_meet
            exact ⟨⟨none, 0, rfl, World.ownsRow_nil _ _ _ _⟩, hT⟩
        case rest =>
          obtain ⟨⟨a9, c9, rfl, hS⟩, hB⟩ := hcut
          obtain ⟨wz, rfl⟩ : ∃ x, x = wc := ⟨_, rfl⟩
          replace hA := hA.trans (hB.mono hA.size)
          replace R1 := Lib.hid (row_later R1.out hB)
          replace RN := Lib.hid (NetsAt.later RN.out hB)
          replace RF := Lib.hid (FltsAt.later RF.out hB)
          replace RB := Lib.hid (FBox.kept RB.out (hB.block _ RB.out.lt))
          replace R6 := Lib.hid (row_later R6.out hB)
          replace R7 := Lib.hid (row_later R7.out hB)
          replace R8 := Lib.hid (row_later R8.out hB)
          clear hB
          have R9 := Lib.hid hS
          clear hS
          have fb0 := RB.out.c0
          have fb1 := RB.out.c1
          go_wp2_with fail
          refine wp_region_any (by kernel_rfl) ?_
          change wpAny _ _ _ _ _ _ _ (World.drew _)
          have hB : Below wz.heap.size wz wz.drew := (Below.refl _ _).drew
          replace hA := hA.trans (hB.mono hA.size)
          replace R1 := Lib.hid (row_later R1.out hB)
          replace RN := Lib.hid (NetsAt.later RN.out hB)
          replace RF := Lib.hid (FltsAt.later RF.out hB)
          replace RB := Lib.hid (FBox.kept RB.out (hB.block _ RB.out.lt))
          replace R6 := Lib.hid (row_later R6.out hB)
          replace R7 := Lib.hid (row_later R7.out hB)
          replace R8 := Lib.hid (row_later R8.out hB)
          replace R9 := Lib.hid (row_later R9.out hB)
          clear hB
          refine wpAny_join 51 #[true, true, true, true, true, true, true, true, true, true, true, true, false, false, false, false, false, false, false, false, false, false, false, false, false, false, false, false, false, false, false, false, false, false, false, false, false, false, false, false, false, false, false, false, false, false, false, false, false, false, false, false, false, false, false, false, false, false, false, false, false, false, false] (fun a W => a = ({ tmps := List.toArray (.slice a0 len cap :: undef :: .bool false :: .pointer (some ⟨w.heap.size, 0, none⟩) :: .slice a1 T.length c1 :: .int .i64 nets :: .pointer (some ⟨w4.heap.size, 0, none⟩) :: .slice a4 L.length c4 :: .slice a6 RR.length c6 :: .int .i64 A :: .slice a7 RC.length c7 :: .int .i64 C :: .bool DD :: .int .i64 A :: .int .i64 FF :: .bool DD :: .int .i64 A :: .int .i64 A :: .int .i64 C :: undef :: u20 :: .slice a8 RR.length c8 :: .slice a9 RC.length c9 :: .int .i64 FF :: .bool DD :: u25 :: u26 :: u27 :: u28 :: u29 :: u30 :: u31 :: u32 :: u33 :: u34 :: u35 :: u36 :: u37 :: u38 :: u39 :: u40 :: u41 :: u42 :: u43 :: u44 :: u45 :: u46 :: u47 :: u48 :: u49 :: u50 :: u51 :: u52 :: u53 :: u54 :: u55 :: u56 :: u57 :: u58 :: u59 :: u60 :: u61 :: u62 :: u63 :: u64 :: u65 :: u66 :: u67 :: u68 :: u69 :: u70 :: u71 :: u72 :: u73 :: u74 :: u75 :: u76 :: u77 :: .slice a4 L.length c4 :: .int .i64 (L.length : Int) :: .int .i64 (L.length : Int) :: u81 :: u82 :: u83 :: u84 :: u85 :: u86 :: u87 :: u88 :: u89 :: u90 :: u91 :: u92 :: u93 :: u94 :: u95 :: u96 :: u97 :: u98 :: u99 :: u100 :: u101 :: u102 :: u103 :: u104 :: u105 :: u106 :: .slice a1 T.length c1 :: .int .i64 E :: .slice a1 T.length c1 :: .int .i64 E :: .bool true :: .bool true :: .int .i64 nets :: .agg #[.int .i64 k, .slice na l.length nc] :: .int .i64 (fltErr nets (k, l)) :: .int .i64 nets :: .agg #[.int .i64 k, .slice na l.length nc] :: .int .i64 (fltErr nets (k, l)) :: u119 :: u120 :: u121 :: u122 :: u123 :: u124 :: u125 :: u126 :: u127 :: u128 :: u129 :: u130 :: u131 :: u132 :: u133 :: u134 :: u135 :: u136 :: u137 :: u138 :: u139 :: u140 :: u141 :: u142 :: u143 :: u144 :: u145 :: u146 :: u147 :: u148 :: u149 :: u150 :: u151 :: u152 :: u153 :: u154 :: u155 :: u156 :: u157 :: u158 :: u159 :: u160 :: u161 :: u162 :: u163 :: u164 :: u165 :: u166 :: u167 :: u168 :: []), defers := [] } : Act) ∧ Below w.heap.size w W ∧ (∃ B, StrsAt B W (.slice a6 RR.length c6) RR) ∧ (∃ B, StrsAt B W (.slice a8 RR.length c8) RR) ∧ (∃ B, StrsAt B W (.slice a7 RC.length c7) RC) ∧ (∃ B, StrsAt B W (.slice a9 RC.length c9) RC)) ?rest ?first
          case first =>
            intro hJ
            refine wpAny_take (i := 0) (v := ?_) rfl (by kernel_rfl) (by kernel_rfl) (by kernel_rfl) (fun _ _ _ h => h) (Or.inl ⟨by rfl, ?_⟩) ?_
            rotate_left
            focus (intro w; go_simp; first | done | with_reducible rfl)
            refine wpAny_take (i := 2) (v := ?_) rfl (by kernel_rfl) (by kernel_rfl) (by kernel_rfl) (fun _ _ _ h => h) (Or.inl ⟨by rfl, ?_⟩) ?_
            rotate_left
            focus (intro w; go_simp; first | done | with_reducible rfl)
            refine wpAny_ready (rs := [1]) (by kernel_rfl) (by simp) (AllReady.cons rfl (fun K hK => ?_) AllReady.nil)
            go_simp
            go_at_call 18
            refine (HC.out.2.2.2.2.2.2 (wz.drew) R1.out).mono ?_
            rintro e y1 ⟨rfl, hB⟩
            replace hA := hA.trans (hB.mono hA.size)
            replace R1 := Lib.hid (row_later R1.out hB)
            replace RN := Lib.hid (NetsAt.later RN.out hB)
            replace RF := Lib.hid (FltsAt.later RF.out hB)
            replace RB := Lib.hid (FBox.kept RB.out (hB.block _ RB.out.lt))
            replace R6 := Lib.hid (row_later R6.out hB)
            replace R7 := Lib.hid (row_later R7.out hB)
            replace R8 := Lib.hid (row_later R8.out hB)
            replace R9 := Lib.hid (row_later R9.out hB)
            clear hB
            have fb0 := RB.out.c0
            have fb1 := RB.out.c1
            refine hK _ _ ?_
            clear hK K
            refine wpAny_ready (rs := [3]) (by kernel_rfl) (by simp) (AllReady.cons rfl (fun K hK => ?_) AllReady.nil)
            go_simp
            go_at_call 13
            refine (HC.out.2.2.2.2.2.1 (y1) R1.out).mono ?_
            rintro e y2 ⟨rfl, hB⟩
            replace hA := hA.trans (hB.mono hA.size)
            replace R1 := Lib.hid (row_later R1.out hB)
            replace RN := Lib.hid (NetsAt.later RN.out hB)
            replace RF := Lib.hid (FltsAt.later RF.out hB)
            replace RB := Lib.hid (FBox.kept RB.out (hB.block _ RB.out.lt))
            replace R6 := Lib.hid (row_later R6.out hB)
            replace R7 := Lib.hid (row_later R7.out hB)
            replace R8 := Lib.hid (row_later R8.out hB)
            replace R9 := Lib.hid (row_later R9.out hB)
            clear hB
            have fb0 := RB.out.c0
            have fb1 := RB.out.c1
            refine hK _ _ ?_
            clear hK K
            refine wpAny_take (i := 4) (v := ?_) rfl (by kernel_rfl) (by kernel_rfl) (by kernel_rfl) (fun _ _ _ h => h) (Or.inl ⟨by rfl, ?_⟩) ?_
            rotate_left
            focus (intro w; go_simp; first | done | with_reducible rfl)
            refine wpAny_take (i := 5) (v := ?_) rfl (by kernel_rfl) (by kernel_rfl) (by kernel_rfl) (fun _ _ _ h => h) (Or.inl ⟨by rfl, ?_⟩) ?_
            rotate_left
            focus (intro w; go_simp; first | done | with_reducible rfl)
            refine wpAny_take (i := 6) (v := ?_) rfl (by kernel_rfl) (by kernel_rfl) (by kernel_rfl) (fun _ _ _ h => h) (Or.inl ⟨by rfl, ?_⟩) ?_
            rotate_left
            focus (intro w; go_simp; first | done | with_reducible rfl)
            go_simp
            refine wpAny_take (i := 9) (v := ?_) rfl (by kernel_rfl) (by kernel_rfl) (by kernel_rfl) (fun _ _ _ h => h) (Or.inl ⟨by rfl, ?_⟩) ?_
            rotate_left
            focus (intro w; go_simp; first | done | with_reducible rfl)
            refine wpAny_ready (rs := [7, 10]) (by kernel_rfl) (by simp) (AllReady.cons rfl (fun K hK => ?_) (AllReady.cons rfl (fun K hK => ?_) AllReady.nil))
            ·
              (go_simp; refine hK _ _ ?_; clear hK K)
              refine wpAny_ready (rs := [8, 10]) (by kernel_rfl) (by simp) (AllReady.cons rfl (fun K hK => ?_) (AllReady.cons rfl (fun K hK => ?_) AllReady.nil))
              ·
                go_simp
                go_at_call 19
                refine (checkFault_any nets k l (by omega) (y2) _ RN.out).mono ?_
                rintro e y3 ⟨rfl, hB⟩
                replace hA := hA.trans (hB.mono hA.size)
                replace R1 := Lib.hid (row_later R1.out hB)
                replace RN := Lib.hid (NetsAt.later RN.out hB)
                replace RF := Lib.hid (FltsAt.later RF.out hB)
                replace RB := Lib.hid (FBox.kept RB.out (hB.block _ RB.out.lt))
                replace R6 := Lib.hid (row_later R6.out hB)
                replace R7 := Lib.hid (row_later R7.out hB)
                replace R8 := Lib.hid (row_later R8.out hB)
                replace R9 := Lib.hid (row_later R9.out hB)
                clear hB
                have fb0 := RB.out.c0
                have fb1 := RB.out.c1
                refine hK _ _ ?_
                clear hK K
                refine wpAny_ready (rs := [10]) (by kernel_rfl) (by simp) (AllReady.cons rfl (fun K hK => ?_) AllReady.nil)
                (go_simp; refine hK _ _ ?_; clear hK K)
                refine wpAny_ready (rs := [11]) (by kernel_rfl) (by simp) (AllReady.cons rfl (fun K hK => ?_) AllReady.nil)
                go_simp
                go_at_call 14
                refine (faultFault_any nets k l (by omega) (y3) _ RN.out).mono ?_
                rintro e y4 ⟨rfl, hB⟩
                replace hA := hA.trans (hB.mono hA.size)
                replace R1 := Lib.hid (row_later R1.out hB)
                replace RN := Lib.hid (NetsAt.later RN.out hB)
                replace RF := Lib.hid (FltsAt.later RF.out hB)
                replace RB := Lib.hid (FBox.kept RB.out (hB.block _ RB.out.lt))
                replace R6 := Lib.hid (row_later R6.out hB)
                replace R7 := Lib.hid (row_later R7.out hB)
                replace R8 := Lib.hid (row_later R8.out hB)
                replace R9 := Lib.hid (row_later R9.out hB)
                clear hB
                refine hK _ _ ?_
                clear hK K
                exact hJ _ _ _ (by kernel_rfl) ⟨rfl, hA, ⟨_, R6.out⟩, ⟨_, R8.out⟩, ⟨_, R7.out⟩, ⟨_, R9.out⟩⟩
              ·
                (go_simp; refine hK _ _ ?_; clear hK K)
                refine wpAny_ready (rs := [8]) (by kernel_rfl) (by simp) (AllReady.cons rfl (fun K hK => ?_) AllReady.nil)
                go_simp
                go_at_call 19
                refine (checkFault_any nets k l (by omega) (y2) _ RN.out).mono ?_
                rintro e y3 ⟨rfl, hB⟩
                replace hA := hA.trans (hB.mono hA.size)
                replace R1 := Lib.hid (row_later R1.out hB)
                replace RN := Lib.hid (NetsAt.later RN.out hB)
                replace RF := Lib.hid (FltsAt.later RF.out hB)
                replace RB := Lib.hid (FBox.kept RB.out (hB.block _ RB.out.lt))
                replace R6 := Lib.hid (row_later R6.out hB)
                replace R7 := Lib.hid (row_later R7.out hB)
                replace R8 := Lib.hid (row_later R8.out hB)
                replace R9 := Lib.hid (row_later R9.out hB)
                clear hB
                have fb0 := RB.out.c0
                have fb1 := RB.out.c1
                refine hK _ _ ?_
                clear hK K
                refine wpAny_ready (rs := [11]) (by kernel_rfl) (by simp) (AllReady.cons rfl (fun K hK => ?_) AllReady.nil)
                go_simp
                go_at_call 14
                refine (faultFault_any nets k l (by omega) (y3) _ RN.out).mono ?_
                rintro e y4 ⟨rfl, hB⟩
                replace hA := hA.trans (hB.mono hA.size)
                replace R1 := Lib.hid (row_later R1.out hB)
                replace RN := Lib.hid (NetsAt.later RN.out hB)
                replace RF := Lib.hid (FltsAt.later RF.out hB)
                replace RB := Lib.hid (FBox.kept RB.out (hB.block _ RB.out.lt))
                replace R6 := Lib.hid (row_later R6.out hB)
                replace R7 := Lib.hid (row_later R7.out hB)
                replace R8 := Lib.hid (row_later R8.out hB)
                replace R9 := Lib.hid (row_later R9.out hB)
                clear hB
                refine hK _ _ ?_
                clear hK K
                exact hJ _ _ _ (by kernel_rfl) ⟨rfl, hA, ⟨_, R6.out⟩, ⟨_, R8.out⟩, ⟨_, R7.out⟩, ⟨_, R9.out⟩⟩
            ·
              (go_simp; refine hK _ _ ?_; clear hK K)
              refine wpAny_ready (rs := [7]) (by kernel_rfl) (by simp) (AllReady.cons rfl (fun K hK => ?_) AllReady.nil)
              (go_simp; refine hK _ _ ?_; clear hK K)
              refine wpAny_ready (rs := [8]) (by kernel_rfl) (by simp) (AllReady.cons rfl (fun K hK => ?_) AllReady.nil)
              go_simp
              go_at_call 19
              refine (checkFault_any nets k l (by omega) (y2) _ RN.out).mono ?_
              rintro e y3 ⟨rfl, hB⟩
              replace hA := hA.trans (hB.mono hA.size)
              replace R1 := Lib.hid (row_later R1.out hB)
              replace RN := Lib.hid (NetsAt.later RN.out hB)
              replace RF := Lib.hid (FltsAt.later RF.out hB)
              replace RB := Lib.hid (FBox.kept RB.out (hB.block _ RB.out.lt))
              replace R6 := Lib.hid (row_later R6.out hB)
              replace R7 := Lib.hid (row_later R7.out hB)
              replace R8 := Lib.hid (row_later R8.out hB)
              replace R9 := Lib.hid (row_later R9.out hB)
              clear hB
              have fb0 := RB.out.c0
              have fb1 := RB.out.c1
              refine hK _ _ ?_
              clear hK K
              refine wpAny_ready (rs := [11]) (by kernel_rfl) (by simp) (AllReady.cons rfl (fun K hK => ?_) AllReady.nil)
              go_simp
              go_at_call 14
              refine (faultFault_any nets k l (by omega) (y3) _ RN.out).mono ?_
              rintro e y4 ⟨rfl, hB⟩
              replace hA := hA.trans (hB.mono hA.size)
              replace R1 := Lib.hid (row_later R1.out hB)
              replace RN := Lib.hid (NetsAt.later RN.out hB)
              replace RF := Lib.hid (FltsAt.later RF.out hB)
              replace RB := Lib.hid (FBox.kept RB.out (hB.block _ RB.out.lt))
              replace R6 := Lib.hid (row_later R6.out hB)
              replace R7 := Lib.hid (row_later R7.out hB)
              replace R8 := Lib.hid (row_later R8.out hB)
              replace R9 := Lib.hid (row_later R9.out hB)
              clear hB
              refine hK _ _ ?_
              clear hK K
              exact hJ _ _ _ (by kernel_rfl) ⟨rfl, hA, ⟨_, R6.out⟩, ⟨_, R8.out⟩, ⟨_, R7.out⟩, ⟨_, R9.out⟩⟩
          case rest =>
            clear R1 RN RF RB R6 R7 R8 R9 fb0 fb1 hA
            rintro a W ⟨rfl, hA, ⟨B6, h6⟩, ⟨B8, h8⟩, ⟨B7, h7⟩, ⟨B9, h9⟩⟩
            have R6 := Lib.hid h6
            have R8 := Lib.hid h8
            have R7 := Lib.hid h7
            have R9 := Lib.hid h9
            clear h6 h8 h7 h9
            refine wpAny_take (i := 12) (v := ?_) rfl (by kernel_rfl) (by kernel_rfl) (by kernel_rfl) (fun _ _ _ h => h) (Or.inl ⟨by rfl, ?_⟩) ?_
            rotate_left
            focus (intro w; go_simp; first | done | with_reducible rfl)
            refine wpAny_take (i := 13) (v := ?_) rfl (by kernel_rfl) (by kernel_rfl) (by kernel_rfl) (fun _ _ _ h => h) (Or.inl ⟨by rfl, ?_⟩) ?_
            rotate_left
            focus (intro w; go_simp; first | done | with_reducible rfl)
            refine wpAny_take (i := 14) (v := ?_) rfl (by kernel_rfl) (by kernel_rfl) (by kernel_rfl) (fun _ _ _ h => h) (Or.inl ⟨by rfl, ?_⟩) ?_
            rotate_left
            focus (intro w; go_simp; first | done | with_reducible rfl)
            go_simp
            refine wpAny_take (i := 15) (v := ?_) rfl (by kernel_rfl) (by kernel_rfl) (by kernel_rfl) (fun _ _ _ h => h) (Or.inl ⟨by rfl, ?_⟩) ?_
            rotate_left
            focus (intro w; go_simp; first | done | with_reducible rfl)
            refine wpAny_take (i := 16) (v := ?_) rfl (by kernel_rfl) (by kernel_rfl) (by kernel_rfl) (fun _ _ _ h => h) (Or.inl ⟨by rfl, ?_⟩) ?_
            rotate_left
            focus (intro w; go_simp; first | done | with_reducible rfl)
            refine wpAny_take (i := 17) (v := ?_) rfl (by kernel_rfl) (by kernel_rfl) (by kernel_rfl) (fun _ _ _ h => h) (Or.inl ⟨by rfl, ?_⟩) ?_
            rotate_left
            focus (intro w; go_simp; first | done | with_reducible rfl)
            go_simp
            refine wpAny_take (i := 18) (v := ?_) rfl (by kernel_rfl) (by kernel_rfl) (by kernel_rfl) (fun _ _ _ h => h) (Or.inl ⟨by rfl, ?_⟩) ?_
            rotate_left
            focus (intro w; go_simp; first | done | with_reducible rfl)
            refine wpAny_take (i := 19) (v := ?_) rfl (by kernel_rfl) (by kernel_rfl) (by kernel_rfl) (fun _ _ _ h => h) (Or.inl ⟨by rfl, ?_⟩) ?_
            rotate_left
            focus (intro w; go_simp; first | done | with_reducible rfl)
            refine wpAny_take (i := 20) (v := ?_) rfl (by kernel_rfl) (by kernel_rfl) (by kernel_rfl) (fun _ _ _ h => h) (Or.inl ⟨by rfl, ?_⟩) ?_
            rotate_left
            focus (intro w; go_simp; first | done | with_reducible rfl)
            go_simp
            refine wpAny_take (i := 21) (v := ?_) rfl (by kernel_rfl) (by kernel_rfl) (by kernel_rfl) (fun _ _ _ h => h) (Or.inl ⟨by rfl, ?_⟩) ?_
            rotate_left
            focus (intro w; go_simp; first | done | with_reducible rfl)
            refine wpAny_ready (rs := [22]) (by kernel_rfl) (by simp) (AllReady.cons rfl (fun K hK => ?_) AllReady.nil)
            go_simp
            go_at_call 20
            refine (seqEqual_same RR hRl _ _ _ _ (W) R6.out R8.out).mono ?_
            rintro e z1 ⟨rfl, hB⟩
            replace hA := hA.trans (hB.mono hA.size)
            replace R6 := Lib.hid (row_later R6.out hB)
            replace R8 := Lib.hid (row_later R8.out hB)
            replace R7 := Lib.hid (row_later R7.out hB)
            replace R9 := Lib.hid (row_later R9.out hB)
            clear hB
            refine hK _ _ ?_
            clear hK K
            refine wpAny_take (i := 23) (v := ?_) rfl (by kernel_rfl) (by kernel_rfl) (by kernel_rfl) (fun _ _ _ h => h) (Or.inl ⟨by rfl, ?_⟩) ?_
            rotate_left
            focus (intro w; go_simp; first | done | with_reducible rfl)
            refine wpAny_take (i := 24) (v := ?_) rfl (by kernel_rfl) (by kernel_rfl) (by kernel_rfl) (fun _ _ _ h => h) (Or.inl ⟨by rfl, ?_⟩) ?_
            rotate_left
            focus (intro w; go_simp; first | done | with_reducible rfl)
            refine wpAny_take (i := 25) (v := ?_) rfl (by kernel_rfl) (by kernel_rfl) (by kernel_rfl) (fun _ _ _ h => h) (Or.inl ⟨by rfl, ?_⟩) ?_
            rotate_left
            focus (intro w; go_simp; first | done | with_reducible rfl)
            go_simp
            refine wpAny_take (i := 26) (v := ?_) rfl (by kernel_rfl) (by kernel_rfl) (by kernel_rfl) (fun _ _ _ h => h) (Or.inl ⟨by rfl, ?_⟩) ?_
            rotate_left
            focus (intro w; go_simp; first | done | with_reducible rfl)
            refine wpAny_take (i := 27) (v := ?_) rfl (by kernel_rfl) (by kernel_rfl) (by kernel_rfl) (fun _ _ _ h => h) (Or.inl ⟨by rfl, ?_⟩) ?_
            rotate_left
            focus (intro w; go_simp; first | done | with_reducible rfl)
            refine wpAny_take (i := 28) (v := ?_) rfl (by kernel_rfl) (by kernel_rfl) (by kernel_rfl) (fun _ _ _ h => h) (Or.inl ⟨by rfl, ?_⟩) ?_
            rotate_left
            focus (intro w; go_simp; first | done | with_reducible rfl)
            go_simp
            refine wpAny_take (i := 29) (v := ?_) rfl (by kernel_rfl) (by kernel_rfl) (by kernel_rfl) (fun _ _ _ h => h) (Or.inl ⟨by rfl, ?_⟩) ?_
            rotate_left
            focus (intro w; go_simp; first | done | with_reducible rfl)
            refine wpAny_take (i := 30) (v := ?_) rfl (by kernel_rfl) (by kernel_rfl) (by kernel_rfl) (fun _ _ _ h => h) (Or.inl ⟨by rfl, ?_⟩) ?_
            rotate_left
            focus (intro w; go_simp; first | done | with_reducible rfl)
            refine wpAny_take (i := 31) (v := ?_) rfl (by kernel_rfl) (by kernel_rfl) (by kernel_rfl) (fun _ _ _ h => h) (Or.inl ⟨by rfl, ?_⟩) ?_
            rotate_left
            focus (intro w; go_simp; first | done | with_reducible rfl)
            go_simp
            refine wpAny_ready (rs := [32]) (by kernel_rfl) (by simp) (AllReady.cons rfl (fun K hK => ?_) AllReady.nil)
            go_simp
            go_at_call 20
            refine (seqEqual_same RC hRl2 _ _ _ _ (z1) R7.out R9.out).mono ?_
            rintro e z2 ⟨rfl, hB⟩
            replace hA := hA.trans (hB.mono hA.size)
            replace R6 := Lib.hid (row_later R6.out hB)
            replace R8 := Lib.hid (row_later R8.out hB)
            replace R7 := Lib.hid (row_later R7.out hB)
            replace R9 := Lib.hid (row_later R9.out hB)
            clear hB
            refine hK _ _ ?_
            clear hK K
            refine wpAny_take (i := 33) (v := ?_) rfl (by kernel_rfl) (by kernel_rfl) (by kernel_rfl) (fun _ _ _ h => h) (Or.inl ⟨by rfl, ?_⟩) ?_
            rotate_left
            focus (intro w; go_simp; first | done | with_reducible rfl)
            refine wpAny_take (i := 34) (v := ?_) rfl (by kernel_rfl) (by kernel_rfl) (by kernel_rfl) (fun _ _ _ h => h) (Or.inl ⟨by rfl, ?_⟩) ?_
            rotate_left
            focus (intro w; go_simp; first | done | with_reducible rfl)
            refine wpAny_take (i := 35) (v := ?_) rfl (by kernel_rfl) (by kernel_rfl) (by kernel_rfl) (fun _ _ _ h => h) (Or.inl ⟨by rfl, ?_⟩) ?_
            rotate_left
            focus (intro w; go_simp; first | done | with_reducible rfl)
            go_simp
            refine wpAny_take (i := 36) (v := ?_) rfl (by kernel_rfl) (by kernel_rfl) (by kernel_rfl) (fun _ _ _ h => h) (Or.inl ⟨by rfl, ?_⟩) ?_
            rotate_left
            focus (intro w; go_simp; first | done | with_reducible rfl)
            refine wpAny_take (i := 37) (v := ?_) rfl (by kernel_rfl) (by kernel_rfl) (by kernel_rfl) (fun _ _ _ h => h) (Or.inl ⟨by rfl, ?_⟩) ?_
            rotate_left
            focus (intro w; go_simp; first | done | with_reducible rfl)
            refine wpAny_take (i := 38) (v := ?_) rfl (by kernel_rfl) (by kernel_rfl) (by kernel_rfl) (fun _ _ _ h => h) (Or.inl ⟨by rfl, ?_⟩) ?_
            rotate_left
            focus (intro w; go_simp; first | done | with_reducible rfl)
            go_simp
            refine wpAny_take (i := 39) (v := ?_) rfl (by kernel_rfl) (by kernel_rfl) (by kernel_rfl) (fun _ _ _ h => h) (Or.inl ⟨by rfl, ?_⟩) ?_
            rotate_left
            focus (intro w; go_simp; first | done | with_reducible rfl)
            refine wpAny_take (i := 40) (v := ?_) rfl (by kernel_rfl) (by kernel_rfl) (by kernel_rfl) (fun _ _ _ h => h) (Or.inl ⟨by rfl, ?_⟩) ?_
            rotate_left
            focus (intro w; go_simp; first | done | with_reducible rfl)
            refine wpAny_take (i := 41) (v := ?_) rfl (by kernel_rfl) (by kernel_rfl) (by kernel_rfl) (fun _ _ _ h => h) (Or.inl ⟨by rfl, ?_⟩) ?_
            rotate_left
            focus (intro w; go_simp; first | done | with_reducible rfl)
            go_simp
            refine wpAny_take (i := 42) (v := ?_) rfl (by kernel_rfl) (by kernel_rfl) (by kernel_rfl) (fun _ _ _ h => h) (Or.inl ⟨by rfl, ?_⟩) ?_
            rotate_left
            focus (intro w; go_simp; first | done | with_reducible rfl)
            refine wpAny_take (i := 43) (v := ?_) rfl (by kernel_rfl) (by kernel_rfl) (by kernel_rfl) (fun _ _ _ h => h) (Or.inl ⟨by rfl, ?_⟩) ?_
            rotate_left
            focus (intro w; go_simp; first | done | with_reducible rfl)
            refine wpAny_take (i := 44) (v := ?_) rfl (by kernel_rfl) (by kernel_rfl) (by kernel_rfl) (fun _ _ _ h => h) (Or.inl ⟨by rfl, ?_⟩) ?_
            rotate_left
            focus (intro w; go_simp; first | done | with_reducible rfl)
            go_simp
            refine wpAny_take (i := 45) (v := ?_) rfl (by kernel_rfl) (by kernel_rfl) (by kernel_rfl) (fun _ _ _ h => h) (Or.inl ⟨by rfl, ?_⟩) ?_
            rotate_left
            focus (intro w; go_simp; first | done | with_reducible rfl)
            refine wpAny_take (i := 46) (v := ?_) rfl (by kernel_rfl) (by kernel_rfl) (by kernel_rfl) (fun _ _ _ h => h) (Or.inl ⟨by rfl, ?_⟩) ?_
            rotate_left
            focus (intro w; go_simp; first | done | with_reducible rfl)
            refine wpAny_take (i := 47) (v := ?_) rfl (by kernel_rfl) (by kernel_rfl) (by kernel_rfl) (fun _ _ _ h => h) (Or.inl ⟨by rfl, ?_⟩) ?_
            rotate_left
            focus (intro w; go_simp; first | done | with_reducible rfl)
            go_simp
            refine wpAny_take (i := 48) (v := ?_) rfl (by kernel_rfl) (by kernel_rfl) (by kernel_rfl) (fun _ _ _ h => h) (Or.inl ⟨by rfl, ?_⟩) ?_
            rotate_left
            focus (intro w; go_simp; first | done | with_reducible rfl)
            refine wpAny_take (i := 49) (v := ?_) rfl (by kernel_rfl) (by kernel_rfl) (by kernel_rfl) (fun _ _ _ h => h) (Or.inl ⟨by rfl, ?_⟩) ?_
            rotate_left
            focus (intro w; go_simp; first | done | with_reducible rfl)
            refine wpAny_take (i := 50) (v := ?_) rfl (by kernel_rfl) (by kernel_rfl) (by kernel_rfl) (fun _ _ _ h => h) (Or.inl ⟨by rfl, ?_⟩) ?_
            rotate_left
            focus (intro w; go_simp; first | done | with_reducible rfl)
            go_simp
            refine wpAny_take (i := 51) (v := ?_) rfl (by kernel_rfl) (by kernel_rfl) (by kernel_rfl) (fun _ _ _ h => h) (Or.inl ⟨by rfl, ?_⟩) ?_
            rotate_left
            focus (intro w; go_simp; first | done | with_reducible rfl)
            refine wpAny_take (i := 52) (v := ?_) rfl (by kernel_rfl) (by kernel_rfl) (by kernel_rfl) (fun _ _ _ h => h) (Or.inl ⟨by rfl, ?_⟩) ?_
            rotate_left
            focus (intro w; go_simp; first | done | with_reducible rfl)
            refine wpAny_take (i := 53) (v := ?_) rfl (by kernel_rfl) (by kernel_rfl) (by kernel_rfl) (fun _ _ _ h => h) (Or.inl ⟨by rfl, ?_⟩) ?_
            rotate_left
            focus (intro w; go_simp; first | done | with_reducible rfl)
            go_simp
            refine wpAny_take (i := 54) (v := ?_) rfl (by kernel_rfl) (by kernel_rfl) (by kernel_rfl) (fun _ _ _ h => h) (Or.inl ⟨by rfl, ?_⟩) ?_
            rotate_left
            focus (intro w; go_simp; first | done | with_reducible rfl)
            refine wpAny_take (i := 55) (v := ?_) rfl (by kernel_rfl) (by kernel_rfl) (by kernel_rfl) (fun _ _ _ h => h) (Or.inl ⟨by rfl, ?_⟩) ?_
            rotate_left
            focus (intro w; go_simp; first | done | with_reducible rfl)
            refine wpAny_take (i := 56) (v := ?_) rfl (by kernel_rfl) (by kernel_rfl) (by kernel_rfl) (fun _ _ _ h => h) (Or.inl ⟨by rfl, ?_⟩) ?_
            rotate_left
            focus (intro w; go_simp; first | done | with_reducible rfl)
            go_simp
            refine wpAny_take (i := 57) (v := ?_) rfl (by kernel_rfl) (by kernel_rfl) (by kernel_rfl) (fun _ _ _ h => h) (Or.inl ⟨by rfl, ?_⟩) ?_
            rotate_left
            focus (intro w; go_simp; first | done | with_reducible rfl)
            refine wpAny_take (i := 58) (v := ?_) rfl (by kernel_rfl) (by kernel_rfl) (by kernel_rfl) (fun _ _ _ h => h) (Or.inl ⟨by rfl, ?_⟩) ?_
            rotate_left
            focus (intro w; go_simp; first | done | with_reducible rfl)
            refine wpAny_take (i := 59) (v := ?_) rfl (by kernel_rfl) (by kernel_rfl) (by kernel_rfl) (fun _ _ _ h => h) (Or.inl ⟨by rfl, ?_⟩) ?_
            rotate_left
            focus (intro w; go_simp; first | done | with_reducible rfl)
            go_simp
            refine wpAny_ready (rs := [60]) (by kernel_rfl) (by simp) (AllReady.cons rfl (fun K hK => ?_) AllReady.nil)
            go_simp
            go_at_call 21
            refine (faulted_any combined_any (z2)).mono ?_
            rintro e z3 ⟨rfl, hB⟩
            replace hA := hA.trans (hB.mono hA.size)
            replace R6 := Lib.hid (row_later R6.out hB)
            replace R8 := Lib.hid (row_later R8.out hB)
            replace R7 := Lib.hid (row_later R7.out hB)
            replace R9 := Lib.hid (row_later R9.out hB)
            clear hB
            refine hK _ _ ?_
            clear hK K
            refine wpAny_take (i := 61) (v := ?_) rfl (by kernel_rfl) (by kernel_rfl) (by kernel_rfl) (fun _ _ _ h => h) (Or.inl ⟨by rfl, ?_⟩) ?_
            rotate_left
            focus (intro w; go_simp; first | done | with_reducible rfl)
            refine wpAny_take (i := 62) (v := ?_) rfl (by kernel_rfl) (by kernel_rfl) (by kernel_rfl) (fun _ _ _ h => h) (Or.inl ⟨by rfl, ?_⟩) ?_
            rotate_left
            focus (intro w; go_simp; first | done | with_reducible rfl)
            refine wpAny_done (by kernel_rfl) ?_ _
            have HA := Lib.hid hA
            clear hA
            go_wp2_with fail
            go_ret
            exact ⟨rfl, HA.out⟩
end Go.Proofs.YtgnkihiibednoaaGreatDoor
