/- Masked. -/
import Derived.Test.YtlkdpgjbbbaiiaaDoorPdT
namespace Go.Proofs.YtlkdpgjbbbaiiaaDoor
open Go.RowKit Go.Maps Go.Shelf

attribute [local go_sem] Oper.semAt_some

theorem rowTo_prefix (a b c : Nat) (h : b ≤ c) : rowTo a b <+: rowTo a c := by
  induction c with
  | zero => obtain rfl : b = 0 := by omega
            exact List.prefix_refl _
  | succ c ih =>
    by_cases e : b = c + 1
    · rw [e]; exact List.prefix_refl _
    · refine (ih (by omega)).trans ?_
      unfold rowTo
      rw [List.range_succ, List.filterMap_append]
      exact List.prefix_append _ _
theorem pairsTo_prefix (n a c : Nat) (h : a ≤ c) : pairsTo n a <+: pairsTo n c := by
  induction c with
  | zero => obtain rfl : a = 0 := by omega
            exact List.prefix_refl _
  | succ c ih =>
    by_cases e : a = c + 1
    · rw [e]; exact List.prefix_refl _
    · refine (ih (by omega)).trans ?_
      rw [pairsTo_succ]
      exact List.prefix_append _ _
theorem pairs_prefix {n a b : Nat} (ha : a < n) (hb : b < n) (hab : a + 1 ≤ b) : pairsTo n a ++ (rowTo a b ++ [(a, b)]) <+: pairsTo n n := by
  rw [← rowTo_succ a b (by omega)]
  refine List.IsPrefix.trans ?_ (pairsTo_prefix n (a + 1) n (by omega))
  rw [pairsTo_succ]
  exact (List.prefix_append_right_inj _).2 (rowTo_prefix a (b + 1) n (by omega))
theorem trisL_prefix (L : List (List UInt8)) (n : Nat) {xs ys : List (Nat × Nat)} (h : xs <+: ys) : (trisL L n xs).length ≤ (trisL L n ys).length := by
  obtain ⟨zs, rfl⟩ := h
  unfold trisL
  rw [List.flatMap_append, List.length_append]
  omega

set_option maxRecDepth 100000 in
set_option maxHeartbeats 4000000 in
theorem pairs1_inP (F : Fence) (m : Nat) (hF : F.fn 55) (hro : F.round = none) (hn : 1 ≤ m) (l Bs n : Nat) (hlen : n ≤ 1000) (J Jx : List (PairN n) → World → Prop)
    (hY : ∀ pre x W, J pre W → pre.length < n * n → YieldAt F (m - 1) Tryd.prog l #[.int .i64 (x.1.1 : Int), .int .i64 (x.1.2 : Int)] W fun e W' =>
      (e = .returned (.bool true) ∧ J (pre ++ [x]) W' ∧ (NumBox Bs n W → NumBox Bs n W')) ∨ (e = .returned (.bool false) ∧ Jx (pre ++ [x]) W'))
    (W : World) (hR : NumBox Bs n W) (h0 : J [] W) :
    CallsIn F m Tryd.prog 55 #[.func (.yield l) #[] #[], .pointer (some ⟨Bs, 0, none⟩)] W fun e W' => (∃ v, e = .returned v) ∧
      ((∃ xs : List (PairN n), xs.map (·.1) = pairsTo n n ∧ J xs W') ∨ (∃ pre : List (PairN n), pre.map (·.1) <+: pairsTo n n ∧ Jx pre W')) := by
  have hc0 : W.cell? ⟨Bs, 0, none⟩ = some (.int .i64 (n : Int)) := hR
  have HR := Lib.hid (⟨hR, h0, hY⟩ : _ ∧ _ ∧ _)
  clear hR h0 hY
  refine callsIn_of_wp Tryd.func55 rfl hF ?_ hro
  simp only [Tryd.ntmps55, List.size_toArray, List.length_cons, List.length_nil, Nat.reduceAdd, Nat.reduceSub, Array.replicate_succ, Array.replicate_zero, List.push_toArray, List.append_toArray, List.nil_append, List.cons_append]
  gi_wp2
  clear hc0
  gi_loopw [6] (fun i wr => ∃ a : Nat, a ≤ n ∧ i = .int .i64 (a : Int) ∧ ∃ pre : List (PairN n), pre.map (·.1) = pairsTo n a ∧ J pre wr ∧ NumBox Bs n wr) (fun i _ => n - (intOf i).toNat)
  case atStart => exact ⟨0, Nat.zero_le _, rfl, [], rfl, HR.out.2.1, HR.out.1⟩
  case round =>
    obtain ⟨a, ha, rfl, pre, hpre, hJ, hB⟩ := hrel
    by_cases hlt : a < n
    · have a0 : (0 : Int) ≤ (a : Int) := by omega
      have a1 : (a : Int) < (n : Int) := by omega
      have HP := Lib.hid (⟨hpre, hJ, hB⟩ : _ ∧ _ ∧ _)
      clear hpre hJ hB
      gi_wp2
      gi_loopw [4] (fun i wr => ∃ b : Nat, a + 1 ≤ b ∧ b ≤ n ∧ i = .int .i64 (b : Int) ∧ ∃ pre : List (PairN n), pre.map (·.1) = pairsTo n a ++ rowTo a b ∧ J pre wr ∧ NumBox Bs n wr) (fun i _ => n - (intOf i).toNat)
      case atStart => exact ⟨a + 1, by omega, by omega, by go_num, pre, by rw [rowTo_none a (a + 1) (Nat.le_refl _), List.append_nil]; exact HP.out.1, HP.out.2⟩
      case round =>
        obtain ⟨b, hb1, hb2, rfl, pre2, hpre2, hJ2, hB2⟩ := hrel
        have hc1 : wr.cell? ⟨Bs, 0, none⟩ = some (.int .i64 (n : Int)) := hB2
        by_cases hltb : b < n
        · have hpl : pre2.length < n * n := by
            have e := congrArg List.length hpre2
            rw [List.length_map, List.length_append] at e
            have h1 := pairsTo_len n a
            have h2 := rowTo_len a b
            have h3 : (a + 1) * n ≤ n * n := Nat.mul_le_mul_right _ (by omega)
            rw [Nat.add_mul] at h3
            omega
          obtain ⟨fn, tmps, assign, body, hy, hY2⟩ := HR.out.2.2 pre2 ⟨(a, b), by omega, hltb⟩ wr hJ2 hpl
          dsimp only at hy
          have b0 : (0 : Int) ≤ (b : Int) := by omega
          have b1 : (b : Int) < (n : Int) := by omega
          have HB := Lib.hid (⟨hpre2, hB2⟩ : _ ∧ _)
          clear hpre2 hB2 hJ2
          gi_wp2
          refine hY2.mono ?_
          rintro e W3 (⟨rfl, hJ3, hk3⟩ | ⟨rfl, hJx3⟩)
          · have hB3 := hk3 HB.out.2
            have HF := Lib.hid (⟨hJ3, hB3⟩ : _ ∧ _)
            clear hk3 hJ3 hB3 hc1
            gi_wp2
            go_roundw
            case rel =>
              refine ⟨b + 1, by omega, by omega, by go_num, pre2 ++ [⟨(a, b), by omega, hltb⟩], ?_, HF.out⟩
              rw [List.map_append, HB.out.1, rowTo_succ a b (by omega), List.append_assoc]
              rfl
            case measure => simp [intOf]; omega
          · gi_wp2
            refine bodyPost_ret (results_none rfl _ _ _) rfl ?_
            refine ⟨⟨_, rfl⟩, .inr ⟨_, ?_, hJx3⟩⟩
            rw [List.map_append, HB.out.1, List.append_assoc]
            exact pairs_prefix hlt hltb hb1
        · obtain rfl : b = n := by omega
          have HB := Lib.hid (⟨hpre2, hJ2, hB2⟩ : _ ∧ _ ∧ _)
          clear hpre2 hB2 hJ2
          gi_wp2
          clear hc1
          go_roundw
          case rel => exact ⟨a + 1, by omega, by go_num, pre2, by rw [pairsTo_succ]; exact HB.out.1, HB.out.2⟩
          case measure => simp [intOf]; omega
    · obtain rfl : a = n := by omega
      have HP := Lib.hid (⟨hpre, hJ, hB⟩ : _ ∧ _ ∧ _)
      clear hpre hJ hB
      gi_wp2
      go_end0
      exact ⟨⟨_, rfl⟩, .inl ⟨_, HP.out.1, HP.out.2.1⟩⟩

/-- The pairs come in their order. -/
theorem pairs_stopsP (F : Fence) (m : Nat) (hF : F.fn 55) (hro : F.round = none) (hm : 1 ≤ m) (Bs n : Nat) (hlen : n ≤ 1000) (w : World) (hBs : Bs < w.heap.size) (hR : NumBox Bs n w) :
    SeqStopsK F m Tryd.prog 55 #[.pointer (some ⟨Bs, 0, none⟩)] (fun x : PairN n => #[Value.int .i64 (x.1.1 : Int), Value.int .i64 (x.1.2 : Int)]) (fun W W' => NumBox Bs n W → NumBox Bs n W') (fun xs => xs.map (·.1) = pairsTo n n) (fun xs => xs.map (·.1) <+: pairsTo n n) (n * n) w := fun l J Jx W hW _ _ hY h0 =>
  pairs1_inP F m hF hro hm l Bs n hlen J Jx hY W ((hW.cell (p := ⟨Bs, 0, none⟩) hBs).trans hR) h0

theorem wpIn_to {F : Fence} {n : Nat} {P : Program} {Q : Exit → Act → World → Prop} {c : Code} {a : Act} {w : World} (fr : Act) (B : World → Prop) (h : c.wpIn F n P (fun e a' w' => e = Exit.normal ∧ a' = fr ∧ B w') a w) (hq : ∀ w', B w' → Q .normal fr w') : c.wpIn F n P Q a w :=
  wpIn_mono h fun e a' w' h => by
    obtain ⟨h1, h2, h3⟩ := h
    subst h1
    subst h2
    exact hq _ h3
theorem boxed_own {W W' : World} {row : Option Nat} {B : Nat} {t : TypeId} {v : Value} (h : Boxed W B t v) (hg : W.grownBy W' row) (hr : ∀ r, row = some r → ∃ o : Obj, W.heap[r]? = some o ∧ o.isCells = false) : Boxed W' B t v :=
  h.kept hg (fun e => by
    obtain ⟨o, ho, hc⟩ := hr B e.symm
    rw [show W.heap[B]? = _ from h] at ho
    cases ho
    cases hc)
theorem idxTo_lt (L : List (List UInt8)) (n : Nat) (s : List UInt8) (j : Nat) (hj : j < (idxTo L n s).length) : (idxTo L n s).getD j 0 < n := by
  have h1 : (idxTo L n s).getD j 0 = (idxTo L n s)[j] := by simp [hj]
  rw [h1]
  have h2 : (idxTo L n s)[j] ∈ idxTo L n s := List.getElem_mem hj
  unfold idxTo at h2
  exact List.mem_range.1 (List.mem_filter.1 h2).1
/-- The cells of a row of numbers. -/
theorem nats_cells {B : Nat} {w : World} {a : Option Addr} {m c : Nat} {l : List Nat} (h : NatsAt B w (.slice a m c) l) : 0 < l.length → ∃ g, a = some ⟨g, 0, none⟩ ∧ B ≤ g ∧ g < w.heap.size ∧ ∀ j, j < l.length → w.cell? ⟨g, j, none⟩ = some (.int .i64 ((l.getD j 0 : Nat) : Int)) := by
  intro h0
  have hr : w.ownsRow B 3 1 (.slice a m c) l.length (l.map natV) := h
  obtain ⟨-, ⟨e, h00⟩ | ⟨g, cap, cur, e, hb, hgb, -⟩⟩ := h
  · omega
  · cases e
    refine ⟨g, rfl, hb, (Array.getElem?_eq_some_iff.1 hgb).1, fun j hj => ?_⟩
    rw [hr.cellAt j (by omega)]
    simp [hj, natV]
theorem holds_own {β : Type} (n₀ B : Nat) (t e : TypeId) (size : Nat) (k : β → Nat) (f : β → List Value) : Own (fun s W => ∃ v, Boxed W B t v ∧ W.ownsRow n₀ e size v (k s) (f s)) := by
  rintro s X Y row ⟨v, hv, hr⟩ hg hrow
  obtain ⟨v, h1, h2, -⟩ := holdsRow_own n₀ B t e size k f (fun _ _ => True) s X Y row ⟨v, hv, hr, trivial⟩ hg hrow
  exact ⟨v, h1, h2⟩
theorem row_set {W : World} {B : Nat} {e : TypeId} {size : Nat} {v : Value} {n : Nat} {xs : List Value} {b : Nat} {u : Value} (h : W.ownsRow B e size v n xs) (hb : b < B) : (W.setCell ⟨b, 0, none⟩ u).ownsRow B e size v n xs := by
  refine h.kept (grownBy_setCell' W b u) ?_
  rcases h.2 with ⟨rfl, _⟩ | ⟨g, cap, cur, rfl, hgB, _⟩
  · exact .inl rfl
  · refine .inr fun e' => ?_
    simp [Value.ownBlock] at e'
    omega
/-- What the loop over a row holds. -/
def MskR (n b3 : Nat) (w3 W : World) (mv : Value) (F : List (Nat × Nat × Nat)) (wr : World) : Prop :=
  ∃ v', Boxed wr (b3 + 1) 39 v' ∧ wr.ownsRow (b3 + 3) 55 3 v' F.length (triCells F) ∧ F.length ≤ 10000 ∧ Below b3 w3 wr ∧ W.heap.size ≤ wr.heap.size ∧ KeepsOthers W wr ∧ (NumBox (b3 + 1 + 1) n W → NumBox (b3 + 1 + 1) n wr) ∧ Boxed wr b3 73 mv
/-- The triples of a row of nets. -/
def triSeg (a b : Nat) (xs : List Nat) : List (Nat × Nat × Nat) := xs.filterMap fun c => if c = a ∨ c = b then none else some (a, b, c)
theorem triTo_seg (L : List (List UInt8)) (a b n : Nat) : triTo L a b n = triSeg a b (idxTo L n (andL (L.getD a []) (L.getD b []))) := by
  unfold triTo triSeg idxTo
  rw [List.filterMap_filter]
  congr 1
  funext c
  unfold triB
  by_cases h1 : c = a <;> by_cases h2 : c = b <;> by_cases h3 : L.getD c [] = andL (L.getD a []) (L.getD b []) <;> simp [h1, h2]
theorem triSeg_succ (a b : Nat) (xs : List Nat) (k : Nat) (hk : k < xs.length) : triSeg a b (xs.take (k + 1)) = triSeg a b (xs.take k) ++ if xs.getD k 0 = a ∨ xs.getD k 0 = b then [] else [(a, b, xs.getD k 0)] := by
  rw [List.take_succ_eq_append_getElem hk]
  unfold triSeg
  rw [List.filterMap_append]
  congr 1
  have e : xs.getD k 0 = xs[k] := by simp [hk]
  rw [e]
  by_cases h : xs[k] = a ∨ xs[k] = b
  · rw [if_pos h]
    simp [h]
  · rw [if_neg h]
    simp [h]
theorem triSeg_take (a b : Nat) (xs : List Nat) (k : Nat) : (triSeg a b (xs.take k)).length ≤ (triSeg a b xs).length := by
  have e : triSeg a b xs = triSeg a b (xs.take k) ++ triSeg a b (xs.drop k) := by
    unfold triSeg
    rw [← List.filterMap_append, List.take_append_drop]
  rw [e, List.length_append]
  omega

def mskP (n0 : Nat) (w : World) (T : List (Nat × Nat × Nat)) (e : Ending) (w' : World) : Prop :=
  ∃ v', e = .returned (.tuple #[v', .int .i64 (if T.length ≤ 10000 then 0 else 12)]) ∧ TrisAt n0 w' v' (if T.length ≤ 10000 then T else []) ∧ Below n0 w w'

theorem masked_bad (S : List (List UInt8)) (nets : Int) (hz : S.length ≤ 1000000) (hb : ∀ k, k < S.length → (S.getD k []).length ≤ 1000000) (he : vecErr nets S ≠ 0) (B : Nat) (w : World) (v : Value) (h : StrsAt B w v S) :
    Calls Tryd.prog 10 #[.int .i64 nets, v] w fun e w' => e = .returned (.tuple #[.slice none 0 0, .int .i64 (vecErr nets S)]) ∧ Below w.heap.size w w' := by
  have hB0 : Below w.heap.size w ((w.alloc (.cells #[.slice none 0 0] 39)).alloc (.cells #[.int .i64 0] 30)) := ((Below.refl _ _).alloc (Nat.le_refl _) _).alloc (by simp) _
  have hc := sequences_bad S nets hz hb he B _ v (row_later h hB0)
  obtain ⟨a, c, rfl, -⟩ := strs_open h
  generalize vecErr nets S = E at hc he ⊢
  generalize S.length = z at hc ⊢
  have HB0 := Lib.hid hB0
  clear h hz hb hB0
  go_enter Tryd.func10, Tryd.ntmps10
  go_wp2_with fail
  refine hc.mono ?_
  rintro e w' ⟨rfl, hB⟩
  have f4 := fresh_at w w' #[.slice none 0 0] 39 (((Below.refl (w.heap.size + 1) _).alloc (by simp) _).trans (hB.mono (by simp))) 0
  have f5 := fresh_at (w.alloc (.cells #[.slice none 0 0] 39)) w' #[.int .i64 0] 30 (hB.mono (by simp)) 0
  have l5 := hB.size
  simp only [World.size_alloc] at f5 l5
  have l4 : w.heap.size < w'.heap.size := by omega
  have l5' : w.heap.size + 1 < w'.heap.size := by omega
  obtain ⟨c4, z4⟩ := f4
  obtain ⟨c5, z5⟩ := f5
  change _ = some (Value.slice none 0 0) at c4
  change _ = some (Value.int .i64 0) at c5
  have HB := Lib.hid (HB0.out.trans (hB.mono (by simp; omega)))
  clear hc hB l5
  go_wp2_with fail
  refine bodyPost_ret (v := .tuple #[.slice none 0 0, .int .i64 E]) ?_ rfl ⟨rfl, ?_⟩
  · simp [results, Tryd.f10, go_sem, c4, c5, l4, l5']
  · exact ((HB.out.setCell (p := ⟨w.heap.size, 0, none⟩) (by simp) _).setCell (p := ⟨w.heap.size + 1, 0, none⟩) (by simp) _).alloc (by simp; omega) _

set_option maxHeartbeats 8000000 in
set_option maxRecDepth 100000 in
theorem masked_ok (V : List (List UInt8)) (n : Nat) (h1 : 1 ≤ n) (h2 : n ≤ 100) (hz : V.length ≤ 200) (hb : ∀ s, s ∈ V → s.length = n ∧ s.all bitB = true) (he : vecErr (n : Int) V = 0) (B : Nat) (w : World) (v : Value) (h : StrsAt B w v V) :
    Calls Tryd.prog 10 #[.int .i64 (n : Int), v] w (mskP w.heap.size w (trisL (turnL V n) n (pairsTo n n))) := by
  have hB0 : Below w.heap.size w ((w.alloc (.cells #[.slice none 0 0] 39)).alloc (.cells #[.int .i64 0] 30)) := ((Below.refl _ _).alloc (Nat.le_refl _) _).alloc (by simp) _
  have hs := sequences_ok V n (by omega) h2 hz (fun s hs => (hb s hs).1) he B _ v (row_later h hB0)
  have hG := turnL_grid V n (by omega) h2 hz hb
  obtain ⟨i0, hi, hz0, hz1, hz2⟩ := info_parts Tryd.infoTri
  obtain ⟨a0, c0, rfl, -⟩ := strs_open h
  generalize turnL V n = L at hs hG ⊢
  generalize V.length = m at hs hG ⊢
  obtain ⟨T, hT⟩ : ∃ T, T = trisL L n (pairsTo n n) := ⟨_, rfl⟩
  rw [← hT]
  have HT := Lib.hid hT
  have HB0 := Lib.hid hB0
  clear h hb he hz hT hB0
  refine (callsIn_wide (n := 9)).1 ?_
  refine callsIn_of_wp_marks Tryd.func10 rfl trivial ?_ rfl
  simp only [Tryd.ntmps10, List.size_toArray, List.length_cons, List.length_nil, Nat.reduceAdd, Nat.reduceSub, Array.replicate_succ, Array.replicate_zero, List.push_toArray, List.append_toArray, List.nil_append, List.cons_append]
  gi_wp2_with (refine ⟨trivial, ?_⟩; gi_at_call 32)
  refine (callsIn_wide.2 hs).mono ?_
  rintro e w2 ⟨v1, rfl, hS, hB⟩
  clear hs
  obtain ⟨a1, c1, rfl, hop⟩ := strs_open hS
  rw [hG.len] at hop ⊢
  obtain ⟨g, rfl, hg, hcell⟩ := hop (by omega)
  have hnw := netsWith_any L (by rw [hG.len]; omega) (fun k hk => by have := hG.long k (by rw [← hG.len]; exact hk); have := hG.m2; omega) _ (w2.alloc (.cells #[.slice (some ⟨g, 0, none⟩) n c1] 26)) _ (row_later hS ((Below.refl _ _).alloc (Nat.le_refl _) _))
  rw [hG.len] at hnw
  have HC := Lib.hid (⟨hcell, hG⟩ : _ ∧ _)
  have HB := Lib.hid hB
  have hm2 := hG.m2
  clear hcell hG hop hB hS
  gi_wp2_with (refine ⟨trivial, ?_⟩; gi_at_call 38)
  refine (callsIn_wide.2 hnw).mono ?_
  rintro e w3 ⟨rfl, H, hM, hB3⟩
  clear hnw
  have HM := Lib.hid (⟨hM, hB3⟩ : _ ∧ _)
  clear hM hB3
  gi_wp2_with (refine ⟨trivial, ?_⟩; gi_at_call 39; refine (pairs_in Fence.wide 8 trivial rfl _ _).mono ?_; rintro e w' ⟨rfl, rfl⟩)
  -- BODY
  have hB2a : Below (w.heap.size + 2) ((w.alloc (.cells #[.slice none 0 0] 39)).alloc (.cells #[.int .i64 0] 30)) w2 := HB.out.mono (by simp)
  have hw2s := HB.out.size
  simp only [World.size_alloc] at hw2s
  have hB32 : Below (w2.heap.size + 1) (w2.alloc (.cells #[.slice (some ⟨g, 0, none⟩) n c1] 26)) w3 := HM.out.2.mono (by simp)
  have hB3' : Below w2.heap.size w2 w3 := ((Below.refl _ w2).alloc (Nat.le_refl _) _).trans (HM.out.2.mono (by simp))
  have hw3s := HM.out.2.size
  simp only [World.size_alloc] at hw3s
  have q4 := fresh_at w w2 #[.slice none 0 0] 39 (((Below.refl (w.heap.size + 1) _).alloc (by simp) _).trans (HB.out.mono (by simp))) 0
  have q5 := fresh_at (w.alloc (.cells #[.slice none 0 0] 39)) w2 #[.int .i64 0] 30 (HB.out.mono (by simp)) 0
  have q6 := fresh_at w2 w3 #[.slice (some ⟨g, 0, none⟩) n c1] 26 hB32 0
  simp only [World.size_alloc] at q5
  have q4c := (hB3'.cell (p := ⟨w.heap.size, 0, none⟩) (by simp; omega)).trans q4.1
  have q5c := (hB3'.cell (p := ⟨w.heap.size + 1, 0, none⟩) (by simp; omega)).trans q5.1
  have q4z := (World.frozen?_of_block (a := ⟨w.heap.size, 0, none⟩) (hB3'.block _ (by simp; omega))).trans q4.2
  have q5z := (World.frozen?_of_block (a := ⟨w.heap.size + 1, 0, none⟩) (hB3'.block _ (by simp; omega))).trans q5.2
  have HQ := Lib.hid (⟨q4c, q4z, q5c, q5z, q6.1⟩ : _ ∧ _ ∧ _ ∧ _ ∧ _)
  have HW0 := Lib.hid ((HB0.out.trans (HB.out.mono (by simp; omega))).trans (hB3'.mono (by omega)))
  have HC3 := Lib.hid (fun k hk => (hB3'.cell (p := ⟨g, k, none⟩) hg).trans (HC.out.1 k hk))
  clear q4 q5 q6 q4c q5c q4z q5z hB2a hB32 hB3'
  obtain ⟨W4, hW4⟩ : ∃ W4 : World, ((w3.alloc (.cells #[.map (some (w2.heap.size + 1))] 73)).alloc (.cells #[.slice none 0 0] 39)).alloc (.cells #[.int .i64 (n : Int)] 3) = W4 := ⟨_, rfl⟩
  have hsz : W4.heap.size = w3.heap.size + 3 := by rw [← hW4]; simp
  have hB0 : Below w3.heap.size w3 W4 := by
    rw [← hW4]
    exact (((Below.refl _ w3).alloc (Nat.le_refl _) _).alloc (by simp) _).alloc (by simp; omega) _
  have hbx1 : Boxed W4 w3.heap.size 73 (.map (some (w2.heap.size + 1))) := by
    rw [← hW4]
    exact ((Boxed.new w3 _ _).alloc _).alloc _
  have hbx2 : Boxed W4 (w3.heap.size + 1) 39 (.slice none 0 0) := by
    rw [← hW4]
    have h := (Boxed.new (w3.alloc (.cells #[.map (some (w2.heap.size + 1))] 73)) 39 (.slice none 0 0)).alloc (.cells #[.int .i64 (n : Int)] 3)
    simp only [World.size_alloc] at h
    exact h
  have f2 := fresh_at ((w3.alloc (.cells #[.map (some (w2.heap.size + 1))] 73)).alloc (.cells #[.slice none 0 0] 39)) W4 #[.int .i64 (n : Int)] 3 (by
    rw [← hW4]
    exact Below.refl _ _) 0
  simp only [World.size_alloc] at f2
  rw [hW4]
  clear hW4
  refine wpIn_rangeFunc_ownF rfl (by decide) (gf := 55) (lb := #[.pointer (some ⟨w3.heap.size + 1 + 1, 0, none⟩)]) rfl trivial (enters_of Tryd.func55 (by kernel_rfl) rfl)
    (pairs_stopsP Fence.wide 8 trivial rfl (by decide) (w3.heap.size + 1 + 1) n (by omega) W4 (by omega) f2.1)
    (fun h k r => k (h r))
    (fun W l o o' hl ho hc hw hR => cell_kept hR (grownBy_putObj' W l o') (fun r e => by cases e; exact ⟨o, ho, hc⟩))
    (Below.refl _ _) (fun _ => rfl)
    (fun pre W => ((Boxed W w3.heap.size 73 (.map (some (w2.heap.size + 1))) ∧ w3.heap.size + 3 ≤ W.heap.size ∧ (trisL L n (pre.map (·.1))).length ≤ 10000) ∧ (∃ v, Boxed W (w3.heap.size + 1) 39 v ∧ W.ownsRow (w3.heap.size + 3) 55 3 v (trisL L n (pre.map (·.1))).length (triCells (trisL L n (pre.map (·.1)))))) ∧ Below w3.heap.size w3 W)
    (fun cc pre W => (cc = .ret ∧ 10000 < (trisL L n (pre.map (·.1))).length ∧ W.cell? ⟨w.heap.size, 0, none⟩ = some (.slice none 0 0) ∧ W.cell? ⟨w.heap.size + 1, 0, none⟩ = some (.int .i64 12)) ∧ Below w.heap.size w W)
    (OwnFrom.and (OwnFrom.and (Own.from (fun s A B row hs hg hr => ⟨boxed_own hs.1 hg hr, by have := hg.size; omega, hs.2.2⟩) _) (Own.from (holds_own (w3.heap.size + 3) (w3.heap.size + 1) 39 55 3 (fun pre : List (PairN n) => (trisL L n (pre.map (·.1))).length) (fun pre => triCells (trisL L n (pre.map (·.1))))) _)) (ownFrom_below (Nat.le_refl _) (by omega)))
    (fun c => OwnFrom.and (Own.from (fun s A B row hs hg hr => ⟨hs.1, hs.2.1, cell_kept hs.2.2.1 hg hr, cell_kept hs.2.2.2 hg hr⟩) _) (ownFrom_below (Nat.le_refl _) (by omega)))
    ⟨⟨⟨hbx1, by omega, Nat.zero_le _⟩, ⟨_, hbx2, World.ownsRow_nil _ _ _ _⟩⟩, hB0⟩
    (fun x => { tmps := #[.int .i64 (n : Int), .slice a0 m c0, undef, undef, .pointer (some ⟨w.heap.size, 0, none⟩), .pointer (some ⟨w.heap.size + 1, 0, none⟩), .pointer (some ⟨w2.heap.size, 0, none⟩), .int .i64 0, .pointer (some ⟨w3.heap.size, 0, none⟩), .pointer (some ⟨w3.heap.size + 1, 0, none⟩), .int .i64 (x.1.1 : Int), .int .i64 (x.1.2 : Int), undef, undef, .tuple #[.slice (some ⟨g, 0, none⟩) n c1, .int .i64 0], .int .i64 (n : Int), .slice a0 m c0, .tuple #[.slice (some ⟨g, 0, none⟩) n c1, .int .i64 0], .slice (some ⟨g, 0, none⟩) n c1, .int .i64 0, .int .i64 0, .bool false, undef, .slice (some ⟨g, 0, none⟩) n c1, .map (some (w2.heap.size + 1)), .int .i64 (n : Int), .func (.func 55) #[] #[.pointer (some ⟨w3.heap.size + 1 + 1, 0, none⟩)], .int .i64 (x.1.1 : Int), .int .i64 (x.1.2 : Int), undef, undef, undef, undef, undef, undef, undef, undef, undef, undef, undef, undef, undef, undef, undef, undef, undef, undef, undef, undef, undef, undef, undef, undef, undef, undef, undef, undef, undef, undef, undef, undef, undef, undef, undef, undef], defers := [] }) ?assign ?body ?done ?stop
  case assign =>
    intro l x W K hK
    gi_wp2
    exact hK
  case body =>
    rintro l pre ⟨⟨a, b⟩, hab⟩ W ⟨⟨⟨hbm, hWs, hlen⟩, ⟨v, hbt, htr⟩⟩, hBW⟩ hlt
    obtain ⟨hab1, hab2⟩ := hab
    have hG := HC.out.2
    dsimp only at hab1 hab2
    have ca := (hBW.cell (p := ⟨g, a, none⟩) (by simp; omega)).trans (HC3.out a (by omega))
    have cb := (hBW.cell (p := ⟨g, b, none⟩) (by simp; omega)).trans (HC3.out b (by omega))
    have c6 := (hBW.cell (p := ⟨w2.heap.size, 0, none⟩) (by simp; omega)).trans HQ.out.2.2.2.2
    have cm := hbm.cell
    have la := hG.long a (by omega)
    have lb := hG.long b (by omega)
    have lm := hG.m2
    have hand := fun W' => and_any (L.getD a []) (L.getD b []) (by omega) (by omega) W'
    have hlq : (andL (L.getD a []) (L.getD b [])).length ≤ 200 := by rw [andL_len]; omega
    obtain ⟨sa, hsa⟩ : ∃ s : ByteArray, s = ⟨(L.getD a []).toArray⟩ := ⟨_, rfl⟩
    obtain ⟨sb, hsb⟩ : ∃ s : ByteArray, s = ⟨(L.getD b []).toArray⟩ := ⟨_, rfl⟩
    obtain ⟨sc, hsc⟩ : ∃ s : ByteArray, s = ⟨(andL (L.getD a []) (L.getD b [])).toArray⟩ := ⟨_, rfl⟩
    have hwc := word_dec _ sc hsc
    change _ = some (Value.string ⟨(L.getD a []).toArray⟩) at ca
    change _ = some (Value.string ⟨(L.getD b []).toArray⟩) at cb
    change _ = some (Value.slice (some ⟨g, 0, none⟩) n c1) at c6
    rw [← hsa] at ca
    rw [← hsb] at cb
    rw [← hsa, ← hsb, ← hsc] at hand
    have hMW := HM.out.1.later hBW
    obtain ⟨q, hq⟩ : ∃ q, q = andL (L.getD a []) (L.getD b []) := ⟨_, rfl⟩
    rw [← hq] at hwc hlq
    have hseg := triTo_seg L a b n
    rw [← hq] at hseg
    have hrow := HM.out.1.rows q
    have hil := idxTo_len L n q
    have hin : ∀ j, j < (idxTo L n q).length → (idxTo L n q).getD j 0 < n := fun j hj => idxTo_lt L n q j hj
    have hlk : ∀ w', Below W.heap.size W w' → (Instr.lookup 73 (.map (some (w2.heap.size + 1))) (.string sc) false).run Tryd.prog w' = .ok (hdr L n H q) w' := fun w' h => by
      have := (hMW.later h).look sc (by have := hwc.1; omega)
      rw [hwc.2] at this
      simpa using this
    obtain ⟨hv, hhv⟩ : ∃ v, v = hdr L n H q := ⟨_, rfl⟩
    rw [← hhv] at hrow hlk
    obtain ⟨xs, hxs⟩ : ∃ xs, xs = idxTo L n q := ⟨_, rfl⟩
    rw [← hxs] at hrow hil hin hseg
    obtain ⟨ha, hc, rfl⟩ := nats_open hrow
    have hopn := nats_cells hrow
    obtain ⟨mm, hmm⟩ : ∃ mm, mm = xs.length := ⟨_, rfl⟩
    rw [← hmm] at hlk hil hopn hin
    have HLK := Lib.hid hlk
    have HX := Lib.hid (⟨hmm, hopn, hin, hseg⟩ : _ ∧ _ ∧ _ ∧ _)
    have HHV := Lib.hid hhv
    have HBM := Lib.hid hbm
    have HV := Lib.hid (⟨hbt, htr, hBW⟩ : _ ∧ _ ∧ _)
    have a0' : (0 : Int) ≤ (a : Int) := by omega
    have a1' : (a : Int) < (n : Int) := by omega
    have b0' : (0 : Int) ≤ (b : Int) := by omega
    have b1' : (b : Int) < (n : Int) := by omega
    have l6 : w2.heap.size < W.heap.size := by omega
    have l8 : w3.heap.size < W.heap.size := by omega
    have hgW : g < W.heap.size := by omega
    clear hG la lb lm hsa hsb hsc hwc hq hMW hrow hlk hhv hxs hmm hopn hin hseg hbt htr hBW hlq hbm
    gi_wp2_with fail
    refine wpIn_to ({ tmps := #[.int .i64 (n : Int), .slice a0 m c0, undef, undef, .pointer (some ⟨w.heap.size, 0, none⟩), .pointer (some ⟨w.heap.size + 1, 0, none⟩), .pointer (some ⟨w2.heap.size, 0, none⟩), .int .i64 0, .pointer (some ⟨w3.heap.size, 0, none⟩), .pointer (some ⟨w3.heap.size + 1, 0, none⟩), .int .i64 (a : Int), .int .i64 (b : Int), undef, undef, .tuple #[.slice (some ⟨g, 0, none⟩) n c1, .int .i64 0], .int .i64 (n : Int), .slice a0 m c0, .tuple #[.slice (some ⟨g, 0, none⟩) n c1, .int .i64 0], .slice (some ⟨g, 0, none⟩) n c1, .int .i64 0, .int .i64 0, .bool false, undef, .slice (some ⟨g, 0, none⟩) n c1, .map (some (w2.heap.size + 1)), .int .i64 (n : Int), .func (.func 55) #[] #[.pointer (some ⟨w3.heap.size + 1 + 1, 0, none⟩)], .int .i64 (a : Int), .int .i64 (b : Int), .map (some (w2.heap.size + 1)), .slice (some ⟨g, 0, none⟩) n c1, .int .i64 (a : Int), .pointer (some ⟨g, a, none⟩), .string sa, .slice (some ⟨g, 0, none⟩) n c1, .int .i64 (b : Int), .pointer (some ⟨g, b, none⟩), .string sb, .string sc, .slice ha mm hc, .int .i64 (mm : Int), .int .i64 0, undef, undef, undef, undef, undef, undef, undef, undef, undef, undef, undef, undef, undef, undef, undef, undef, undef, undef, undef, undef, undef, undef, undef], defers := [] } : Act) (Below W.heap.size W) ?reg ?rest
    case reg =>
      refine region_round rfl (by kernel_rfl) (by kernel_rfl) ?_
      refine wpAnyIn_take (i := 2) (v := ?_) rfl rfl (by kernel_rfl) (by kernel_rfl) (by kernel_rfl) (fun _ _ _ h => by cases h.1) ⟨Or.inl ⟨by rfl, ?_⟩, fun _ => rfl⟩ ?_
      rotate_left
      focus (intro w; go_simp; first | done | with_reducible rfl)
      refine wpAnyIn_take (i := 6) (v := ?_) rfl rfl (by kernel_rfl) (by kernel_rfl) (by kernel_rfl) (fun _ _ _ h => by cases h.1) ⟨Or.inl ⟨by rfl, ?_⟩, fun _ => rfl⟩ ?_
      rotate_left
      focus (intro w; go_simp; first | done | with_reducible rfl)
      refine wpAnyIn_take (i := 12) (v := ?_) rfl rfl (by kernel_rfl) (by kernel_rfl) (by kernel_rfl) (fun _ _ _ h => by cases h.1) ⟨Or.inl ⟨by rfl, ?_⟩, fun _ => rfl⟩ ?_
      rotate_left
      focus (intro w; go_simp; first | done | with_reducible rfl)
      refine wpAnyIn_ready (rs := [0, 1, 5]) (by kernel_rfl) (by simp) (AllReadyIn.cons rfl (fun K hK => ?_) (AllReadyIn.cons rfl (fun K hK => ?_) (AllReadyIn.cons rfl (fun K hK => ?_) AllReadyIn.nil)))
      ·
        (go_simp; refine hK _ _ ?_; clear hK K)
        refine wpAnyIn_ready (rs := [1, 5]) (by kernel_rfl) (by simp) (AllReadyIn.cons rfl (fun K hK => ?_) (AllReadyIn.cons rfl (fun K hK => ?_) AllReadyIn.nil))
        ·
          (go_simp; refine hK _ _ ?_; clear hK K)
          refine wpAnyIn_take (i := 3) (v := ?_) rfl rfl (by kernel_rfl) (by kernel_rfl) (by kernel_rfl) (fun _ _ _ h => by cases h.1) ⟨Or.inl ⟨by rfl, ?_⟩, fun _ => rfl⟩ ?_
          rotate_left
          focus (intro w; go_simp; first | done | with_reducible rfl)
          refine wpAnyIn_ready (rs := [4, 5]) (by kernel_rfl) (by simp) (AllReadyIn.cons rfl (fun K hK => ?_) (AllReadyIn.cons rfl (fun K hK => ?_) AllReadyIn.nil))
          ·
            (go_simp; refine hK _ _ ?_; clear hK K)
            refine wpAnyIn_ready (rs := [5]) (by kernel_rfl) (by simp) (AllReadyIn.cons rfl (fun K hK => ?_) AllReadyIn.nil)
            (go_simp; refine hK _ _ ?_; clear hK K)
            refine wpAnyIn_take (i := 7) (v := ?_) rfl rfl (by kernel_rfl) (by kernel_rfl) (by kernel_rfl) (fun _ _ _ h => by cases h.1) ⟨Or.inl ⟨by rfl, ?_⟩, fun _ => rfl⟩ ?_
            rotate_left
            focus (intro w; go_simp; first | done | with_reducible rfl)
            refine wpAnyIn_ready (rs := [8]) (by kernel_rfl) (by simp) (AllReadyIn.cons rfl (fun K hK => ?_) AllReadyIn.nil)
            (go_simp; refine hK _ _ ?_; clear hK K)
            refine wpAnyIn_ready (rs := [9]) (by kernel_rfl) (by simp) (AllReadyIn.cons rfl (fun K hK => ?_) AllReadyIn.nil)
            go_simp
            gi_wp2_with (refine ⟨trivial, ?_⟩; gi_at_call 40; refine (CallsIn.inRound l (callsIn_wide.2 (hand _))).mono ?_; rintro e w' ⟨rfl, hB1⟩; have hB2 : Below W.heap.size W w' := (Below.refl W.heap.size W).drew.trans hB1; clear hB1; have k1 := (hB2.cell (p := ⟨w2.heap.size, 0, none⟩) l6).trans c6; have k2 := (hB2.cell (p := ⟨g, a, none⟩) hgW).trans ca; have k3 := (hB2.cell (p := ⟨g, b, none⟩) hgW).trans cb; have k4 := (hB2.cell (p := ⟨w3.heap.size, 0, none⟩) l8).trans cm; have k6 := HLK.out w' hB2)
            refine wpAnyIn_ready (rs := [10]) (by kernel_rfl) (by simp) (AllReadyIn.cons rfl (fun K hK => ?_) AllReadyIn.nil)
            (go_simp; refine hK _ _ ?_; clear hK K)
            refine wpAnyIn_ready (rs := [11]) (by kernel_rfl) (by simp) (AllReadyIn.cons rfl (fun K hK => ?_) AllReadyIn.nil)
            (go_simp; refine hK _ _ ?_; clear hK K)
            refine wpAnyIn_done (by kernel_rfl) ?_ _
            exact ⟨rfl, rfl, hB2⟩
          ·
            (go_simp; refine hK _ _ ?_; clear hK K)
            refine wpAnyIn_take (i := 7) (v := ?_) rfl rfl (by kernel_rfl) (by kernel_rfl) (by kernel_rfl) (fun _ _ _ h => by cases h.1) ⟨Or.inl ⟨by rfl, ?_⟩, fun _ => rfl⟩ ?_
            rotate_left
            focus (intro w; go_simp; first | done | with_reducible rfl)
            refine wpAnyIn_ready (rs := [4, 8]) (by kernel_rfl) (by simp) (AllReadyIn.cons rfl (fun K hK => ?_) (AllReadyIn.cons rfl (fun K hK => ?_) AllReadyIn.nil))
            ·
              (go_simp; refine hK _ _ ?_; clear hK K)
              refine wpAnyIn_ready (rs := [8]) (by kernel_rfl) (by simp) (AllReadyIn.cons rfl (fun K hK => ?_) AllReadyIn.nil)
              (go_simp; refine hK _ _ ?_; clear hK K)
              refine wpAnyIn_ready (rs := [9]) (by kernel_rfl) (by simp) (AllReadyIn.cons rfl (fun K hK => ?_) AllReadyIn.nil)
              go_simp
              gi_wp2_with (refine ⟨trivial, ?_⟩; gi_at_call 40; refine (CallsIn.inRound l (callsIn_wide.2 (hand _))).mono ?_; rintro e w' ⟨rfl, hB1⟩; have hB2 : Below W.heap.size W w' := (Below.refl W.heap.size W).drew.trans hB1; clear hB1; have k1 := (hB2.cell (p := ⟨w2.heap.size, 0, none⟩) l6).trans c6; have k2 := (hB2.cell (p := ⟨g, a, none⟩) hgW).trans ca; have k3 := (hB2.cell (p := ⟨g, b, none⟩) hgW).trans cb; have k4 := (hB2.cell (p := ⟨w3.heap.size, 0, none⟩) l8).trans cm; have k6 := HLK.out w' hB2)
              refine wpAnyIn_ready (rs := [10]) (by kernel_rfl) (by simp) (AllReadyIn.cons rfl (fun K hK => ?_) AllReadyIn.nil)
              (go_simp; refine hK _ _ ?_; clear hK K)
              refine wpAnyIn_ready (rs := [11]) (by kernel_rfl) (by simp) (AllReadyIn.cons rfl (fun K hK => ?_) AllReadyIn.nil)
              (go_simp; refine hK _ _ ?_; clear hK K)
              refine wpAnyIn_done (by kernel_rfl) ?_ _
              exact ⟨rfl, rfl, hB2⟩
            ·
              (go_simp; refine hK _ _ ?_; clear hK K)
              refine wpAnyIn_ready (rs := [4]) (by kernel_rfl) (by simp) (AllReadyIn.cons rfl (fun K hK => ?_) AllReadyIn.nil)
              (go_simp; refine hK _ _ ?_; clear hK K)
              refine wpAnyIn_ready (rs := [9]) (by kernel_rfl) (by simp) (AllReadyIn.cons rfl (fun K hK => ?_) AllReadyIn.nil)
              go_simp
              gi_wp2_with (refine ⟨trivial, ?_⟩; gi_at_call 40; refine (CallsIn.inRound l (callsIn_wide.2 (hand _))).mono ?_; rintro e w' ⟨rfl, hB1⟩; have hB2 : Below W.heap.size W w' := (Below.refl W.heap.size W).drew.trans hB1; clear hB1; have k1 := (hB2.cell (p := ⟨w2.heap.size, 0, none⟩) l6).trans c6; have k2 := (hB2.cell (p := ⟨g, a, none⟩) hgW).trans ca; have k3 := (hB2.cell (p := ⟨g, b, none⟩) hgW).trans cb; have k4 := (hB2.cell (p := ⟨w3.heap.size, 0, none⟩) l8).trans cm; have k6 := HLK.out w' hB2)
              refine wpAnyIn_ready (rs := [10]) (by kernel_rfl) (by simp) (AllReadyIn.cons rfl (fun K hK => ?_) AllReadyIn.nil)
              (go_simp; refine hK _ _ ?_; clear hK K)
              refine wpAnyIn_ready (rs := [11]) (by kernel_rfl) (by simp) (AllReadyIn.cons rfl (fun K hK => ?_) AllReadyIn.nil)
              (go_simp; refine hK _ _ ?_; clear hK K)
              refine wpAnyIn_done (by kernel_rfl) ?_ _
              exact ⟨rfl, rfl, hB2⟩
        ·
          (go_simp; refine hK _ _ ?_; clear hK K)
          refine wpAnyIn_take (i := 7) (v := ?_) rfl rfl (by kernel_rfl) (by kernel_rfl) (by kernel_rfl) (fun _ _ _ h => by cases h.1) ⟨Or.inl ⟨by rfl, ?_⟩, fun _ => rfl⟩ ?_
          rotate_left
          focus (intro w; go_simp; first | done | with_reducible rfl)
          refine wpAnyIn_ready (rs := [1, 8]) (by kernel_rfl) (by simp) (AllReadyIn.cons rfl (fun K hK => ?_) (AllReadyIn.cons rfl (fun K hK => ?_) AllReadyIn.nil))
          ·
            (go_simp; refine hK _ _ ?_; clear hK K)
            refine wpAnyIn_take (i := 3) (v := ?_) rfl rfl (by kernel_rfl) (by kernel_rfl) (by kernel_rfl) (fun _ _ _ h => by cases h.1) ⟨Or.inl ⟨by rfl, ?_⟩, fun _ => rfl⟩ ?_
            rotate_left
            focus (intro w; go_simp; first | done | with_reducible rfl)
            refine wpAnyIn_ready (rs := [4, 8]) (by kernel_rfl) (by simp) (AllReadyIn.cons rfl (fun K hK => ?_) (AllReadyIn.cons rfl (fun K hK => ?_) AllReadyIn.nil))
            ·
              (go_simp; refine hK _ _ ?_; clear hK K)
              refine wpAnyIn_ready (rs := [8]) (by kernel_rfl) (by simp) (AllReadyIn.cons rfl (fun K hK => ?_) AllReadyIn.nil)
              (go_simp; refine hK _ _ ?_; clear hK K)
              refine wpAnyIn_ready (rs := [9]) (by kernel_rfl) (by simp) (AllReadyIn.cons rfl (fun K hK => ?_) AllReadyIn.nil)
              go_simp
              gi_wp2_with (refine ⟨trivial, ?_⟩; gi_at_call 40; refine (CallsIn.inRound l (callsIn_wide.2 (hand _))).mono ?_; rintro e w' ⟨rfl, hB1⟩; have hB2 : Below W.heap.size W w' := (Below.refl W.heap.size W).drew.trans hB1; clear hB1; have k1 := (hB2.cell (p := ⟨w2.heap.size, 0, none⟩) l6).trans c6; have k2 := (hB2.cell (p := ⟨g, a, none⟩) hgW).trans ca; have k3 := (hB2.cell (p := ⟨g, b, none⟩) hgW).trans cb; have k4 := (hB2.cell (p := ⟨w3.heap.size, 0, none⟩) l8).trans cm; have k6 := HLK.out w' hB2)
              refine wpAnyIn_ready (rs := [10]) (by kernel_rfl) (by simp) (AllReadyIn.cons rfl (fun K hK => ?_) AllReadyIn.nil)
              (go_simp; refine hK _ _ ?_; clear hK K)
              refine wpAnyIn_ready (rs := [11]) (by kernel_rfl) (by simp) (AllReadyIn.cons rfl (fun K hK => ?_) AllReadyIn.nil)
              (go_simp; refine hK _ _ ?_; clear hK K)
              refine wpAnyIn_done (by kernel_rfl) ?_ _
              exact ⟨rfl, rfl, hB2⟩
            ·
              (go_simp; refine hK _ _ ?_; clear hK K)
              refine wpAnyIn_ready (rs := [4]) (by kernel_rfl) (by simp) (AllReadyIn.cons rfl (fun K hK => ?_) AllReadyIn.nil)
              (go_simp; refine hK _ _ ?_; clear hK K)
              refine wpAnyIn_ready (rs := [9]) (by kernel_rfl) (by simp) (AllReadyIn.cons rfl (fun K hK => ?_) AllReadyIn.nil)
              go_simp
              gi_wp2_with (refine ⟨trivial, ?_⟩; gi_at_call 40; refine (CallsIn.inRound l (callsIn_wide.2 (hand _))).mono ?_; rintro e w' ⟨rfl, hB1⟩; have hB2 : Below W.heap.size W w' := (Below.refl W.heap.size W).drew.trans hB1; clear hB1; have k1 := (hB2.cell (p := ⟨w2.heap.size, 0, none⟩) l6).trans c6; have k2 := (hB2.cell (p := ⟨g, a, none⟩) hgW).trans ca; have k3 := (hB2.cell (p := ⟨g, b, none⟩) hgW).trans cb; have k4 := (hB2.cell (p := ⟨w3.heap.size, 0, none⟩) l8).trans cm; have k6 := HLK.out w' hB2)
              refine wpAnyIn_ready (rs := [10]) (by kernel_rfl) (by simp) (AllReadyIn.cons rfl (fun K hK => ?_) AllReadyIn.nil)
              (go_simp; refine hK _ _ ?_; clear hK K)
              refine wpAnyIn_ready (rs := [11]) (by kernel_rfl) (by simp) (AllReadyIn.cons rfl (fun K hK => ?_) AllReadyIn.nil)
              (go_simp; refine hK _ _ ?_; clear hK K)
              refine wpAnyIn_done (by kernel_rfl) ?_ _
              exact ⟨rfl, rfl, hB2⟩
          ·
            (go_simp; refine hK _ _ ?_; clear hK K)
            refine wpAnyIn_ready (rs := [1]) (by kernel_rfl) (by simp) (AllReadyIn.cons rfl (fun K hK => ?_) AllReadyIn.nil)
            (go_simp; refine hK _ _ ?_; clear hK K)
            refine wpAnyIn_take (i := 3) (v := ?_) rfl rfl (by kernel_rfl) (by kernel_rfl) (by kernel_rfl) (fun _ _ _ h => by cases h.1) ⟨Or.inl ⟨by rfl, ?_⟩, fun _ => rfl⟩ ?_
            rotate_left
            focus (intro w; go_simp; first | done | with_reducible rfl)
            refine wpAnyIn_ready (rs := [4]) (by kernel_rfl) (by simp) (AllReadyIn.cons rfl (fun K hK => ?_) AllReadyIn.nil)
            (go_simp; refine hK _ _ ?_; clear hK K)
            refine wpAnyIn_ready (rs := [9]) (by kernel_rfl) (by simp) (AllReadyIn.cons rfl (fun K hK => ?_) AllReadyIn.nil)
            go_simp
            gi_wp2_with (refine ⟨trivial, ?_⟩; gi_at_call 40; refine (CallsIn.inRound l (callsIn_wide.2 (hand _))).mono ?_; rintro e w' ⟨rfl, hB1⟩; have hB2 : Below W.heap.size W w' := (Below.refl W.heap.size W).drew.trans hB1; clear hB1; have k1 := (hB2.cell (p := ⟨w2.heap.size, 0, none⟩) l6).trans c6; have k2 := (hB2.cell (p := ⟨g, a, none⟩) hgW).trans ca; have k3 := (hB2.cell (p := ⟨g, b, none⟩) hgW).trans cb; have k4 := (hB2.cell (p := ⟨w3.heap.size, 0, none⟩) l8).trans cm; have k6 := HLK.out w' hB2)
            refine wpAnyIn_ready (rs := [10]) (by kernel_rfl) (by simp) (AllReadyIn.cons rfl (fun K hK => ?_) AllReadyIn.nil)
            (go_simp; refine hK _ _ ?_; clear hK K)
            refine wpAnyIn_ready (rs := [11]) (by kernel_rfl) (by simp) (AllReadyIn.cons rfl (fun K hK => ?_) AllReadyIn.nil)
            (go_simp; refine hK _ _ ?_; clear hK K)
            refine wpAnyIn_done (by kernel_rfl) ?_ _
            exact ⟨rfl, rfl, hB2⟩
      ·
        (go_simp; refine hK _ _ ?_; clear hK K)
        refine wpAnyIn_take (i := 3) (v := ?_) rfl rfl (by kernel_rfl) (by kernel_rfl) (by kernel_rfl) (fun _ _ _ h => by cases h.1) ⟨Or.inl ⟨by rfl, ?_⟩, fun _ => rfl⟩ ?_
        rotate_left
        focus (intro w; go_simp; first | done | with_reducible rfl)
        refine wpAnyIn_ready (rs := [0, 4, 5]) (by kernel_rfl) (by simp) (AllReadyIn.cons rfl (fun K hK => ?_) (AllReadyIn.cons rfl (fun K hK => ?_) (AllReadyIn.cons rfl (fun K hK => ?_) AllReadyIn.nil)))
        ·
          (go_simp; refine hK _ _ ?_; clear hK K)
          refine wpAnyIn_ready (rs := [4, 5]) (by kernel_rfl) (by simp) (AllReadyIn.cons rfl (fun K hK => ?_) (AllReadyIn.cons rfl (fun K hK => ?_) AllReadyIn.nil))
          ·
            (go_simp; refine hK _ _ ?_; clear hK K)
            refine wpAnyIn_ready (rs := [5]) (by kernel_rfl) (by simp) (AllReadyIn.cons rfl (fun K hK => ?_) AllReadyIn.nil)
            (go_simp; refine hK _ _ ?_; clear hK K)
            refine wpAnyIn_take (i := 7) (v := ?_) rfl rfl (by kernel_rfl) (by kernel_rfl) (by kernel_rfl) (fun _ _ _ h => by cases h.1) ⟨Or.inl ⟨by rfl, ?_⟩, fun _ => rfl⟩ ?_
            rotate_left
            focus (intro w; go_simp; first | done | with_reducible rfl)
            refine wpAnyIn_ready (rs := [8]) (by kernel_rfl) (by simp) (AllReadyIn.cons rfl (fun K hK => ?_) AllReadyIn.nil)
            (go_simp; refine hK _ _ ?_; clear hK K)
            refine wpAnyIn_ready (rs := [9]) (by kernel_rfl) (by simp) (AllReadyIn.cons rfl (fun K hK => ?_) AllReadyIn.nil)
            go_simp
            gi_wp2_with (refine ⟨trivial, ?_⟩; gi_at_call 40; refine (CallsIn.inRound l (callsIn_wide.2 (hand _))).mono ?_; rintro e w' ⟨rfl, hB1⟩; have hB2 : Below W.heap.size W w' := (Below.refl W.heap.size W).drew.trans hB1; clear hB1; have k1 := (hB2.cell (p := ⟨w2.heap.size, 0, none⟩) l6).trans c6; have k2 := (hB2.cell (p := ⟨g, a, none⟩) hgW).trans ca; have k3 := (hB2.cell (p := ⟨g, b, none⟩) hgW).trans cb; have k4 := (hB2.cell (p := ⟨w3.heap.size, 0, none⟩) l8).trans cm; have k6 := HLK.out w' hB2)
            refine wpAnyIn_ready (rs := [10]) (by kernel_rfl) (by simp) (AllReadyIn.cons rfl (fun K hK => ?_) AllReadyIn.nil)
            (go_simp; refine hK _ _ ?_; clear hK K)
            refine wpAnyIn_ready (rs := [11]) (by kernel_rfl) (by simp) (AllReadyIn.cons rfl (fun K hK => ?_) AllReadyIn.nil)
            (go_simp; refine hK _ _ ?_; clear hK K)
            refine wpAnyIn_done (by kernel_rfl) ?_ _
            exact ⟨rfl, rfl, hB2⟩
          ·
            (go_simp; refine hK _ _ ?_; clear hK K)
            refine wpAnyIn_take (i := 7) (v := ?_) rfl rfl (by kernel_rfl) (by kernel_rfl) (by kernel_rfl) (fun _ _ _ h => by cases h.1) ⟨Or.inl ⟨by rfl, ?_⟩, fun _ => rfl⟩ ?_
            rotate_left
            focus (intro w; go_simp; first | done | with_reducible rfl)
            refine wpAnyIn_ready (rs := [4, 8]) (by kernel_rfl) (by simp) (AllReadyIn.cons rfl (fun K hK => ?_) (AllReadyIn.cons rfl (fun K hK => ?_) AllReadyIn.nil))
            ·
              (go_simp; refine hK _ _ ?_; clear hK K)
              refine wpAnyIn_ready (rs := [8]) (by kernel_rfl) (by simp) (AllReadyIn.cons rfl (fun K hK => ?_) AllReadyIn.nil)
              (go_simp; refine hK _ _ ?_; clear hK K)
              refine wpAnyIn_ready (rs := [9]) (by kernel_rfl) (by simp) (AllReadyIn.cons rfl (fun K hK => ?_) AllReadyIn.nil)
              go_simp
              gi_wp2_with (refine ⟨trivial, ?_⟩; gi_at_call 40; refine (CallsIn.inRound l (callsIn_wide.2 (hand _))).mono ?_; rintro e w' ⟨rfl, hB1⟩; have hB2 : Below W.heap.size W w' := (Below.refl W.heap.size W).drew.trans hB1; clear hB1; have k1 := (hB2.cell (p := ⟨w2.heap.size, 0, none⟩) l6).trans c6; have k2 := (hB2.cell (p := ⟨g, a, none⟩) hgW).trans ca; have k3 := (hB2.cell (p := ⟨g, b, none⟩) hgW).trans cb; have k4 := (hB2.cell (p := ⟨w3.heap.size, 0, none⟩) l8).trans cm; have k6 := HLK.out w' hB2)
              refine wpAnyIn_ready (rs := [10]) (by kernel_rfl) (by simp) (AllReadyIn.cons rfl (fun K hK => ?_) AllReadyIn.nil)
              (go_simp; refine hK _ _ ?_; clear hK K)
              refine wpAnyIn_ready (rs := [11]) (by kernel_rfl) (by simp) (AllReadyIn.cons rfl (fun K hK => ?_) AllReadyIn.nil)
              (go_simp; refine hK _ _ ?_; clear hK K)
              refine wpAnyIn_done (by kernel_rfl) ?_ _
              exact ⟨rfl, rfl, hB2⟩
            ·
              (go_simp; refine hK _ _ ?_; clear hK K)
              refine wpAnyIn_ready (rs := [4]) (by kernel_rfl) (by simp) (AllReadyIn.cons rfl (fun K hK => ?_) AllReadyIn.nil)
              (go_simp; refine hK _ _ ?_; clear hK K)
              refine wpAnyIn_ready (rs := [9]) (by kernel_rfl) (by simp) (AllReadyIn.cons rfl (fun K hK => ?_) AllReadyIn.nil)
              go_simp
              gi_wp2_with (refine ⟨trivial, ?_⟩; gi_at_call 40; refine (CallsIn.inRound l (callsIn_wide.2 (hand _))).mono ?_; rintro e w' ⟨rfl, hB1⟩; have hB2 : Below W.heap.size W w' := (Below.refl W.heap.size W).drew.trans hB1; clear hB1; have k1 := (hB2.cell (p := ⟨w2.heap.size, 0, none⟩) l6).trans c6; have k2 := (hB2.cell (p := ⟨g, a, none⟩) hgW).trans ca; have k3 := (hB2.cell (p := ⟨g, b, none⟩) hgW).trans cb; have k4 := (hB2.cell (p := ⟨w3.heap.size, 0, none⟩) l8).trans cm; have k6 := HLK.out w' hB2)
              refine wpAnyIn_ready (rs := [10]) (by kernel_rfl) (by simp) (AllReadyIn.cons rfl (fun K hK => ?_) AllReadyIn.nil)
              (go_simp; refine hK _ _ ?_; clear hK K)
              refine wpAnyIn_ready (rs := [11]) (by kernel_rfl) (by simp) (AllReadyIn.cons rfl (fun K hK => ?_) AllReadyIn.nil)
              (go_simp; refine hK _ _ ?_; clear hK K)
              refine wpAnyIn_done (by kernel_rfl) ?_ _
              exact ⟨rfl, rfl, hB2⟩
        ·
          (go_simp; refine hK _ _ ?_; clear hK K)
          refine wpAnyIn_ready (rs := [0, 5]) (by kernel_rfl) (by simp) (AllReadyIn.cons rfl (fun K hK => ?_) (AllReadyIn.cons rfl (fun K hK => ?_) AllReadyIn.nil))
          ·
            (go_simp; refine hK _ _ ?_; clear hK K)
            refine wpAnyIn_ready (rs := [5]) (by kernel_rfl) (by simp) (AllReadyIn.cons rfl (fun K hK => ?_) AllReadyIn.nil)
            (go_simp; refine hK _ _ ?_; clear hK K)
            refine wpAnyIn_take (i := 7) (v := ?_) rfl rfl (by kernel_rfl) (by kernel_rfl) (by kernel_rfl) (fun _ _ _ h => by cases h.1) ⟨Or.inl ⟨by rfl, ?_⟩, fun _ => rfl⟩ ?_
            rotate_left
            focus (intro w; go_simp; first | done | with_reducible rfl)
            refine wpAnyIn_ready (rs := [8]) (by kernel_rfl) (by simp) (AllReadyIn.cons rfl (fun K hK => ?_) AllReadyIn.nil)
            (go_simp; refine hK _ _ ?_; clear hK K)
            refine wpAnyIn_ready (rs := [9]) (by kernel_rfl) (by simp) (AllReadyIn.cons rfl (fun K hK => ?_) AllReadyIn.nil)
            go_simp
            gi_wp2_with (refine ⟨trivial, ?_⟩; gi_at_call 40; refine (CallsIn.inRound l (callsIn_wide.2 (hand _))).mono ?_; rintro e w' ⟨rfl, hB1⟩; have hB2 : Below W.heap.size W w' := (Below.refl W.heap.size W).drew.trans hB1; clear hB1; have k1 := (hB2.cell (p := ⟨w2.heap.size, 0, none⟩) l6).trans c6; have k2 := (hB2.cell (p := ⟨g, a, none⟩) hgW).trans ca; have k3 := (hB2.cell (p := ⟨g, b, none⟩) hgW).trans cb; have k4 := (hB2.cell (p := ⟨w3.heap.size, 0, none⟩) l8).trans cm; have k6 := HLK.out w' hB2)
            refine wpAnyIn_ready (rs := [10]) (by kernel_rfl) (by simp) (AllReadyIn.cons rfl (fun K hK => ?_) AllReadyIn.nil)
            (go_simp; refine hK _ _ ?_; clear hK K)
            refine wpAnyIn_ready (rs := [11]) (by kernel_rfl) (by simp) (AllReadyIn.cons rfl (fun K hK => ?_) AllReadyIn.nil)
            (go_simp; refine hK _ _ ?_; clear hK K)
            refine wpAnyIn_done (by kernel_rfl) ?_ _
            exact ⟨rfl, rfl, hB2⟩
          ·
            (go_simp; refine hK _ _ ?_; clear hK K)
            refine wpAnyIn_take (i := 7) (v := ?_) rfl rfl (by kernel_rfl) (by kernel_rfl) (by kernel_rfl) (fun _ _ _ h => by cases h.1) ⟨Or.inl ⟨by rfl, ?_⟩, fun _ => rfl⟩ ?_
            rotate_left
            focus (intro w; go_simp; first | done | with_reducible rfl)
            refine wpAnyIn_ready (rs := [0, 8]) (by kernel_rfl) (by simp) (AllReadyIn.cons rfl (fun K hK => ?_) (AllReadyIn.cons rfl (fun K hK => ?_) AllReadyIn.nil))
            ·
              (go_simp; refine hK _ _ ?_; clear hK K)
              refine wpAnyIn_ready (rs := [8]) (by kernel_rfl) (by simp) (AllReadyIn.cons rfl (fun K hK => ?_) AllReadyIn.nil)
              (go_simp; refine hK _ _ ?_; clear hK K)
              refine wpAnyIn_ready (rs := [9]) (by kernel_rfl) (by simp) (AllReadyIn.cons rfl (fun K hK => ?_) AllReadyIn.nil)
              go_simp
              gi_wp2_with (refine ⟨trivial, ?_⟩; gi_at_call 40; refine (CallsIn.inRound l (callsIn_wide.2 (hand _))).mono ?_; rintro e w' ⟨rfl, hB1⟩; have hB2 : Below W.heap.size W w' := (Below.refl W.heap.size W).drew.trans hB1; clear hB1; have k1 := (hB2.cell (p := ⟨w2.heap.size, 0, none⟩) l6).trans c6; have k2 := (hB2.cell (p := ⟨g, a, none⟩) hgW).trans ca; have k3 := (hB2.cell (p := ⟨g, b, none⟩) hgW).trans cb; have k4 := (hB2.cell (p := ⟨w3.heap.size, 0, none⟩) l8).trans cm; have k6 := HLK.out w' hB2)
              refine wpAnyIn_ready (rs := [10]) (by kernel_rfl) (by simp) (AllReadyIn.cons rfl (fun K hK => ?_) AllReadyIn.nil)
              (go_simp; refine hK _ _ ?_; clear hK K)
              refine wpAnyIn_ready (rs := [11]) (by kernel_rfl) (by simp) (AllReadyIn.cons rfl (fun K hK => ?_) AllReadyIn.nil)
              (go_simp; refine hK _ _ ?_; clear hK K)
              refine wpAnyIn_done (by kernel_rfl) ?_ _
              exact ⟨rfl, rfl, hB2⟩
            ·
              (go_simp; refine hK _ _ ?_; clear hK K)
              refine wpAnyIn_ready (rs := [0, 9]) (by kernel_rfl) (by simp) (AllReadyIn.cons rfl (fun K hK => ?_) (AllReadyIn.cons rfl (fun K hK => ?_) AllReadyIn.nil))
              ·
                (go_simp; refine hK _ _ ?_; clear hK K)
                refine wpAnyIn_ready (rs := [9]) (by kernel_rfl) (by simp) (AllReadyIn.cons rfl (fun K hK => ?_) AllReadyIn.nil)
                go_simp
                gi_wp2_with (refine ⟨trivial, ?_⟩; gi_at_call 40; refine (CallsIn.inRound l (callsIn_wide.2 (hand _))).mono ?_; rintro e w' ⟨rfl, hB1⟩; have hB2 : Below W.heap.size W w' := (Below.refl W.heap.size W).drew.trans hB1; clear hB1; have k1 := (hB2.cell (p := ⟨w2.heap.size, 0, none⟩) l6).trans c6; have k2 := (hB2.cell (p := ⟨g, a, none⟩) hgW).trans ca; have k3 := (hB2.cell (p := ⟨g, b, none⟩) hgW).trans cb; have k4 := (hB2.cell (p := ⟨w3.heap.size, 0, none⟩) l8).trans cm; have k6 := HLK.out w' hB2)
                refine wpAnyIn_ready (rs := [10]) (by kernel_rfl) (by simp) (AllReadyIn.cons rfl (fun K hK => ?_) AllReadyIn.nil)
                (go_simp; refine hK _ _ ?_; clear hK K)
                refine wpAnyIn_ready (rs := [11]) (by kernel_rfl) (by simp) (AllReadyIn.cons rfl (fun K hK => ?_) AllReadyIn.nil)
                (go_simp; refine hK _ _ ?_; clear hK K)
                refine wpAnyIn_done (by kernel_rfl) ?_ _
                exact ⟨rfl, rfl, hB2⟩
              ·
                go_simp
                gi_wp2_with (refine ⟨trivial, ?_⟩; gi_at_call 40; refine (CallsIn.inRound l (callsIn_wide.2 (hand _))).mono ?_; rintro e w' ⟨rfl, hB1⟩; have hB2 : Below W.heap.size W w' := (Below.refl W.heap.size W).drew.trans hB1; clear hB1; have k1 := (hB2.cell (p := ⟨w2.heap.size, 0, none⟩) l6).trans c6; have k2 := (hB2.cell (p := ⟨g, a, none⟩) hgW).trans ca; have k3 := (hB2.cell (p := ⟨g, b, none⟩) hgW).trans cb; have k4 := (hB2.cell (p := ⟨w3.heap.size, 0, none⟩) l8).trans cm; have k6 := HLK.out w' hB2)
                refine wpAnyIn_ready (rs := [0]) (by kernel_rfl) (by simp) (AllReadyIn.cons rfl (fun K hK => ?_) AllReadyIn.nil)
                (go_simp; refine hK _ _ ?_; clear hK K)
                refine wpAnyIn_ready (rs := [10]) (by kernel_rfl) (by simp) (AllReadyIn.cons rfl (fun K hK => ?_) AllReadyIn.nil)
                (go_simp; refine hK _ _ ?_; clear hK K)
                refine wpAnyIn_ready (rs := [11]) (by kernel_rfl) (by simp) (AllReadyIn.cons rfl (fun K hK => ?_) AllReadyIn.nil)
                (go_simp; refine hK _ _ ?_; clear hK K)
                refine wpAnyIn_done (by kernel_rfl) ?_ _
                exact ⟨rfl, rfl, hB2⟩
        ·
          (go_simp; refine hK _ _ ?_; clear hK K)
          refine wpAnyIn_take (i := 7) (v := ?_) rfl rfl (by kernel_rfl) (by kernel_rfl) (by kernel_rfl) (fun _ _ _ h => by cases h.1) ⟨Or.inl ⟨by rfl, ?_⟩, fun _ => rfl⟩ ?_
          rotate_left
          focus (intro w; go_simp; first | done | with_reducible rfl)
          refine wpAnyIn_ready (rs := [0, 4, 8]) (by kernel_rfl) (by simp) (AllReadyIn.cons rfl (fun K hK => ?_) (AllReadyIn.cons rfl (fun K hK => ?_) (AllReadyIn.cons rfl (fun K hK => ?_) AllReadyIn.nil)))
          ·
            (go_simp; refine hK _ _ ?_; clear hK K)
            refine wpAnyIn_ready (rs := [4, 8]) (by kernel_rfl) (by simp) (AllReadyIn.cons rfl (fun K hK => ?_) (AllReadyIn.cons rfl (fun K hK => ?_) AllReadyIn.nil))
            ·
              (go_simp; refine hK _ _ ?_; clear hK K)
              refine wpAnyIn_ready (rs := [8]) (by kernel_rfl) (by simp) (AllReadyIn.cons rfl (fun K hK => ?_) AllReadyIn.nil)
              (go_simp; refine hK _ _ ?_; clear hK K)
              refine wpAnyIn_ready (rs := [9]) (by kernel_rfl) (by simp) (AllReadyIn.cons rfl (fun K hK => ?_) AllReadyIn.nil)
              go_simp
              gi_wp2_with (refine ⟨trivial, ?_⟩; gi_at_call 40; refine (CallsIn.inRound l (callsIn_wide.2 (hand _))).mono ?_; rintro e w' ⟨rfl, hB1⟩; have hB2 : Below W.heap.size W w' := (Below.refl W.heap.size W).drew.trans hB1; clear hB1; have k1 := (hB2.cell (p := ⟨w2.heap.size, 0, none⟩) l6).trans c6; have k2 := (hB2.cell (p := ⟨g, a, none⟩) hgW).trans ca; have k3 := (hB2.cell (p := ⟨g, b, none⟩) hgW).trans cb; have k4 := (hB2.cell (p := ⟨w3.heap.size, 0, none⟩) l8).trans cm; have k6 := HLK.out w' hB2)
              refine wpAnyIn_ready (rs := [10]) (by kernel_rfl) (by simp) (AllReadyIn.cons rfl (fun K hK => ?_) AllReadyIn.nil)
              (go_simp; refine hK _ _ ?_; clear hK K)
              refine wpAnyIn_ready (rs := [11]) (by kernel_rfl) (by simp) (AllReadyIn.cons rfl (fun K hK => ?_) AllReadyIn.nil)
              (go_simp; refine hK _ _ ?_; clear hK K)
              refine wpAnyIn_done (by kernel_rfl) ?_ _
              exact ⟨rfl, rfl, hB2⟩
            ·
              (go_simp; refine hK _ _ ?_; clear hK K)
              refine wpAnyIn_ready (rs := [4]) (by kernel_rfl) (by simp) (AllReadyIn.cons rfl (fun K hK => ?_) AllReadyIn.nil)
              (go_simp; refine hK _ _ ?_; clear hK K)
              refine wpAnyIn_ready (rs := [9]) (by kernel_rfl) (by simp) (AllReadyIn.cons rfl (fun K hK => ?_) AllReadyIn.nil)
              go_simp
              gi_wp2_with (refine ⟨trivial, ?_⟩; gi_at_call 40; refine (CallsIn.inRound l (callsIn_wide.2 (hand _))).mono ?_; rintro e w' ⟨rfl, hB1⟩; have hB2 : Below W.heap.size W w' := (Below.refl W.heap.size W).drew.trans hB1; clear hB1; have k1 := (hB2.cell (p := ⟨w2.heap.size, 0, none⟩) l6).trans c6; have k2 := (hB2.cell (p := ⟨g, a, none⟩) hgW).trans ca; have k3 := (hB2.cell (p := ⟨g, b, none⟩) hgW).trans cb; have k4 := (hB2.cell (p := ⟨w3.heap.size, 0, none⟩) l8).trans cm; have k6 := HLK.out w' hB2)
              refine wpAnyIn_ready (rs := [10]) (by kernel_rfl) (by simp) (AllReadyIn.cons rfl (fun K hK => ?_) AllReadyIn.nil)
              (go_simp; refine hK _ _ ?_; clear hK K)
              refine wpAnyIn_ready (rs := [11]) (by kernel_rfl) (by simp) (AllReadyIn.cons rfl (fun K hK => ?_) AllReadyIn.nil)
              (go_simp; refine hK _ _ ?_; clear hK K)
              refine wpAnyIn_done (by kernel_rfl) ?_ _
              exact ⟨rfl, rfl, hB2⟩
          ·
            (go_simp; refine hK _ _ ?_; clear hK K)
            refine wpAnyIn_ready (rs := [0, 8]) (by kernel_rfl) (by simp) (AllReadyIn.cons rfl (fun K hK => ?_) (AllReadyIn.cons rfl (fun K hK => ?_) AllReadyIn.nil))
            ·
              (go_simp; refine hK _ _ ?_; clear hK K)
              refine wpAnyIn_ready (rs := [8]) (by kernel_rfl) (by simp) (AllReadyIn.cons rfl (fun K hK => ?_) AllReadyIn.nil)
              (go_simp; refine hK _ _ ?_; clear hK K)
              refine wpAnyIn_ready (rs := [9]) (by kernel_rfl) (by simp) (AllReadyIn.cons rfl (fun K hK => ?_) AllReadyIn.nil)
              go_simp
              gi_wp2_with (refine ⟨trivial, ?_⟩; gi_at_call 40; refine (CallsIn.inRound l (callsIn_wide.2 (hand _))).mono ?_; rintro e w' ⟨rfl, hB1⟩; have hB2 : Below W.heap.size W w' := (Below.refl W.heap.size W).drew.trans hB1; clear hB1; have k1 := (hB2.cell (p := ⟨w2.heap.size, 0, none⟩) l6).trans c6; have k2 := (hB2.cell (p := ⟨g, a, none⟩) hgW).trans ca; have k3 := (hB2.cell (p := ⟨g, b, none⟩) hgW).trans cb; have k4 := (hB2.cell (p := ⟨w3.heap.size, 0, none⟩) l8).trans cm; have k6 := HLK.out w' hB2)
              refine wpAnyIn_ready (rs := [10]) (by kernel_rfl) (by simp) (AllReadyIn.cons rfl (fun K hK => ?_) AllReadyIn.nil)
              (go_simp; refine hK _ _ ?_; clear hK K)
              refine wpAnyIn_ready (rs := [11]) (by kernel_rfl) (by simp) (AllReadyIn.cons rfl (fun K hK => ?_) AllReadyIn.nil)
              (go_simp; refine hK _ _ ?_; clear hK K)
              refine wpAnyIn_done (by kernel_rfl) ?_ _
              exact ⟨rfl, rfl, hB2⟩
            ·
              (go_simp; refine hK _ _ ?_; clear hK K)
              refine wpAnyIn_ready (rs := [0, 9]) (by kernel_rfl) (by simp) (AllReadyIn.cons rfl (fun K hK => ?_) (AllReadyIn.cons rfl (fun K hK => ?_) AllReadyIn.nil))
              ·
                (go_simp; refine hK _ _ ?_; clear hK K)
                refine wpAnyIn_ready (rs := [9]) (by kernel_rfl) (by simp) (AllReadyIn.cons rfl (fun K hK => ?_) AllReadyIn.nil)
                go_simp
                gi_wp2_with (refine ⟨trivial, ?_⟩; gi_at_call 40; refine (CallsIn.inRound l (callsIn_wide.2 (hand _))).mono ?_; rintro e w' ⟨rfl, hB1⟩; have hB2 : Below W.heap.size W w' := (Below.refl W.heap.size W).drew.trans hB1; clear hB1; have k1 := (hB2.cell (p := ⟨w2.heap.size, 0, none⟩) l6).trans c6; have k2 := (hB2.cell (p := ⟨g, a, none⟩) hgW).trans ca; have k3 := (hB2.cell (p := ⟨g, b, none⟩) hgW).trans cb; have k4 := (hB2.cell (p := ⟨w3.heap.size, 0, none⟩) l8).trans cm; have k6 := HLK.out w' hB2)
                refine wpAnyIn_ready (rs := [10]) (by kernel_rfl) (by simp) (AllReadyIn.cons rfl (fun K hK => ?_) AllReadyIn.nil)
                (go_simp; refine hK _ _ ?_; clear hK K)
                refine wpAnyIn_ready (rs := [11]) (by kernel_rfl) (by simp) (AllReadyIn.cons rfl (fun K hK => ?_) AllReadyIn.nil)
                (go_simp; refine hK _ _ ?_; clear hK K)
                refine wpAnyIn_done (by kernel_rfl) ?_ _
                exact ⟨rfl, rfl, hB2⟩
              ·
                go_simp
                gi_wp2_with (refine ⟨trivial, ?_⟩; gi_at_call 40; refine (CallsIn.inRound l (callsIn_wide.2 (hand _))).mono ?_; rintro e w' ⟨rfl, hB1⟩; have hB2 : Below W.heap.size W w' := (Below.refl W.heap.size W).drew.trans hB1; clear hB1; have k1 := (hB2.cell (p := ⟨w2.heap.size, 0, none⟩) l6).trans c6; have k2 := (hB2.cell (p := ⟨g, a, none⟩) hgW).trans ca; have k3 := (hB2.cell (p := ⟨g, b, none⟩) hgW).trans cb; have k4 := (hB2.cell (p := ⟨w3.heap.size, 0, none⟩) l8).trans cm; have k6 := HLK.out w' hB2)
                refine wpAnyIn_ready (rs := [0]) (by kernel_rfl) (by simp) (AllReadyIn.cons rfl (fun K hK => ?_) AllReadyIn.nil)
                (go_simp; refine hK _ _ ?_; clear hK K)
                refine wpAnyIn_ready (rs := [10]) (by kernel_rfl) (by simp) (AllReadyIn.cons rfl (fun K hK => ?_) AllReadyIn.nil)
                (go_simp; refine hK _ _ ?_; clear hK K)
                refine wpAnyIn_ready (rs := [11]) (by kernel_rfl) (by simp) (AllReadyIn.cons rfl (fun K hK => ?_) AllReadyIn.nil)
                (go_simp; refine hK _ _ ?_; clear hK K)
                refine wpAnyIn_done (by kernel_rfl) ?_ _
                exact ⟨rfl, rfl, hB2⟩
          ·
            (go_simp; refine hK _ _ ?_; clear hK K)
            refine wpAnyIn_ready (rs := [0, 4]) (by kernel_rfl) (by simp) (AllReadyIn.cons rfl (fun K hK => ?_) (AllReadyIn.cons rfl (fun K hK => ?_) AllReadyIn.nil))
            ·
              (go_simp; refine hK _ _ ?_; clear hK K)
              refine wpAnyIn_ready (rs := [4]) (by kernel_rfl) (by simp) (AllReadyIn.cons rfl (fun K hK => ?_) AllReadyIn.nil)
              (go_simp; refine hK _ _ ?_; clear hK K)
              refine wpAnyIn_ready (rs := [9]) (by kernel_rfl) (by simp) (AllReadyIn.cons rfl (fun K hK => ?_) AllReadyIn.nil)
              go_simp
              gi_wp2_with (refine ⟨trivial, ?_⟩; gi_at_call 40; refine (CallsIn.inRound l (callsIn_wide.2 (hand _))).mono ?_; rintro e w' ⟨rfl, hB1⟩; have hB2 : Below W.heap.size W w' := (Below.refl W.heap.size W).drew.trans hB1; clear hB1; have k1 := (hB2.cell (p := ⟨w2.heap.size, 0, none⟩) l6).trans c6; have k2 := (hB2.cell (p := ⟨g, a, none⟩) hgW).trans ca; have k3 := (hB2.cell (p := ⟨g, b, none⟩) hgW).trans cb; have k4 := (hB2.cell (p := ⟨w3.heap.size, 0, none⟩) l8).trans cm; have k6 := HLK.out w' hB2)
              refine wpAnyIn_ready (rs := [10]) (by kernel_rfl) (by simp) (AllReadyIn.cons rfl (fun K hK => ?_) AllReadyIn.nil)
              (go_simp; refine hK _ _ ?_; clear hK K)
              refine wpAnyIn_ready (rs := [11]) (by kernel_rfl) (by simp) (AllReadyIn.cons rfl (fun K hK => ?_) AllReadyIn.nil)
              (go_simp; refine hK _ _ ?_; clear hK K)
              refine wpAnyIn_done (by kernel_rfl) ?_ _
              exact ⟨rfl, rfl, hB2⟩
            ·
              (go_simp; refine hK _ _ ?_; clear hK K)
              refine wpAnyIn_ready (rs := [0, 9]) (by kernel_rfl) (by simp) (AllReadyIn.cons rfl (fun K hK => ?_) (AllReadyIn.cons rfl (fun K hK => ?_) AllReadyIn.nil))
              ·
                (go_simp; refine hK _ _ ?_; clear hK K)
                refine wpAnyIn_ready (rs := [9]) (by kernel_rfl) (by simp) (AllReadyIn.cons rfl (fun K hK => ?_) AllReadyIn.nil)
                go_simp
                gi_wp2_with (refine ⟨trivial, ?_⟩; gi_at_call 40; refine (CallsIn.inRound l (callsIn_wide.2 (hand _))).mono ?_; rintro e w' ⟨rfl, hB1⟩; have hB2 : Below W.heap.size W w' := (Below.refl W.heap.size W).drew.trans hB1; clear hB1; have k1 := (hB2.cell (p := ⟨w2.heap.size, 0, none⟩) l6).trans c6; have k2 := (hB2.cell (p := ⟨g, a, none⟩) hgW).trans ca; have k3 := (hB2.cell (p := ⟨g, b, none⟩) hgW).trans cb; have k4 := (hB2.cell (p := ⟨w3.heap.size, 0, none⟩) l8).trans cm; have k6 := HLK.out w' hB2)
                refine wpAnyIn_ready (rs := [10]) (by kernel_rfl) (by simp) (AllReadyIn.cons rfl (fun K hK => ?_) AllReadyIn.nil)
                (go_simp; refine hK _ _ ?_; clear hK K)
                refine wpAnyIn_ready (rs := [11]) (by kernel_rfl) (by simp) (AllReadyIn.cons rfl (fun K hK => ?_) AllReadyIn.nil)
                (go_simp; refine hK _ _ ?_; clear hK K)
                refine wpAnyIn_done (by kernel_rfl) ?_ _
                exact ⟨rfl, rfl, hB2⟩
              ·
                go_simp
                gi_wp2_with (refine ⟨trivial, ?_⟩; gi_at_call 40; refine (CallsIn.inRound l (callsIn_wide.2 (hand _))).mono ?_; rintro e w' ⟨rfl, hB1⟩; have hB2 : Below W.heap.size W w' := (Below.refl W.heap.size W).drew.trans hB1; clear hB1; have k1 := (hB2.cell (p := ⟨w2.heap.size, 0, none⟩) l6).trans c6; have k2 := (hB2.cell (p := ⟨g, a, none⟩) hgW).trans ca; have k3 := (hB2.cell (p := ⟨g, b, none⟩) hgW).trans cb; have k4 := (hB2.cell (p := ⟨w3.heap.size, 0, none⟩) l8).trans cm; have k6 := HLK.out w' hB2)
                refine wpAnyIn_ready (rs := [0]) (by kernel_rfl) (by simp) (AllReadyIn.cons rfl (fun K hK => ?_) AllReadyIn.nil)
                (go_simp; refine hK _ _ ?_; clear hK K)
                refine wpAnyIn_ready (rs := [10]) (by kernel_rfl) (by simp) (AllReadyIn.cons rfl (fun K hK => ?_) AllReadyIn.nil)
                (go_simp; refine hK _ _ ?_; clear hK K)
                refine wpAnyIn_ready (rs := [11]) (by kernel_rfl) (by simp) (AllReadyIn.cons rfl (fun K hK => ?_) AllReadyIn.nil)
                (go_simp; refine hK _ _ ?_; clear hK K)
                refine wpAnyIn_done (by kernel_rfl) ?_ _
                exact ⟨rfl, rfl, hB2⟩
      ·
        (go_simp; refine hK _ _ ?_; clear hK K)
        refine wpAnyIn_take (i := 7) (v := ?_) rfl rfl (by kernel_rfl) (by kernel_rfl) (by kernel_rfl) (fun _ _ _ h => by cases h.1) ⟨Or.inl ⟨by rfl, ?_⟩, fun _ => rfl⟩ ?_
        rotate_left
        focus (intro w; go_simp; first | done | with_reducible rfl)
        refine wpAnyIn_ready (rs := [0, 1, 8]) (by kernel_rfl) (by simp) (AllReadyIn.cons rfl (fun K hK => ?_) (AllReadyIn.cons rfl (fun K hK => ?_) (AllReadyIn.cons rfl (fun K hK => ?_) AllReadyIn.nil)))
        ·
          (go_simp; refine hK _ _ ?_; clear hK K)
          refine wpAnyIn_ready (rs := [1, 8]) (by kernel_rfl) (by simp) (AllReadyIn.cons rfl (fun K hK => ?_) (AllReadyIn.cons rfl (fun K hK => ?_) AllReadyIn.nil))
          ·
            (go_simp; refine hK _ _ ?_; clear hK K)
            refine wpAnyIn_take (i := 3) (v := ?_) rfl rfl (by kernel_rfl) (by kernel_rfl) (by kernel_rfl) (fun _ _ _ h => by cases h.1) ⟨Or.inl ⟨by rfl, ?_⟩, fun _ => rfl⟩ ?_
            rotate_left
            focus (intro w; go_simp; first | done | with_reducible rfl)
            refine wpAnyIn_ready (rs := [4, 8]) (by kernel_rfl) (by simp) (AllReadyIn.cons rfl (fun K hK => ?_) (AllReadyIn.cons rfl (fun K hK => ?_) AllReadyIn.nil))
            ·
              (go_simp; refine hK _ _ ?_; clear hK K)
              refine wpAnyIn_ready (rs := [8]) (by kernel_rfl) (by simp) (AllReadyIn.cons rfl (fun K hK => ?_) AllReadyIn.nil)
              (go_simp; refine hK _ _ ?_; clear hK K)
              refine wpAnyIn_ready (rs := [9]) (by kernel_rfl) (by simp) (AllReadyIn.cons rfl (fun K hK => ?_) AllReadyIn.nil)
              go_simp
              gi_wp2_with (refine ⟨trivial, ?_⟩; gi_at_call 40; refine (CallsIn.inRound l (callsIn_wide.2 (hand _))).mono ?_; rintro e w' ⟨rfl, hB1⟩; have hB2 : Below W.heap.size W w' := (Below.refl W.heap.size W).drew.trans hB1; clear hB1; have k1 := (hB2.cell (p := ⟨w2.heap.size, 0, none⟩) l6).trans c6; have k2 := (hB2.cell (p := ⟨g, a, none⟩) hgW).trans ca; have k3 := (hB2.cell (p := ⟨g, b, none⟩) hgW).trans cb; have k4 := (hB2.cell (p := ⟨w3.heap.size, 0, none⟩) l8).trans cm; have k6 := HLK.out w' hB2)
              refine wpAnyIn_ready (rs := [10]) (by kernel_rfl) (by simp) (AllReadyIn.cons rfl (fun K hK => ?_) AllReadyIn.nil)
              (go_simp; refine hK _ _ ?_; clear hK K)
              refine wpAnyIn_ready (rs := [11]) (by kernel_rfl) (by simp) (AllReadyIn.cons rfl (fun K hK => ?_) AllReadyIn.nil)
              (go_simp; refine hK _ _ ?_; clear hK K)
              refine wpAnyIn_done (by kernel_rfl) ?_ _
              exact ⟨rfl, rfl, hB2⟩
            ·
              (go_simp; refine hK _ _ ?_; clear hK K)
              refine wpAnyIn_ready (rs := [4]) (by kernel_rfl) (by simp) (AllReadyIn.cons rfl (fun K hK => ?_) AllReadyIn.nil)
              (go_simp; refine hK _ _ ?_; clear hK K)
              refine wpAnyIn_ready (rs := [9]) (by kernel_rfl) (by simp) (AllReadyIn.cons rfl (fun K hK => ?_) AllReadyIn.nil)
              go_simp
              gi_wp2_with (refine ⟨trivial, ?_⟩; gi_at_call 40; refine (CallsIn.inRound l (callsIn_wide.2 (hand _))).mono ?_; rintro e w' ⟨rfl, hB1⟩; have hB2 : Below W.heap.size W w' := (Below.refl W.heap.size W).drew.trans hB1; clear hB1; have k1 := (hB2.cell (p := ⟨w2.heap.size, 0, none⟩) l6).trans c6; have k2 := (hB2.cell (p := ⟨g, a, none⟩) hgW).trans ca; have k3 := (hB2.cell (p := ⟨g, b, none⟩) hgW).trans cb; have k4 := (hB2.cell (p := ⟨w3.heap.size, 0, none⟩) l8).trans cm; have k6 := HLK.out w' hB2)
              refine wpAnyIn_ready (rs := [10]) (by kernel_rfl) (by simp) (AllReadyIn.cons rfl (fun K hK => ?_) AllReadyIn.nil)
              (go_simp; refine hK _ _ ?_; clear hK K)
              refine wpAnyIn_ready (rs := [11]) (by kernel_rfl) (by simp) (AllReadyIn.cons rfl (fun K hK => ?_) AllReadyIn.nil)
              (go_simp; refine hK _ _ ?_; clear hK K)
              refine wpAnyIn_done (by kernel_rfl) ?_ _
              exact ⟨rfl, rfl, hB2⟩
          ·
            (go_simp; refine hK _ _ ?_; clear hK K)
            refine wpAnyIn_ready (rs := [1]) (by kernel_rfl) (by simp) (AllReadyIn.cons rfl (fun K hK => ?_) AllReadyIn.nil)
            (go_simp; refine hK _ _ ?_; clear hK K)
            refine wpAnyIn_take (i := 3) (v := ?_) rfl rfl (by kernel_rfl) (by kernel_rfl) (by kernel_rfl) (fun _ _ _ h => by cases h.1) ⟨Or.inl ⟨by rfl, ?_⟩, fun _ => rfl⟩ ?_
            rotate_left
            focus (intro w; go_simp; first | done | with_reducible rfl)
            refine wpAnyIn_ready (rs := [4]) (by kernel_rfl) (by simp) (AllReadyIn.cons rfl (fun K hK => ?_) AllReadyIn.nil)
            (go_simp; refine hK _ _ ?_; clear hK K)
            refine wpAnyIn_ready (rs := [9]) (by kernel_rfl) (by simp) (AllReadyIn.cons rfl (fun K hK => ?_) AllReadyIn.nil)
            go_simp
            gi_wp2_with (refine ⟨trivial, ?_⟩; gi_at_call 40; refine (CallsIn.inRound l (callsIn_wide.2 (hand _))).mono ?_; rintro e w' ⟨rfl, hB1⟩; have hB2 : Below W.heap.size W w' := (Below.refl W.heap.size W).drew.trans hB1; clear hB1; have k1 := (hB2.cell (p := ⟨w2.heap.size, 0, none⟩) l6).trans c6; have k2 := (hB2.cell (p := ⟨g, a, none⟩) hgW).trans ca; have k3 := (hB2.cell (p := ⟨g, b, none⟩) hgW).trans cb; have k4 := (hB2.cell (p := ⟨w3.heap.size, 0, none⟩) l8).trans cm; have k6 := HLK.out w' hB2)
            refine wpAnyIn_ready (rs := [10]) (by kernel_rfl) (by simp) (AllReadyIn.cons rfl (fun K hK => ?_) AllReadyIn.nil)
            (go_simp; refine hK _ _ ?_; clear hK K)
            refine wpAnyIn_ready (rs := [11]) (by kernel_rfl) (by simp) (AllReadyIn.cons rfl (fun K hK => ?_) AllReadyIn.nil)
            (go_simp; refine hK _ _ ?_; clear hK K)
            refine wpAnyIn_done (by kernel_rfl) ?_ _
            exact ⟨rfl, rfl, hB2⟩
        ·
          (go_simp; refine hK _ _ ?_; clear hK K)
          refine wpAnyIn_take (i := 3) (v := ?_) rfl rfl (by kernel_rfl) (by kernel_rfl) (by kernel_rfl) (fun _ _ _ h => by cases h.1) ⟨Or.inl ⟨by rfl, ?_⟩, fun _ => rfl⟩ ?_
          rotate_left
          focus (intro w; go_simp; first | done | with_reducible rfl)
          refine wpAnyIn_ready (rs := [0, 4, 8]) (by kernel_rfl) (by simp) (AllReadyIn.cons rfl (fun K hK => ?_) (AllReadyIn.cons rfl (fun K hK => ?_) (AllReadyIn.cons rfl (fun K hK => ?_) AllReadyIn.nil)))
          ·
            (go_simp; refine hK _ _ ?_; clear hK K)
            refine wpAnyIn_ready (rs := [4, 8]) (by kernel_rfl) (by simp) (AllReadyIn.cons rfl (fun K hK => ?_) (AllReadyIn.cons rfl (fun K hK => ?_) AllReadyIn.nil))
            ·
              (go_simp; refine hK _ _ ?_; clear hK K)
              refine wpAnyIn_ready (rs := [8]) (by kernel_rfl) (by simp) (AllReadyIn.cons rfl (fun K hK => ?_) AllReadyIn.nil)
              (go_simp; refine hK _ _ ?_; clear hK K)
              refine wpAnyIn_ready (rs := [9]) (by kernel_rfl) (by simp) (AllReadyIn.cons rfl (fun K hK => ?_) AllReadyIn.nil)
              go_simp
              gi_wp2_with (refine ⟨trivial, ?_⟩; gi_at_call 40; refine (CallsIn.inRound l (callsIn_wide.2 (hand _))).mono ?_; rintro e w' ⟨rfl, hB1⟩; have hB2 : Below W.heap.size W w' := (Below.refl W.heap.size W).drew.trans hB1; clear hB1; have k1 := (hB2.cell (p := ⟨w2.heap.size, 0, none⟩) l6).trans c6; have k2 := (hB2.cell (p := ⟨g, a, none⟩) hgW).trans ca; have k3 := (hB2.cell (p := ⟨g, b, none⟩) hgW).trans cb; have k4 := (hB2.cell (p := ⟨w3.heap.size, 0, none⟩) l8).trans cm; have k6 := HLK.out w' hB2)
              refine wpAnyIn_ready (rs := [10]) (by kernel_rfl) (by simp) (AllReadyIn.cons rfl (fun K hK => ?_) AllReadyIn.nil)
              (go_simp; refine hK _ _ ?_; clear hK K)
              refine wpAnyIn_ready (rs := [11]) (by kernel_rfl) (by simp) (AllReadyIn.cons rfl (fun K hK => ?_) AllReadyIn.nil)
              (go_simp; refine hK _ _ ?_; clear hK K)
              refine wpAnyIn_done (by kernel_rfl) ?_ _
              exact ⟨rfl, rfl, hB2⟩
            ·
              (go_simp; refine hK _ _ ?_; clear hK K)
              refine wpAnyIn_ready (rs := [4]) (by kernel_rfl) (by simp) (AllReadyIn.cons rfl (fun K hK => ?_) AllReadyIn.nil)
              (go_simp; refine hK _ _ ?_; clear hK K)
              refine wpAnyIn_ready (rs := [9]) (by kernel_rfl) (by simp) (AllReadyIn.cons rfl (fun K hK => ?_) AllReadyIn.nil)
              go_simp
              gi_wp2_with (refine ⟨trivial, ?_⟩; gi_at_call 40; refine (CallsIn.inRound l (callsIn_wide.2 (hand _))).mono ?_; rintro e w' ⟨rfl, hB1⟩; have hB2 : Below W.heap.size W w' := (Below.refl W.heap.size W).drew.trans hB1; clear hB1; have k1 := (hB2.cell (p := ⟨w2.heap.size, 0, none⟩) l6).trans c6; have k2 := (hB2.cell (p := ⟨g, a, none⟩) hgW).trans ca; have k3 := (hB2.cell (p := ⟨g, b, none⟩) hgW).trans cb; have k4 := (hB2.cell (p := ⟨w3.heap.size, 0, none⟩) l8).trans cm; have k6 := HLK.out w' hB2)
              refine wpAnyIn_ready (rs := [10]) (by kernel_rfl) (by simp) (AllReadyIn.cons rfl (fun K hK => ?_) AllReadyIn.nil)
              (go_simp; refine hK _ _ ?_; clear hK K)
              refine wpAnyIn_ready (rs := [11]) (by kernel_rfl) (by simp) (AllReadyIn.cons rfl (fun K hK => ?_) AllReadyIn.nil)
              (go_simp; refine hK _ _ ?_; clear hK K)
              refine wpAnyIn_done (by kernel_rfl) ?_ _
              exact ⟨rfl, rfl, hB2⟩
          ·
            (go_simp; refine hK _ _ ?_; clear hK K)
            refine wpAnyIn_ready (rs := [0, 8]) (by kernel_rfl) (by simp) (AllReadyIn.cons rfl (fun K hK => ?_) (AllReadyIn.cons rfl (fun K hK => ?_) AllReadyIn.nil))
            ·
              (go_simp; refine hK _ _ ?_; clear hK K)
              refine wpAnyIn_ready (rs := [8]) (by kernel_rfl) (by simp) (AllReadyIn.cons rfl (fun K hK => ?_) AllReadyIn.nil)
              (go_simp; refine hK _ _ ?_; clear hK K)
              refine wpAnyIn_ready (rs := [9]) (by kernel_rfl) (by simp) (AllReadyIn.cons rfl (fun K hK => ?_) AllReadyIn.nil)
              go_simp
              gi_wp2_with (refine ⟨trivial, ?_⟩; gi_at_call 40; refine (CallsIn.inRound l (callsIn_wide.2 (hand _))).mono ?_; rintro e w' ⟨rfl, hB1⟩; have hB2 : Below W.heap.size W w' := (Below.refl W.heap.size W).drew.trans hB1; clear hB1; have k1 := (hB2.cell (p := ⟨w2.heap.size, 0, none⟩) l6).trans c6; have k2 := (hB2.cell (p := ⟨g, a, none⟩) hgW).trans ca; have k3 := (hB2.cell (p := ⟨g, b, none⟩) hgW).trans cb; have k4 := (hB2.cell (p := ⟨w3.heap.size, 0, none⟩) l8).trans cm; have k6 := HLK.out w' hB2)
              refine wpAnyIn_ready (rs := [10]) (by kernel_rfl) (by simp) (AllReadyIn.cons rfl (fun K hK => ?_) AllReadyIn.nil)
              (go_simp; refine hK _ _ ?_; clear hK K)
              refine wpAnyIn_ready (rs := [11]) (by kernel_rfl) (by simp) (AllReadyIn.cons rfl (fun K hK => ?_) AllReadyIn.nil)
              (go_simp; refine hK _ _ ?_; clear hK K)
              refine wpAnyIn_done (by kernel_rfl) ?_ _
              exact ⟨rfl, rfl, hB2⟩
            ·
              (go_simp; refine hK _ _ ?_; clear hK K)
              refine wpAnyIn_ready (rs := [0, 9]) (by kernel_rfl) (by simp) (AllReadyIn.cons rfl (fun K hK => ?_) (AllReadyIn.cons rfl (fun K hK => ?_) AllReadyIn.nil))
              ·
                (go_simp; refine hK _ _ ?_; clear hK K)
                refine wpAnyIn_ready (rs := [9]) (by kernel_rfl) (by simp) (AllReadyIn.cons rfl (fun K hK => ?_) AllReadyIn.nil)
                go_simp
                gi_wp2_with (refine ⟨trivial, ?_⟩; gi_at_call 40; refine (CallsIn.inRound l (callsIn_wide.2 (hand _))).mono ?_; rintro e w' ⟨rfl, hB1⟩; have hB2 : Below W.heap.size W w' := (Below.refl W.heap.size W).drew.trans hB1; clear hB1; have k1 := (hB2.cell (p := ⟨w2.heap.size, 0, none⟩) l6).trans c6; have k2 := (hB2.cell (p := ⟨g, a, none⟩) hgW).trans ca; have k3 := (hB2.cell (p := ⟨g, b, none⟩) hgW).trans cb; have k4 := (hB2.cell (p := ⟨w3.heap.size, 0, none⟩) l8).trans cm; have k6 := HLK.out w' hB2)
                refine wpAnyIn_ready (rs := [10]) (by kernel_rfl) (by simp) (AllReadyIn.cons rfl (fun K hK => ?_) AllReadyIn.nil)
                (go_simp; refine hK _ _ ?_; clear hK K)
                refine wpAnyIn_ready (rs := [11]) (by kernel_rfl) (by simp) (AllReadyIn.cons rfl (fun K hK => ?_) AllReadyIn.nil)
                (go_simp; refine hK _ _ ?_; clear hK K)
                refine wpAnyIn_done (by kernel_rfl) ?_ _
                exact ⟨rfl, rfl, hB2⟩
              ·
                go_simp
                gi_wp2_with (refine ⟨trivial, ?_⟩; gi_at_call 40; refine (CallsIn.inRound l (callsIn_wide.2 (hand _))).mono ?_; rintro e w' ⟨rfl, hB1⟩; have hB2 : Below W.heap.size W w' := (Below.refl W.heap.size W).drew.trans hB1; clear hB1; have k1 := (hB2.cell (p := ⟨w2.heap.size, 0, none⟩) l6).trans c6; have k2 := (hB2.cell (p := ⟨g, a, none⟩) hgW).trans ca; have k3 := (hB2.cell (p := ⟨g, b, none⟩) hgW).trans cb; have k4 := (hB2.cell (p := ⟨w3.heap.size, 0, none⟩) l8).trans cm; have k6 := HLK.out w' hB2)
                refine wpAnyIn_ready (rs := [0]) (by kernel_rfl) (by simp) (AllReadyIn.cons rfl (fun K hK => ?_) AllReadyIn.nil)
                (go_simp; refine hK _ _ ?_; clear hK K)
                refine wpAnyIn_ready (rs := [10]) (by kernel_rfl) (by simp) (AllReadyIn.cons rfl (fun K hK => ?_) AllReadyIn.nil)
                (go_simp; refine hK _ _ ?_; clear hK K)
                refine wpAnyIn_ready (rs := [11]) (by kernel_rfl) (by simp) (AllReadyIn.cons rfl (fun K hK => ?_) AllReadyIn.nil)
                (go_simp; refine hK _ _ ?_; clear hK K)
                refine wpAnyIn_done (by kernel_rfl) ?_ _
                exact ⟨rfl, rfl, hB2⟩
          ·
            (go_simp; refine hK _ _ ?_; clear hK K)
            refine wpAnyIn_ready (rs := [0, 4]) (by kernel_rfl) (by simp) (AllReadyIn.cons rfl (fun K hK => ?_) (AllReadyIn.cons rfl (fun K hK => ?_) AllReadyIn.nil))
            ·
              (go_simp; refine hK _ _ ?_; clear hK K)
              refine wpAnyIn_ready (rs := [4]) (by kernel_rfl) (by simp) (AllReadyIn.cons rfl (fun K hK => ?_) AllReadyIn.nil)
              (go_simp; refine hK _ _ ?_; clear hK K)
              refine wpAnyIn_ready (rs := [9]) (by kernel_rfl) (by simp) (AllReadyIn.cons rfl (fun K hK => ?_) AllReadyIn.nil)
              go_simp
              gi_wp2_with (refine ⟨trivial, ?_⟩; gi_at_call 40; refine (CallsIn.inRound l (callsIn_wide.2 (hand _))).mono ?_; rintro e w' ⟨rfl, hB1⟩; have hB2 : Below W.heap.size W w' := (Below.refl W.heap.size W).drew.trans hB1; clear hB1; have k1 := (hB2.cell (p := ⟨w2.heap.size, 0, none⟩) l6).trans c6; have k2 := (hB2.cell (p := ⟨g, a, none⟩) hgW).trans ca; have k3 := (hB2.cell (p := ⟨g, b, none⟩) hgW).trans cb; have k4 := (hB2.cell (p := ⟨w3.heap.size, 0, none⟩) l8).trans cm; have k6 := HLK.out w' hB2)
              refine wpAnyIn_ready (rs := [10]) (by kernel_rfl) (by simp) (AllReadyIn.cons rfl (fun K hK => ?_) AllReadyIn.nil)
              (go_simp; refine hK _ _ ?_; clear hK K)
              refine wpAnyIn_ready (rs := [11]) (by kernel_rfl) (by simp) (AllReadyIn.cons rfl (fun K hK => ?_) AllReadyIn.nil)
              (go_simp; refine hK _ _ ?_; clear hK K)
              refine wpAnyIn_done (by kernel_rfl) ?_ _
              exact ⟨rfl, rfl, hB2⟩
            ·
              (go_simp; refine hK _ _ ?_; clear hK K)
              refine wpAnyIn_ready (rs := [0, 9]) (by kernel_rfl) (by simp) (AllReadyIn.cons rfl (fun K hK => ?_) (AllReadyIn.cons rfl (fun K hK => ?_) AllReadyIn.nil))
              ·
                (go_simp; refine hK _ _ ?_; clear hK K)
                refine wpAnyIn_ready (rs := [9]) (by kernel_rfl) (by simp) (AllReadyIn.cons rfl (fun K hK => ?_) AllReadyIn.nil)
                go_simp
                gi_wp2_with (refine ⟨trivial, ?_⟩; gi_at_call 40; refine (CallsIn.inRound l (callsIn_wide.2 (hand _))).mono ?_; rintro e w' ⟨rfl, hB1⟩; have hB2 : Below W.heap.size W w' := (Below.refl W.heap.size W).drew.trans hB1; clear hB1; have k1 := (hB2.cell (p := ⟨w2.heap.size, 0, none⟩) l6).trans c6; have k2 := (hB2.cell (p := ⟨g, a, none⟩) hgW).trans ca; have k3 := (hB2.cell (p := ⟨g, b, none⟩) hgW).trans cb; have k4 := (hB2.cell (p := ⟨w3.heap.size, 0, none⟩) l8).trans cm; have k6 := HLK.out w' hB2)
                refine wpAnyIn_ready (rs := [10]) (by kernel_rfl) (by simp) (AllReadyIn.cons rfl (fun K hK => ?_) AllReadyIn.nil)
                (go_simp; refine hK _ _ ?_; clear hK K)
                refine wpAnyIn_ready (rs := [11]) (by kernel_rfl) (by simp) (AllReadyIn.cons rfl (fun K hK => ?_) AllReadyIn.nil)
                (go_simp; refine hK _ _ ?_; clear hK K)
                refine wpAnyIn_done (by kernel_rfl) ?_ _
                exact ⟨rfl, rfl, hB2⟩
              ·
                go_simp
                gi_wp2_with (refine ⟨trivial, ?_⟩; gi_at_call 40; refine (CallsIn.inRound l (callsIn_wide.2 (hand _))).mono ?_; rintro e w' ⟨rfl, hB1⟩; have hB2 : Below W.heap.size W w' := (Below.refl W.heap.size W).drew.trans hB1; clear hB1; have k1 := (hB2.cell (p := ⟨w2.heap.size, 0, none⟩) l6).trans c6; have k2 := (hB2.cell (p := ⟨g, a, none⟩) hgW).trans ca; have k3 := (hB2.cell (p := ⟨g, b, none⟩) hgW).trans cb; have k4 := (hB2.cell (p := ⟨w3.heap.size, 0, none⟩) l8).trans cm; have k6 := HLK.out w' hB2)
                refine wpAnyIn_ready (rs := [0]) (by kernel_rfl) (by simp) (AllReadyIn.cons rfl (fun K hK => ?_) AllReadyIn.nil)
                (go_simp; refine hK _ _ ?_; clear hK K)
                refine wpAnyIn_ready (rs := [10]) (by kernel_rfl) (by simp) (AllReadyIn.cons rfl (fun K hK => ?_) AllReadyIn.nil)
                (go_simp; refine hK _ _ ?_; clear hK K)
                refine wpAnyIn_ready (rs := [11]) (by kernel_rfl) (by simp) (AllReadyIn.cons rfl (fun K hK => ?_) AllReadyIn.nil)
                (go_simp; refine hK _ _ ?_; clear hK K)
                refine wpAnyIn_done (by kernel_rfl) ?_ _
                exact ⟨rfl, rfl, hB2⟩
        ·
          (go_simp; refine hK _ _ ?_; clear hK K)
          refine wpAnyIn_ready (rs := [0, 1]) (by kernel_rfl) (by simp) (AllReadyIn.cons rfl (fun K hK => ?_) (AllReadyIn.cons rfl (fun K hK => ?_) AllReadyIn.nil))
          ·
            (go_simp; refine hK _ _ ?_; clear hK K)
            refine wpAnyIn_ready (rs := [1]) (by kernel_rfl) (by simp) (AllReadyIn.cons rfl (fun K hK => ?_) AllReadyIn.nil)
            (go_simp; refine hK _ _ ?_; clear hK K)
            refine wpAnyIn_take (i := 3) (v := ?_) rfl rfl (by kernel_rfl) (by kernel_rfl) (by kernel_rfl) (fun _ _ _ h => by cases h.1) ⟨Or.inl ⟨by rfl, ?_⟩, fun _ => rfl⟩ ?_
            rotate_left
            focus (intro w; go_simp; first | done | with_reducible rfl)
            refine wpAnyIn_ready (rs := [4]) (by kernel_rfl) (by simp) (AllReadyIn.cons rfl (fun K hK => ?_) AllReadyIn.nil)
            (go_simp; refine hK _ _ ?_; clear hK K)
            refine wpAnyIn_ready (rs := [9]) (by kernel_rfl) (by simp) (AllReadyIn.cons rfl (fun K hK => ?_) AllReadyIn.nil)
            go_simp
            gi_wp2_with (refine ⟨trivial, ?_⟩; gi_at_call 40; refine (CallsIn.inRound l (callsIn_wide.2 (hand _))).mono ?_; rintro e w' ⟨rfl, hB1⟩; have hB2 : Below W.heap.size W w' := (Below.refl W.heap.size W).drew.trans hB1; clear hB1; have k1 := (hB2.cell (p := ⟨w2.heap.size, 0, none⟩) l6).trans c6; have k2 := (hB2.cell (p := ⟨g, a, none⟩) hgW).trans ca; have k3 := (hB2.cell (p := ⟨g, b, none⟩) hgW).trans cb; have k4 := (hB2.cell (p := ⟨w3.heap.size, 0, none⟩) l8).trans cm; have k6 := HLK.out w' hB2)
            refine wpAnyIn_ready (rs := [10]) (by kernel_rfl) (by simp) (AllReadyIn.cons rfl (fun K hK => ?_) AllReadyIn.nil)
            (go_simp; refine hK _ _ ?_; clear hK K)
            refine wpAnyIn_ready (rs := [11]) (by kernel_rfl) (by simp) (AllReadyIn.cons rfl (fun K hK => ?_) AllReadyIn.nil)
            (go_simp; refine hK _ _ ?_; clear hK K)
            refine wpAnyIn_done (by kernel_rfl) ?_ _
            exact ⟨rfl, rfl, hB2⟩
          ·
            (go_simp; refine hK _ _ ?_; clear hK K)
            refine wpAnyIn_take (i := 3) (v := ?_) rfl rfl (by kernel_rfl) (by kernel_rfl) (by kernel_rfl) (fun _ _ _ h => by cases h.1) ⟨Or.inl ⟨by rfl, ?_⟩, fun _ => rfl⟩ ?_
            rotate_left
            focus (intro w; go_simp; first | done | with_reducible rfl)
            refine wpAnyIn_ready (rs := [0, 4]) (by kernel_rfl) (by simp) (AllReadyIn.cons rfl (fun K hK => ?_) (AllReadyIn.cons rfl (fun K hK => ?_) AllReadyIn.nil))
            ·
              (go_simp; refine hK _ _ ?_; clear hK K)
              refine wpAnyIn_ready (rs := [4]) (by kernel_rfl) (by simp) (AllReadyIn.cons rfl (fun K hK => ?_) AllReadyIn.nil)
              (go_simp; refine hK _ _ ?_; clear hK K)
              refine wpAnyIn_ready (rs := [9]) (by kernel_rfl) (by simp) (AllReadyIn.cons rfl (fun K hK => ?_) AllReadyIn.nil)
              go_simp
              gi_wp2_with (refine ⟨trivial, ?_⟩; gi_at_call 40; refine (CallsIn.inRound l (callsIn_wide.2 (hand _))).mono ?_; rintro e w' ⟨rfl, hB1⟩; have hB2 : Below W.heap.size W w' := (Below.refl W.heap.size W).drew.trans hB1; clear hB1; have k1 := (hB2.cell (p := ⟨w2.heap.size, 0, none⟩) l6).trans c6; have k2 := (hB2.cell (p := ⟨g, a, none⟩) hgW).trans ca; have k3 := (hB2.cell (p := ⟨g, b, none⟩) hgW).trans cb; have k4 := (hB2.cell (p := ⟨w3.heap.size, 0, none⟩) l8).trans cm; have k6 := HLK.out w' hB2)
              refine wpAnyIn_ready (rs := [10]) (by kernel_rfl) (by simp) (AllReadyIn.cons rfl (fun K hK => ?_) AllReadyIn.nil)
              (go_simp; refine hK _ _ ?_; clear hK K)
              refine wpAnyIn_ready (rs := [11]) (by kernel_rfl) (by simp) (AllReadyIn.cons rfl (fun K hK => ?_) AllReadyIn.nil)
              (go_simp; refine hK _ _ ?_; clear hK K)
              refine wpAnyIn_done (by kernel_rfl) ?_ _
              exact ⟨rfl, rfl, hB2⟩
            ·
              (go_simp; refine hK _ _ ?_; clear hK K)
              refine wpAnyIn_ready (rs := [0, 9]) (by kernel_rfl) (by simp) (AllReadyIn.cons rfl (fun K hK => ?_) (AllReadyIn.cons rfl (fun K hK => ?_) AllReadyIn.nil))
              ·
                (go_simp; refine hK _ _ ?_; clear hK K)
                refine wpAnyIn_ready (rs := [9]) (by kernel_rfl) (by simp) (AllReadyIn.cons rfl (fun K hK => ?_) AllReadyIn.nil)
                go_simp
                gi_wp2_with (refine ⟨trivial, ?_⟩; gi_at_call 40; refine (CallsIn.inRound l (callsIn_wide.2 (hand _))).mono ?_; rintro e w' ⟨rfl, hB1⟩; have hB2 : Below W.heap.size W w' := (Below.refl W.heap.size W).drew.trans hB1; clear hB1; have k1 := (hB2.cell (p := ⟨w2.heap.size, 0, none⟩) l6).trans c6; have k2 := (hB2.cell (p := ⟨g, a, none⟩) hgW).trans ca; have k3 := (hB2.cell (p := ⟨g, b, none⟩) hgW).trans cb; have k4 := (hB2.cell (p := ⟨w3.heap.size, 0, none⟩) l8).trans cm; have k6 := HLK.out w' hB2)
                refine wpAnyIn_ready (rs := [10]) (by kernel_rfl) (by simp) (AllReadyIn.cons rfl (fun K hK => ?_) AllReadyIn.nil)
                (go_simp; refine hK _ _ ?_; clear hK K)
                refine wpAnyIn_ready (rs := [11]) (by kernel_rfl) (by simp) (AllReadyIn.cons rfl (fun K hK => ?_) AllReadyIn.nil)
                (go_simp; refine hK _ _ ?_; clear hK K)
                refine wpAnyIn_done (by kernel_rfl) ?_ _
                exact ⟨rfl, rfl, hB2⟩
              ·
                go_simp
                gi_wp2_with (refine ⟨trivial, ?_⟩; gi_at_call 40; refine (CallsIn.inRound l (callsIn_wide.2 (hand _))).mono ?_; rintro e w' ⟨rfl, hB1⟩; have hB2 : Below W.heap.size W w' := (Below.refl W.heap.size W).drew.trans hB1; clear hB1; have k1 := (hB2.cell (p := ⟨w2.heap.size, 0, none⟩) l6).trans c6; have k2 := (hB2.cell (p := ⟨g, a, none⟩) hgW).trans ca; have k3 := (hB2.cell (p := ⟨g, b, none⟩) hgW).trans cb; have k4 := (hB2.cell (p := ⟨w3.heap.size, 0, none⟩) l8).trans cm; have k6 := HLK.out w' hB2)
                refine wpAnyIn_ready (rs := [0]) (by kernel_rfl) (by simp) (AllReadyIn.cons rfl (fun K hK => ?_) AllReadyIn.nil)
                (go_simp; refine hK _ _ ?_; clear hK K)
                refine wpAnyIn_ready (rs := [10]) (by kernel_rfl) (by simp) (AllReadyIn.cons rfl (fun K hK => ?_) AllReadyIn.nil)
                (go_simp; refine hK _ _ ?_; clear hK K)
                refine wpAnyIn_ready (rs := [11]) (by kernel_rfl) (by simp) (AllReadyIn.cons rfl (fun K hK => ?_) AllReadyIn.nil)
                (go_simp; refine hK _ _ ?_; clear hK K)
                refine wpAnyIn_done (by kernel_rfl) ?_ _
                exact ⟨rfl, rfl, hB2⟩
    case rest =>
      intro w5 hB5
      have hbt5 : Boxed w5 (w3.heap.size + 1) 39 v := (hB5.block _ HV.out.1.lt).trans HV.out.1
      have hbm5 : Boxed w5 w3.heap.size 73 (.map (some (w2.heap.size + 1))) := (hB5.block _ HBM.out.lt).trans HBM.out
      have hBW5 : Below w3.heap.size w3 w5 := HV.out.2.2.trans (hB5.mono (by omega))
      have hNB : NumBox (w3.heap.size + 1 + 1) n W → NumBox (w3.heap.size + 1 + 1) n w5 := fun hN => (hB5.cell (p := ⟨w3.heap.size + 1 + 1, 0, none⟩) (World.block_lt_of_cell? W ⟨w3.heap.size + 1 + 1, 0, none⟩ hN)).trans hN
      have H5 := Lib.hid (⟨v, hbt5, row_later HV.out.2.1 hB5, hlen, hBW5, hB5.size, keeps_below hB5, hNB, hbm5⟩ : MskR n w3.heap.size w3 W (.map (some (w2.heap.size + 1))) (trisL L n (pre.map (·.1))) w5)
      clear hbt5 hbm5 hBW5 hNB hB5 hlen HV HBM HLK hand ca cb c6 cm
      gi_wp2_with fail
      gi_loopw [41] (fun i wr => ∃ k : Nat, k ≤ mm ∧ i = .int .i64 (k : Int) ∧ MskR n w3.heap.size w3 W (.map (some (w2.heap.size + 1))) (trisL L n (pre.map (·.1)) ++ triSeg a b (xs.take k)) wr) (fun i _ => mm - (intOf i).toNat)
      case atStart => exact ⟨0, Nat.zero_le _, by go_num, by rw [List.take_zero, show triSeg a b [] = [] from rfl, List.append_nil]; exact H5.out⟩
      case round =>
        clear H5
        obtain ⟨k, hk, rfl, hR⟩ := hrel
        by_cases hltk : k < mm
        · obtain ⟨g', rfl, -, hg', hcell⟩ := HX.out.2.1 (by omega)
          obtain ⟨v', hbt, hrow, hle, hBw, hWw, hKO, hNB, hbm⟩ := hR
          have ck := (hBw.cell (p := ⟨g', k, none⟩) hg').trans (hcell k hltk)
          have hsu := triSeg_succ a b xs k (by have := HX.out.1; omega)
          obtain ⟨c, hcc⟩ : ∃ c, c = xs.getD k 0 := ⟨_, rfl⟩
          rw [← hcc] at ck hsu
          have hcn : c < n := by rw [hcc]; exact HX.out.2.2.1 k hltk
          obtain ⟨F, hF⟩ : ∃ F, F = trisL L n (pre.map (·.1)) ++ triSeg a b (xs.take k) := ⟨_, rfl⟩
          rw [← hF] at hrow hle
          have k0' : (0 : Int) ≤ (k : Int) := by omega
          have k1' : (k : Int) < (mm : Int) := by omega
          have hno : c = a ∨ c = b → MskR n w3.heap.size w3 W (.map (some (w2.heap.size + 1))) (trisL L n (pre.map (·.1)) ++ triSeg a b (xs.take (k + 1))) wr := fun h => by
            rw [hsu, if_pos h, List.append_nil, ← hF]
            exact ⟨v', hbt, hrow, hle, hBw, hWw, hKO, hNB, hbm⟩
          have HS := Lib.hid (⟨hno, hsu, hF, hBw, hKO, hNB, hbm⟩ : _ ∧ _ ∧ _ ∧ _ ∧ _ ∧ _ ∧ _)
          have hc4 := (hBw.cell (p := ⟨w.heap.size, 0, none⟩) (by simp; omega)).trans HQ.out.1
          have hc5 := (hBw.cell (p := ⟨w.heap.size + 1, 0, none⟩) (by simp; omega)).trans HQ.out.2.2.1
          have hz4 := (World.frozen?_of_block (a := ⟨w.heap.size, 0, none⟩) (hBw.block _ (by simp; omega))).trans HQ.out.2.1
          have hz5 := (World.frozen?_of_block (a := ⟨w.heap.size + 1, 0, none⟩) (hBw.block _ (by simp; omega))).trans HQ.out.2.2.2.1
          have ct := hbt.cell
          have zt := hbt.frozen
          clear hno hsu hF hcc hBw hKO hNB hbm hcell
          change _ = some (Value.slice none 0 0) at hc4
          change _ = some (Value.int .i64 0) at hc5
          by_cases hca : c = a
          · have n1 : ((c : Int) == (a : Int)) = true := by rw [hca]; simp
            have H9 := Lib.hid (HS.out.1 (.inl hca))
            clear hca hrow hle hbt hc4 hc5 hz4 hz5 ct zt HS
            gi_wp2_with fail
            go_roundw
            case rel => exact ⟨k + 1, by omega, by go_num, H9.out⟩
            case measure => simp [intOf]; omega
          have n1 : ((c : Int) == (a : Int)) = false := by rw [beq_eq_false_iff_ne]; omega
          by_cases hcb : c = b
          · have n2 : ((c : Int) == (b : Int)) = true := by rw [hcb]; simp
            have H9 := Lib.hid (HS.out.1 (.inr hcb))
            clear hca hcb hrow hle hbt hc4 hc5 hz4 hz5 ct zt HS
            gi_wp2_with fail
            go_roundw
            case rel => exact ⟨k + 1, by omega, by go_num, H9.out⟩
            case measure => simp [intOf]; omega
          have n2 : ((c : Int) == (b : Int)) = false := by rw [beq_eq_false_iff_ne]; omega
          obtain ⟨va, vc, rfl⟩ := tris_open (show TrisAt (w3.heap.size + 3) wr v' F from hrow)
          by_cases hl : F.length = 10000
          · have n3 : ((F.length : Int) == 10000) = true := by rw [hl]; rfl
            have hmany : 10000 < (trisL L n ((pre ++ [(⟨(a, b), hab1, hab2⟩ : PairN n)]).map (·.1))).length := by
              have h1 := congrArg List.length HS.out.2.1
              rw [if_neg (by omega)] at h1
              have h2 := triSeg_take a b xs (k + 1)
              rw [List.map_append, List.map_singleton, trisL_snoc, HX.out.2.2.2, List.length_append]
              have h3 := congrArg List.length HS.out.2.2.1
              rw [List.length_append] at h3 h1
              simp only [List.length_singleton] at h1
              omega
            have hfin : KeepsOthers W ((wr.setCell ⟨w.heap.size, 0, none⟩ (.slice none 0 0)).setCell ⟨w.heap.size + 1, 0, none⟩ (.int .i64 12)) ∧ ((10000 < (trisL L n ((pre ++ [(⟨(a, b), hab1, hab2⟩ : PairN n)]).map (·.1))).length ∧ ((wr.setCell ⟨w.heap.size, 0, none⟩ (.slice none 0 0)).setCell ⟨w.heap.size + 1, 0, none⟩ (.int .i64 12)).cell? ⟨w.heap.size, 0, none⟩ = some (.slice none 0 0) ∧ ((wr.setCell ⟨w.heap.size, 0, none⟩ (.slice none 0 0)).setCell ⟨w.heap.size + 1, 0, none⟩ (.int .i64 12)).cell? ⟨w.heap.size + 1, 0, none⟩ = some (.int .i64 12)) ∧ Below w.heap.size w ((wr.setCell ⟨w.heap.size, 0, none⟩ (.slice none 0 0)).setCell ⟨w.heap.size + 1, 0, none⟩ (.int .i64 12))) :=
              ⟨(HS.out.2.2.2.2.1.trans (KeepsOthers.setCell _ _ _)).trans (KeepsOthers.setCell _ _ _), ⟨hmany, (World.cell?_setCell_other _ _ _ _ (by simp)).trans (World.cell?_setCell_same _ _ _ hc4), World.cell?_setCell_same _ _ _ ((World.cell?_setCell_other _ _ _ _ (by simp)).trans hc5)⟩, ((HW0.out.trans (HS.out.2.2.2.1.mono (by omega))).setCell (p := ⟨w.heap.size, 0, none⟩) (by simp) _).setCell (p := ⟨w.heap.size + 1, 0, none⟩) (by simp) _⟩
            have H9 := Lib.hid hfin
            clear hfin hmany hca hcb hrow hle hbt HS hl
            gi_wp2_with fail
            exact ⟨H9.out.1, ⟨rfl, H9.out.2.1⟩, H9.out.2.2⟩
          · have n3 : ((F.length : Int) == 10000) = false := by rw [beq_eq_false_iff_ne]; omega
            have hws : w3.heap.size + 3 ≤ wr.heap.size := by omega
            have hcellN : ∀ (j : Nat) (u : Value), [Value.int .i64 (a : Int), .int .i64 (b : Int), .int .i64 (c : Int)][j]? = some u → (wr.alloc (.cells #[.int .i64 (a : Int), .int .i64 (b : Int), .int .i64 (c : Int)] 55)).cell? (Addr.add ⟨wr.heap.size, 0, none⟩ j) = some u := by
              intro j u hj
              match j, hj with
              | 0, hj => cases hj; simp [Addr.add]
              | 1, hj => cases hj; simp [Addr.add]
              | 2, hj => cases hj; simp [Addr.add]
            have HCN := Lib.hid hcellN
            have hnab : ¬ (c = a ∨ c = b) := by omega
            have HNAB := Lib.hid hnab
            clear hnab
            have HRW := Lib.hid (⟨hrow, hbt⟩ : _ ∧ _)
            clear hca hcb hrow hbt hc4 hc5 hz4 hz5 hcellN
            gi_wp2_with (gi_at_builtin; refine wpListIn_append_own _ rfl _ _ 39 rfl (w3.heap.size + 3) 55 i0 (.agg #[.int .i64 0, .int .i64 0, .int .i64 0]) 3 24 Tryd.underlying39 hi hz0 hz1 hz2 rfl (by decide) _ _ _ rfl (HRW.out.1.alloc _) ⟨wr.heap.size, 0, none⟩ 1 1 [.int .i64 (a : Int), .int .i64 (b : Int), .int .i64 (c : Int)] rfl rfl HCN.out (by intro u hu; simp at hu; rcases hu with rfl | rfl | rfl <;> rfl) (by unfold maxLen; omega) (by omega) (by simp; omega) ?_)
            intro v2 w1 hown' hgrow _
            have hBn : Below (w3.heap.size + 3) wr w1 := ((Below.refl (w3.heap.size + 3) wr).alloc hws _).grown hgrow (by simp; omega) (fun j ej => (HRW.out.1.lt j ej).1)
            obtain ⟨g9, cap9, rfl⟩ := ownsRow_succ hown'
            obtain ⟨hv1, hv2, -, hk2, hb2⟩ := HRW.out.2.appended (by decide) (row_base HRW.out.1 (by omega) : wr.ownsRow (w3.heap.size + 1) _ _ _ _ _) (by omega) (Nat.le_refl _) (row_base hown' (by omega)) hgrow
            have hr2 := hown'.kept (grownBy_setCell' w1 (w3.heap.size + 1) (.slice (some ⟨g9, 0, none⟩) (F.length + 1) cap9)) (.inr (hv1.not_row (by decide) hown').symm)
            have hc1 := hv1.cell
            have hf1 := hv1.frozen
            have hbm2 := ((HS.out.2.2.2.2.2.2.alloc (.cells #[.int .i64 (a : Int), .int .i64 (b : Int), .int .i64 (c : Int)] 55)).kept hgrow (HS.out.2.2.2.2.2.2.not_row (by decide) HRW.out.1)).kept (grownBy_setCell' w1 (w3.heap.size + 1) (.slice (some ⟨g9, 0, none⟩) (F.length + 1) cap9)) (by simp)
            have hN2 : NumBox (w3.heap.size + 1 + 1) n W → NumBox (w3.heap.size + 1 + 1) n (w1.setCell ⟨w3.heap.size + 1, 0, none⟩ (.slice (some ⟨g9, 0, none⟩) (F.length + 1) cap9)) := fun hN => (World.cell?_setCell_other _ _ _ _ (by simp)).trans ((hBn.cell (p := ⟨w3.heap.size + 1 + 1, 0, none⟩) (by simp)).trans (HS.out.2.2.2.2.2.1 hN))
            have hsz2 : wr.heap.size ≤ (w1.setCell ⟨w3.heap.size + 1, 0, none⟩ (.slice (some ⟨g9, 0, none⟩) (F.length + 1) cap9)).heap.size := hb2.size
            have hfin : MskR n w3.heap.size w3 W (.map (some (w2.heap.size + 1))) (trisL L n (pre.map (·.1)) ++ triSeg a b (xs.take (k + 1))) (w1.setCell ⟨w3.heap.size + 1, 0, none⟩ (.slice (some ⟨g9, 0, none⟩) (F.length + 1) cap9)) := by
              rw [HS.out.2.1, if_neg HNAB.out, ← List.append_assoc, ← HS.out.2.2.1]
              exact ⟨_, hv2, tris_snoc a b c hr2, by rw [List.length_append, List.length_singleton]; omega, HS.out.2.2.2.1.trans (hb2.mono (by omega)), by omega, HS.out.2.2.2.2.1.trans hk2, hN2, hbm2⟩
            have H9 := Lib.hid hfin
            clear hfin hbm2 hN2 hsz2 hr2 hv1 hv2 hk2 hb2 hown' hgrow hBn HRW HS HCN
            gi_wp2_with fail
            go_roundw
            case rel => exact ⟨k + 1, by omega, by go_num, H9.out⟩
            case measure => simp [intOf]; omega
        · obtain rfl : k = mm := by omega
          have hfin : KeepsOthers W wr ∧ (NumBox (w3.heap.size + 1 + 1) n W → NumBox (w3.heap.size + 1 + 1) n wr) ∧ ((Boxed wr w3.heap.size 73 (.map (some (w2.heap.size + 1))) ∧ w3.heap.size + 3 ≤ wr.heap.size ∧ (trisL L n ((pre ++ [(⟨(a, b), hab1, hab2⟩ : PairN n)]).map (·.1))).length ≤ 10000) ∧ ∃ v, Boxed wr (w3.heap.size + 1) 39 v ∧ wr.ownsRow (w3.heap.size + 3) 55 3 v (trisL L n ((pre ++ [(⟨(a, b), hab1, hab2⟩ : PairN n)]).map (·.1))).length (triCells (trisL L n ((pre ++ [(⟨(a, b), hab1, hab2⟩ : PairN n)]).map (·.1))))) ∧ Below w3.heap.size w3 wr := by
            obtain ⟨v', hbt, hrow, hle, hBw, hWw, hKO, hNB, hbm⟩ := hR
            have e : trisL L n ((pre ++ [(⟨(a, b), hab1, hab2⟩ : PairN n)]).map (·.1)) = trisL L n (pre.map (·.1)) ++ triSeg a b (xs.take k) := by
              rw [List.map_append, List.map_singleton, trisL_snoc, HX.out.2.2.2, HX.out.1, List.take_length]
            rw [e]
            exact ⟨hKO, hNB, ⟨⟨hbm, by omega, hle⟩, v', hbt, hrow⟩, hBw⟩
          have H9 := Lib.hid hfin
          clear hR hfin
          gi_wp2_with fail
          exact H9.out
  case done =>
    rintro D ys W hD hys ⟨⟨⟨hbm, hWs, hlen⟩, ⟨v, hbt, htr⟩⟩, hBW⟩ hK
    have hTT : trisL L n (ys.map (·.1)) = T := by rw [HT.out, hys]
    rw [hTT] at hlen htr
    obtain ⟨va, vc, rfl⟩ := tris_open (show TrisAt (w3.heap.size + 3) W v T from htr)
    have hc4 := (hBW.cell (p := ⟨w.heap.size, 0, none⟩) (by simp; omega)).trans HQ.out.1
    have hc5 := (hBW.cell (p := ⟨w.heap.size + 1, 0, none⟩) (by simp; omega)).trans HQ.out.2.2.1
    have hz4 := (World.frozen?_of_block (a := ⟨w.heap.size, 0, none⟩) (hBW.block _ (by simp; omega))).trans HQ.out.2.1
    have hz5 := (World.frozen?_of_block (a := ⟨w.heap.size + 1, 0, none⟩) (hBW.block _ (by simp; omega))).trans HQ.out.2.2.2.1
    have ct := hbt.cell
    change _ = some (Value.slice none 0 0) at hc4
    change _ = some (Value.int .i64 0) at hc5
    have HD := Lib.hid (⟨htr, hBW, hlen⟩ : _ ∧ _ ∧ _)
    clear htr hBW hTT hys hbt hbm
    gi_wp2
    have hK1 := (KeepsOthers.setCell W ⟨w.heap.size, 0, none⟩ (.slice va T.length vc)).same D _ hK rfl
    have hK' := (KeepsOthers.setCell (W.setCell ⟨w.heap.size, 0, none⟩ (.slice va T.length vc)) ⟨w.heap.size + 1, 0, none⟩ (.int .i64 0)).same D _ hK1 rfl
    refine ⟨by simp, .inl ⟨_, _, rfl, run_takeDeferred hK', ?_⟩⟩
    have k4 := cell_kept ((World.cell?_setCell_other (W.setCell ⟨w.heap.size, 0, none⟩ (.slice va T.length vc)) ⟨w.heap.size + 1, 0, none⟩ ⟨w.heap.size, 0, none⟩ (.int .i64 0) (by simp)).trans (World.cell?_setCell_same W _ (.slice va T.length vc) hc4)) (grownBy_putObj' _ D (.deferred none)) (fun r e => by cases e; exact ⟨_, hK', rfl⟩)
    have k5 := cell_kept (World.cell?_setCell_same (W.setCell ⟨w.heap.size, 0, none⟩ (.slice va T.length vc)) ⟨w.heap.size + 1, 0, none⟩ (.int .i64 0) ((World.cell?_setCell_other W ⟨w.heap.size, 0, none⟩ ⟨w.heap.size + 1, 0, none⟩ (.slice va T.length vc) (by simp)).trans hc5)) (grownBy_putObj' _ D (.deferred none)) (fun r e => by cases e; exact ⟨_, hK', rfl⟩)
    refine ⟨.tuple #[.slice va T.length vc, .int .i64 0], ?_, ?_⟩
    · simp [results, Tryd.f10, go_sem, k4, k5]
    · refine ⟨_, by rw [if_pos HD.out.2.2], ?_, ?_⟩
      · rw [if_pos HD.out.2.2]
        exact row_base (ownsRow_putObj (row_set (row_set HD.out.1 (by omega)) (by omega)) _ hK' rfl) (by omega)
      · exact (((HW0.out.trans (HD.out.2.1.mono (by omega))).setCell (p := ⟨w.heap.size, 0, none⟩) (by simp) _).setCell (p := ⟨w.heap.size + 1, 0, none⟩) (by simp) _).trans (belowK_b (w := w) (Nat.le_refl _) _ D _ _ (by omega) hK' rfl rfl)
  case stop =>
    rintro D cc pre W hD hpre ⟨⟨rfl, hmany, hc4, hc5⟩, hB⟩ hK
    have hTT : ¬ T.length ≤ 10000 := by
      have h1 := trisL_prefix L n hpre
      rw [← HT.out] at h1
      omega
    have HTT := Lib.hid hTT
    clear hmany hTT
    gi_wp2
    refine ⟨by simp, .inl ⟨_, _, rfl, run_takeDeferred hK, ?_⟩⟩
    have k4 := cell_kept hc4 (grownBy_putObj' _ D (.deferred none)) (fun r e => by cases e; exact ⟨_, hK, rfl⟩)
    have k5 := cell_kept hc5 (grownBy_putObj' _ D (.deferred none)) (fun r e => by cases e; exact ⟨_, hK, rfl⟩)
    refine ⟨.tuple #[.slice none 0 0, .int .i64 12], ?_, ?_⟩
    · simp [results, Tryd.f10, go_sem, k4, k5]
    · refine ⟨_, by rw [if_neg HTT.out], ?_, ?_⟩
      · rw [if_neg HTT.out]
        exact World.ownsRow_nil _ _ _ _
      · exact hB.trans (belowK_b (w := w) (Nat.le_refl _) W D _ _ (by omega) hK rfl rfl)
end Go.Proofs.YtlkdpgjbbbaiiaaDoor
