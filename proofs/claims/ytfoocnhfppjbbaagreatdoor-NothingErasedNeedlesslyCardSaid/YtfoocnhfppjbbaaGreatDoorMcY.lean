/- Package flash: isOnlyLowered, the step of a plan. -/
import Derived.Test.YtfoocnhfppjbbaaGreatDoorM9
import Derived.BigQuiet
import Derived.Deep.AppendLies
namespace Go.Proofs.YtfoocnhfppjbbaaGreatDoor
open Go.RowKit

set_option maxHeartbeats 800000 in
set_option maxRecDepth 100000 in
theorem onlyLowered_any (N T : List Int) (hl : T.length = N.length) (h4 : N.length ≤ 4096) (hN : WordsOk N) (hT : WordsOk T) (w : World) (v u : Value) (h : NumsAt w v N) (h2 : NumsAt w u T) :
    Calls Tryz.prog 35 #[v, u] w fun e w' => e = .returned (.bool (lowL N T)) ∧ Below w.heap.size w w' := by
  obtain ⟨a, c, rfl, -, hop⟩ := h
  obtain ⟨a2, c2, rfl, -, hop2⟩ := h2
  obtain ⟨n, hn⟩ : ∃ n, n = N.length := ⟨_, rfl⟩
  rw [hl] at hop2 ⊢
  rw [← hn] at hop hop2 h4 ⊢
  have HC := Lib.hid (⟨hop, hop2, hN, hT, hn, hl⟩ : _ ∧ _ ∧ _ ∧ _ ∧ _ ∧ _)
  clear hop hop2 hN hT hn hl
  go_enter Tryz.func35, Tryz.ntmps35
  go_wp2_with fail
  go_loopw [8] (fun i wr => ∃ k : Nat, k ≤ n ∧ i = .int .i64 (k : Int) ∧ (∀ i, i < k → lowB (T.getD i 0) (N.getD i 0) = true) ∧ Below w.heap.size w wr) (fun i _ => n - (intOf i).toNat)
  case atStart => exact ⟨0, by omega, rfl, fun i hi => by omega, Below.refl _ _⟩
  case round =>
    obtain ⟨k, hk, rfl, hall, hB⟩ := hrel
    by_cases hlt : k < n
    · obtain ⟨g, o, rfl, hg, hcell⟩ := HC.out.1 (by omega)
      obtain ⟨g2, o2, rfl, hg2, hcell2⟩ := HC.out.2.1 (by omega)
      have c1 := (hB.cell (p := ⟨g, o + k, none⟩) hg).trans (hcell k hlt)
      have c2' := (hB.cell (p := ⟨g2, o2 + k, none⟩) hg2).trans (hcell2 k hlt)
      obtain ⟨x0, x1⟩ := HC.out.2.2.1 k (by rw [← HC.out.2.2.2.2.1]; exact hlt)
      obtain ⟨y0, y1⟩ := HC.out.2.2.2.1 k (by rw [HC.out.2.2.2.2.2, ← HC.out.2.2.2.2.1]; exact hlt)
      obtain ⟨x, hx⟩ : ∃ x : Nat, N.getD k 0 = (x : Int) := ⟨(N.getD k 0).toNat, by omega⟩
      obtain ⟨y, hy⟩ : ∃ y : Nat, T.getD k 0 = (y : Int) := ⟨(T.getD k 0).toNat, by omega⟩
      rw [hx] at c1 x0 x1
      rw [hy] at c2' y0 y1
      have hbt := andnot_nats y x (by omega) (by omega)
      have k0 : (0 : Int) ≤ (k : Int) := by omega
      have k1 : (k : Int) < (n : Int) := by omega
      have hnx := lowL_take N T k hall
      have hno := lowL_no (N := N) (T := T) (k := k) (by rw [← HC.out.2.2.2.2.1]; exact hlt)
      rw [hx, hy] at hnx hno
      cases hq : lowB (y : Int) (x : Int) with
      | true =>
        rw [hq] at hbt
        have hnx := hnx hq
        have HB := Lib.hid (⟨hB, hnx⟩ : _ ∧ _)
        clear hB hnx hno hcell hcell2 hx hy hall hq
        go_wp2_with fail
        go_quiet (fail)
        go_wp2_with fail
        go_roundw
        case rel => exact ⟨k + 1, by omega, by go_num, HB.out.2, HB.out.1.trans ((drewN_below _ _).mono HB.out.1.size)⟩
        case measure => simp [intOf]; omega
      | false =>
        rw [hq] at hbt
        have hno := hno hq
        have HB := Lib.hid (⟨hB, hno⟩ : _ ∧ _)
        clear hB hnx hno hcell hcell2 hx hy hall hq
        go_wp2_with fail
        go_quiet (fail)
        go_wp2_with fail
        go_ret
        exact ⟨by rw [HB.out.2]; rfl, HB.out.1.trans ((drewN_below _ _).mono HB.out.1.size)⟩
    · obtain rfl : k = n := by omega
      have hy := lowL_yes (N := N) (T := T) (by rw [← HC.out.2.2.2.2.1]; exact hall)
      have HB := Lib.hid (⟨hB, hy⟩ : _ ∧ _)
      clear hB hy hall
      go_wp2_with fail
      go_ret
      exact ⟨by rw [HB.out.2]; rfl, HB.out.1⟩
/-- The cells of operations. -/
def cellsOf (O : List Opn) : List Value := O.flatMap fun o => [.int .i64 o.1, .int .i64 o.2.1, .int .i64 o.2.2]
theorem cellsOf_snoc (O : List Opn) (k a v : Int) : cellsOf (O ++ [(k, a, v)]) = cellsOf O ++ [.int .i64 k, .int .i64 a, .int .i64 v] := by
  unfold cellsOf
  rw [List.flatMap_append]
  rfl
/-- A plan so far: the memory (its box is block b), the operations (the variable is block b + 1), whose row is not block bs. -/
structure PlanSt (S W : List Int) (O : List Opn) (M g len cy b bs : Nat) (x : Value) (wr : World) : Prop where
  spans : SpansAt wr x S
  words : WordsAt M wr (.slice (some ⟨g, 0, none⟩) len cy) W
  m0 : wr.cell? ⟨b, 0, none⟩ = some x
  m1 : wr.cell? ⟨b, 1, none⟩ = some (.slice (some ⟨g, 0, none⟩) len cy)
  ops : ∃ a n c, wr.cell? ⟨b + 1, 0, none⟩ = some (.slice a n c) ∧ wr.frozen? ⟨b + 1, 0, none⟩ = false ∧ wr.ownsRow (b + 2) 51 3 (.slice a n c) O.length (cellsOf O) ∧ (Value.slice a n c).ownBlock ≠ some bs
theorem row_heap {w w' : World} {B : Nat} {e : TypeId} {size : Nat} {v : Value} {n : Nat} {xs : List Value} (h : w.ownsRow B e size v n xs) (hk : ∀ g, B ≤ g → g < w.heap.size → w'.heap[g]? = w.heap[g]?) : w'.ownsRow B e size v n xs := by
  refine ⟨h.1, ?_⟩
  rcases h.2 with h2 | ⟨g, cap, cur, hv, hg, hh, r⟩
  · exact Or.inl h2
  · have hl : g < w.heap.size := by
      by_cases e : g < w.heap.size
      · exact e
      · rw [Array.getElem?_eq_none (by omega)] at hh
        cases hh
    exact Or.inr ⟨g, cap, cur, hv, hg, (hk g hg hl).trans hh, r⟩
theorem SpansAt.below {B : Nat} {w w' : World} {v : Value} {S : List Int} (h : SpansAt w v S) (hg : Behind B v) (hb : Below B w w') : SpansAt w' v S := by
  obtain ⟨a, c, h1, h2, h3⟩ := h
  refine ⟨a, c, h1, h2, fun h0 => ?_⟩
  obtain ⟨b, o, h4, h5, h6⟩ := h3 h0
  subst h4
  have hl : b < B := hg _ _ _ h1
  exact ⟨b, o, rfl, Nat.lt_of_lt_of_le h5 hb.size, fun j hj => ⟨(hb.cell (p := ⟨b, o + j * 2, none⟩) hl).trans (h6 j hj).1, (hb.cell (p := ⟨b, o + j * 2 + 1, none⟩) hl).trans (h6 j hj).2⟩⟩
theorem WordsAt.below {B B' : Nat} {w w' : World} {g n c : Nat} {L : List Int} (h : WordsAt B w (.slice (some ⟨g, 0, none⟩) n c) L) (hl : g < B') (hb : Below B' w w') : WordsAt B w' (.slice (some ⟨g, 0, none⟩) n c) L := by
  obtain ⟨h1, h2, h3, h4, h5⟩ := h.cells
  subst h1
  exact ⟨g, c, rfl, h2, h3, Nat.lt_of_lt_of_le h4 hb.size, fun j hj => ⟨(hb.frozen (p := ⟨g, j, none⟩) hl).trans (h5 j hj).1, (hb.cell (p := ⟨g, j, none⟩) hl).trans (h5 j hj).2⟩⟩
theorem PlanSt.later {S W : List Int} {O : List Opn} {M g len cy b bs : Nat} {x : Value} {w w' : World} (h : PlanSt S W O M g len cy b bs x w) (hB : Below w.heap.size w w') : PlanSt S W O M g len cy b bs x w' := by
  obtain ⟨h1, h2, h3, h4, a, n, c, h5, h6, h7, h8⟩ := h
  have hl := World.block_lt_of_cell? w ⟨b, 0, none⟩ h3
  have hl1 := World.block_lt_of_cell? w ⟨b + 1, 0, none⟩ h5
  exact ⟨h1.later hB, h2.later hB, (hB.cell (p := ⟨b, 0, none⟩) hl).trans h3, (hB.cell (p := ⟨b, 1, none⟩) hl).trans h4, a, n, c, (hB.cell (p := ⟨b + 1, 0, none⟩) hl1).trans h5, (hB.frozen (p := ⟨b + 1, 0, none⟩) hl1).trans h6, row_heap h7 fun k _ hk => hB.block k hk, h8⟩
theorem PlanSt.fresh {S W : List Int} {O : List Opn} {M g len cy b bs : Nat} {x : Value} {w : World} (h : PlanSt S W O M g len cy b bs x w) : PlanSt S W O M g len cy b w.heap.size x w := by
  obtain ⟨h1, h2, h3, h4, a, n, c, h5, h6, h7, h8⟩ := h
  refine ⟨h1, h2, h3, h4, a, n, c, h5, h6, h7, fun hh => ?_⟩
  have := (h7.lt _ hh).2
  omega
theorem Tryz.infoOp : (Tryz.prog.info? 51).map (fun i => (i.zero, i.size, i.bytes)) = some (some (.agg #[.int .i64 0, .int .i64 0, .int .i64 0]), 3, 24) := by kernel_rfl
set_option maxHeartbeats 800000 in
set_option maxRecDepth 100000 in
theorem plan1_any (S W : List Int) (O : List Opn) (M g len cy b bs : Nat) (x : Value) (hx : Behind M x) (hMg : M ≤ g) (hgb : g < b) (hS : FlashRight S) (hL : (W.length : Int) = sumS S) (hok : WordsOk W) (hO : O.length ≤ 1000000) (k a v : Int) (ho : opErr (S.length : Int) (sumS S) (k, a, v) = 0) (w : World) (hst : PlanSt S W O M g len cy b bs x w) (hbs : bs < w.heap.size) :
    Calls Tryz.prog 33 #[.agg #[.int .i64 k, .int .i64 a, .int .i64 v], .pointer (some ⟨b, 0, none⟩), .pointer (some ⟨b + 1, 0, none⟩)] w fun e w' => e = .returned (.tuple #[]) ∧ PlanSt S (doOp S W (k, a, v)) (O ++ [(k, a, v)]) M g len cy b bs x w' ∧ Below M w w' ∧ (bs ≠ g → bs ≠ b + 1 → w'.heap[bs]? = w.heap[bs]?) := by
  obtain ⟨W1, hW1⟩ : ∃ X : World, X = w.alloc (.cells #[.int .i64 k, .int .i64 a, .int .i64 v] 51) := ⟨_, rfl⟩
  have hB1 : Below w.heap.size w W1 := by rw [hW1]; exact (Below.refl _ _).alloc (Nat.le_refl _) _
  have hs1 : W1.heap.size = w.heap.size + 1 := by rw [hW1]; simp
  have e0 : W1.cell? ⟨w.heap.size, 0, none⟩ = some (.int .i64 k) := by rw [hW1]; exact cell_new1 w _ _ rfl
  have e1 : W1.cell? ⟨w.heap.size, 1, none⟩ = some (.int .i64 a) := by rw [hW1]; exact cell_new1 w _ _ rfl
  have e2 : W1.cell? ⟨w.heap.size, 2, none⟩ = some (.int .i64 v) := by rw [hW1]; exact cell_new1 w _ _ rfl
  have hst1 := hst.later hB1
  have hbw := World.block_lt_of_cell? w ⟨b, 0, none⟩ hst.m0
  have m0w := hst.m0
  have m1w := hst.m1
  obtain ⟨h1, h2, m0, m1, av, nv, cv, h5, h6, h7, h8⟩ := hst1
  have hbw1 := World.block_lt_of_cell? W1 ⟨b + 1, 0, none⟩ h5
  have hb1w : b + 1 < w.heap.size := by
    obtain ⟨-, -, -, -, av', nv', cv', h5', -⟩ := hst
    exact World.block_lt_of_cell? w ⟨b + 1, 0, none⟩ h5'
  obtain ⟨ax, cx, rfl, -, -⟩ := id h1
  have hdo := do_any M S W hS hL hok k a v ho W1 _ _ h1 h2 (by have := h2.cells; omega)
  have HW := Lib.hid hW1
  have HC := Lib.hid (⟨hst, hB1, h1, h2, h7, h8⟩ : _ ∧ _ ∧ _ ∧ _ ∧ _ ∧ _)
  have hgb1 : g ≠ b + 1 := by omega
  clear hst hB1 h1 h2 h7 h8 hW1
  go_enter Tryz.func33, Tryz.ntmps33
  go_wp2_with fail
  rw [← HW.out]
  refine hdo.mono ?_
  rintro e w2 ⟨rfl, hw2, hB2, hK2⟩
  have hK := hK2 _ _ _ rfl
  have f0 := (hK.cell (p := ⟨w.heap.size, 0, none⟩) (by show w.heap.size ≠ g; omega) (by show w.heap.size < _; omega)).trans e0
  have f1 := (hK.cell (p := ⟨w.heap.size, 1, none⟩) (by show w.heap.size ≠ g; omega) (by show w.heap.size < _; omega)).trans e1
  have f2 := (hK.cell (p := ⟨w.heap.size, 2, none⟩) (by show w.heap.size ≠ g; omega) (by show w.heap.size < _; omega)).trans e2
  have m0' := (hK.cell (p := ⟨b, 0, none⟩) (by show b ≠ g; omega) (by show b < _; omega)).trans m0
  have m1' := (hK.cell (p := ⟨b, 1, none⟩) (by show b ≠ g; omega) (by show b < _; omega)).trans m1
  have h5' := (hK.cell (p := ⟨b + 1, 0, none⟩) (by show b + 1 ≠ g; omega) hbw1).trans h5
  have h6' := (hK.frozen (p := ⟨b + 1, 0, none⟩) (by show b + 1 ≠ g; omega) hbw1).trans h6
  have h7' := row_heap HC.out.2.2.2.2.1 (w' := w2) fun q hq hl => hK.2 q (by omega) hl
  have hs2 : w.heap.size < w2.heap.size := by have := hK.1; omega
  have hb2 : b + 1 < w2.heap.size := by omega
  have HD := Lib.hid (⟨hw2, hB2, hK, m0', m1'⟩ : _ ∧ _ ∧ _ ∧ _ ∧ _)
  clear hdo hw2 hB2 hK2 hK e0 e1 e2 m0 m1 m0w m1w m0' m1' h5 h6
  obtain ⟨i0, hi, hz0, hz1, hz2⟩ := info_parts Tryz.infoOp
  have hund : Tryz.prog.underlying 34 = some (.slice 51) := by kernel_rfl
  go_wp2_with (at_builtin; refine wpList_append_lies _ rfl _ _ 34 rfl (b + 2) 51 i0 (.agg #[.int .i64 0, .int .i64 0, .int .i64 0]) 3 24 hund hi hz0 hz1 hz2 rfl (by decide) _ _ _ rfl (h7'.alloc _) ⟨w2.heap.size, 0, none⟩ 1 1 [.int .i64 k, .int .i64 a, .int .i64 v] rfl rfl ?c1 ?c2 ?c3 ?c4 ?c5 ?c6 (w2.heap.size + 1) ?c7 ?_)
  case c1 =>
    intro j u hj
    match j, hj with
    | 0, hj => cases hj; simp [Addr.add]
    | 1, hj => cases hj; simp [Addr.add]
    | 2, hj => cases hj; simp [Addr.add]
  case c2 => simp [Value.oneCell']
  case c3 => decide
  case c4 => unfold maxLen; omega
  case c5 => omega
  case c6 => simp; omega
  case c7 => simp
  intro gr cap w4 hown hgrow hwhere hgl
  have hB24 : Below (b + 2) w2 w4 := ((Below.refl (b + 2) w2).alloc (by omega) _).grown hgrow (by simp; omega) (fun q hq => (h7'.lt q hq).1)
  have p0 := (hB24.cell (p := ⟨b + 1, 0, none⟩) (by show b + 1 < b + 2; omega)).trans h5'
  have p1 := (hB24.frozen (p := ⟨b + 1, 0, none⟩) (by show b + 1 < b + 2; omega)).trans h6'
  have hq : w4.heap[bs]? = w2.heap[bs]? := (hgrow.block bs (by simp; omega) (fun hh => HC.out.2.2.2.2.2 hh.symm)).trans (Below.heap_alloc _ _ _ (by omega))
  have hwh : gr ≠ bs := by
    rcases hwhere with h | h
    · intro hh
      rw [hh] at h
      exact HC.out.2.2.2.2.2 h
    · omega
  have HE := Lib.hid (⟨hown, hB24, hq, p0, hwh⟩ : _ ∧ _ ∧ _ ∧ _ ∧ _)
  clear hown hgrow hwhere hgl hB24 hq hwh f0 f1 f2 h5' h6' h7'
  go_wp2_with fail
  go_end0
  obtain ⟨hst, hB1, h1, h2, h7, h8⟩ := HC.out
  obtain ⟨hw2, hB2, hK, m0', m1'⟩ := HD.out
  obtain ⟨hown, hB24, hq, p0, hwh⟩ := HE.out
  have hB25 : Below (b + 1) w2 (w4.setCell ⟨b + 1, 0, none⟩ (.slice (some ⟨gr, 0, none⟩) (O.length + 1) cap)) := (hB24.mono (show b + 1 ≤ b + 2 by omega)).setCell (Nat.le_refl _) _
  refine ⟨rfl, ⟨(h1.keeps (fun a' n' c' hh => Nat.lt_of_lt_of_le (hx a' n' c' hh) hMg) hK).below (fun a' n' c' hh => by have := hx a' n' c' hh; omega) hB25, hw2.below (by omega) hB25, (hB25.cell (p := ⟨b, 0, none⟩) (by show b < b + 1; omega)).trans m0', (hB25.cell (p := ⟨b, 1, none⟩) (by show b < b + 1; omega)).trans m1', some ⟨gr, 0, none⟩, O.length + 1, cap, World.cell?_setCell_same _ _ _ p0, (World.frozen?_setCell _ _ _ _).trans p1, ?_, ?_⟩, ?_, fun hne1 hne2 => ?_⟩
  · rw [cellsOf_snoc, List.length_append]
    exact ownsRow_setCell_below hown (by show b + 1 < b + 2; omega) _
  · intro hh
    injection hh with hh
    exact hwh hh
  · exact (hB1.mono (show M ≤ w.heap.size by omega)).trans (hB2.trans (hB25.mono (by omega)))
  · exact (Below.heap_setCell _ _ _ _ hne2).trans (hq.trans ((hK.2 bs hne1 (by omega)).trans (hB1.block bs hbs)))
end Go.Proofs.YtfoocnhfppjbbaaGreatDoor
