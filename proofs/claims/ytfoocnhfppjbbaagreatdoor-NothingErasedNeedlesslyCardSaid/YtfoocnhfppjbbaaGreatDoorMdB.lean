/- Package flash: Cycles. -/
import Derived.Test.YtfoocnhfppjbbaaGreatDoorM13
namespace Go.Proofs.YtfoocnhfppjbbaaGreatDoor
open Go.RowKit

/-- What Cycles answers: C is the number of the error of the operations. -/
def CyclesSaid (C : Int) (S : List Int) (O : List Opn) (e : Ending) (w' : World) : Prop :=
  (C ≠ 0 ∧ e = .returned (.tuple #[.slice none 0 0, .int .i64 C])) ∨
  (C = 0 ∧ 50000 < (cycL S O).length ∧ e = .returned (.tuple #[.slice none 0 0, .int .i64 12])) ∨
  (C = 0 ∧ (cycL S O).length ≤ 50000 ∧ ∃ x, e = .returned (.tuple #[x, .int .i64 0]) ∧ CycsAt w' x (cycL S O))
theorem CyclesSaid.bad {C : Int} {S : List Int} {O : List Opn} {w : World} (h : C ≠ 0) : CyclesSaid C S O (.returned (.tuple #[.slice none 0 0, .int .i64 C])) w := Or.inl ⟨h, rfl⟩
theorem CyclesSaid.full {S : List Int} {O : List Opn} {w : World} (h : 50000 < (cycL S O).length) : CyclesSaid 0 S O (.returned (.tuple #[.slice none 0 0, .int .i64 12])) w := Or.inr (Or.inl ⟨rfl, h, rfl⟩)
theorem CyclesSaid.ok {S : List Int} {O : List Opn} {w : World} {x : Value} (h : (cycL S O).length ≤ 50000) (hx : CycsAt w x (cycL S O)) : CyclesSaid 0 S O (.returned (.tuple #[x, .int .i64 0])) w := Or.inr (Or.inr ⟨rfl, h, x, rfl, hx⟩)
set_option maxHeartbeats 1600000 in
set_option maxRecDepth 100000 in
theorem cycles_any (S : List Int) (O : List Opn) (hz : S.length ≤ 1000000) (hzO : O.length ≤ 1000000) (w : World) (v u : Value) (h : NumsAt w v S) (hO : OpsAt w u O) :
    Calls Tryz.prog 12 #[.agg #[v], u] w fun e w' => CyclesSaid (coErr S O) S O e w' ∧ Below w.heap.size w w' := by
  obtain ⟨W1, hW1⟩ : ∃ W1 : World, W1 = w.alloc (.cells #[v] 27) := ⟨_, rfl⟩
  have hB1 : Below w.heap.size w W1 := by rw [hW1]; exact (Below.refl _ _).alloc (Nat.le_refl _) _
  have hc0 : W1.cell? ⟨w.heap.size, 0, none⟩ = some v := by rw [hW1]; simp
  have hl1 : w.heap.size < W1.heap.size := World.block_lt_of_cell? W1 ⟨w.heap.size, 0, none⟩ hc0
  have hco := checkOps_any S O hz hzO W1 v u (h.later hB1) (hO.later hB1)
  have hsp := fun hS X hB => spansOf_any S hS X v (h.later hB)
  have hok := coErr_ok (S := S) (O := O)
  have hokF : coErr S O = 0 → FlashRight S := fun e => by
    unfold coErr at e
    split at e
    · exact flErr_right (by assumption)
    · exact absurd e (by assumption)
  have hlen := fun k => cycL_len S (O.take k)
  have hst := fun k hk => cycL_take S O k hk
  obtain ⟨C, hC⟩ : ∃ C, C = coErr S O := ⟨_, rfl⟩
  rw [← hC] at hco hok hokF ⊢
  obtain ⟨a, c, rfl, -, -⟩ := h
  obtain ⟨a2, c2, rfl, -, hop⟩ := hO
  obtain ⟨m, hm⟩ : ∃ m, m = O.length := ⟨_, rfl⟩
  rw [← hm] at hco hop hst ⊢
  have HW := Lib.hid hW1
  have HP := Lib.hid (⟨hsp, hok, hokF, hlen, hst, hop, hm, hB1⟩ : _ ∧ _ ∧ _ ∧ _ ∧ _ ∧ _ ∧ _ ∧ _)
  clear hsp hok hokF hlen hst hop hm hB1 hW1 hC
  go_enter Tryz.func12, Tryz.ntmps12
  go_wp2_with fail
  rw [← HW.out]
  refine hco.mono ?_
  rintro e w2 ⟨rfl, hB2⟩
  have g2 := (hB2.cell (p := ⟨w.heap.size, 0, none⟩) hl1).trans hc0
  have hl2 : w.heap.size < w2.heap.size := Nat.lt_of_lt_of_le hl1 hB2.size
  have HB2 := Lib.hid (HP.out.2.2.2.2.2.2.2.trans (hB2.mono HP.out.2.2.2.2.2.2.2.size))
  clear hco hB2 hc0
  by_cases h0 : C = 0
  · obtain ⟨hsp, hok, hokF, hlen, hst, hop, hm, -⟩ := HP.out
    have hS := hokF h0
    obtain ⟨hm5, hO2⟩ := opsErr_ok (hok h0)
    have hq := hsp hS w2 HB2.out
    rw [← hm] at hm5 hO2
    subst h0
    have HS := Lib.hid (⟨hS, hO2, hlen, hst, hop, hm⟩ : _ ∧ _ ∧ _ ∧ _ ∧ _ ∧ _)
    clear hsp hok hokF hlen hst hop hm hS hO2
    go_wp2_with fail
    refine hq.mono ?_
    rintro e w3 ⟨x, rfl, hx, -, hB3⟩
    obtain ⟨ax, cx, rfl, -, -⟩ := id hx
    have HX := Lib.hid (⟨hx, HB2.out.trans (hB3.mono HB2.out.size)⟩ : _ ∧ _)
    clear hq hx hB3 g2
    obtain ⟨i0, hi, hz0, hz1, hz2⟩ := info_parts Tryz.infoCyc
    have hund : Tryz.prog.underlying 39 = some (.slice 83) := by kernel_rfl
    go_wp2_with fail
    go_loopw [7, 21] (fun o i wr => ∃ k : Nat, k ≤ m ∧ i = .int .i64 (k : Int) ∧ COwn w3.heap.size wr o (cycL S (O.take k)) ∧ Below w3.heap.size w3 wr) (fun _ i _ => m - (intOf i).toNat)
    case atStart => exact ⟨0, by omega, rfl, COwn.nil _ _, Below.refl _ _⟩
    case round =>
      obtain ⟨k, hk, rfl, hown, hB⟩ := hrel
      obtain ⟨oa, oc, rfl⟩ := hown.form
      have hlk := HS.out.2.2.1 k
      rw [List.length_take] at hlk
      have hcl : (cycL S (O.take k)).length ≤ 300000 := by omega
      have hzr := hB.size
      by_cases hlt : k < m
      · obtain ⟨g, o, rfl, hg, hcell⟩ := HS.out.2.2.2.2.1 (by omega)
        obtain ⟨d1, d2, d3⟩ := hcell k hlt
        have hBw := HX.out.2.trans (hB.mono HX.out.2.size)
        have hc1 := (hBw.cell (p := ⟨g, o + k * 3, none⟩) hg).trans d1
        have hc2 := (hBw.cell (p := ⟨g, o + k * 3 + 1, none⟩) hg).trans d2
        have hc3 := (hBw.cell (p := ⟨g, o + k * 3 + 2, none⟩) hg).trans d3
        have hop := HS.out.2.1 k hlt
        have hst := HS.out.2.2.2.1 k hlt
        obtain ⟨x, y, z, hy⟩ : ∃ x y z, O.getD k (0, 0, 0) = (x, y, z) := ⟨_, _, _, rfl⟩
        rw [hy] at hc1 hc2 hc3 hop hst
        dsimp only at hc1 hc2 hc3
        unfold cycOf at hst
        dsimp only at hst
        have k0 : (0 : Int) ≤ (k : Int) := by omega
        have k1 : (k : Int) < (m : Int) := by omega
        have hA1 : Below wr.heap.size wr (wr.alloc (.cells #[.int .i64 x, .int .i64 y, .int .i64 z] 51)) := below_alloc _ _
        obtain ⟨n, hn⟩ : ∃ n, n = (cycL S (O.take k)).length := ⟨_, rfl⟩
        clear d1 d2 d3 hcell hy
        by_cases hx1 : x = 1
        · subst hx1
          obtain ⟨y0, y1⟩ := opErr_erase hop
          obtain ⟨y, rfl⟩ : ∃ z : Nat, y = (z : Int) := ⟨y.toNat, by omega⟩
          rw [if_pos rfl, Int.toNat_natCast] at hst
          have hes := eraseStart_any (wr.alloc (.cells #[.int .i64 1, .int .i64 (y : Int), .int .i64 z] 51))
          have HR := Lib.hid (⟨hown, hB, hst⟩ : _ ∧ _ ∧ _)
          have hlow := hown.lt
          clear hown hB hst hop hA1
          go_wp2_with fail
          refine hes.mono ?_
          rintro e w4 ⟨rfl, hw4⟩
          have hB4 : Below wr.heap.size wr w4 := by rw [hw4]; exact ((Below.refl _ _).alloc (Nat.le_refl _) _).alloc (by simp) _
          have hs4 : w4.heap.size = wr.heap.size + 2 := by rw [hw4]; simp
          have hkc : ∀ j u, (cellsC eraseKey)[j]? = some u → w4.cell? ((⟨wr.heap.size + 1, 0, none⟩ : Addr).add j) = some u := fun j u hj => by
            have h9 := cells_list (wr.alloc (.cells #[.int .i64 1, .int .i64 (y : Int), .int .i64 z] 51)) (cellsC eraseKey) 83 j u hj
            rw [World.size_alloc] at h9
            rw [hw4]
            exact h9
          have f1 : w4.cell? ⟨wr.heap.size, 1, none⟩ = some (.int .i64 (y : Int)) := by rw [hw4, World.cell?_alloc_lt _ _ _ (by simp)]; exact cell_new1 wr _ _ rfl
          have f2 : w4.cell? ⟨wr.heap.size, 2, none⟩ = some (.int .i64 z) := by rw [hw4, World.cell?_alloc_lt _ _ _ (by simp)]; exact cell_new1 wr _ _ rfl
          have hown4 := HR.out.1.below hB4
          have HW4 := Lib.hid (⟨hw4, hB4⟩ : _ ∧ _)
          simp only [World.size_alloc]
          clear hes hw4 hB4
          go_wp2_with (at_builtin; refine wpList_append_lies _ rfl _ _ 39 rfl w3.heap.size 83 i0 (.agg #[.int .i64 0, .int .i64 0]) 2 16 hund hi hz0 hz1 hz2 rfl (by decide) _ _ _ rfl hown4 ⟨wr.heap.size + 1, 0, none⟩ 5 5 (cellsC eraseKey) rfl rfl hkc (cellsC_one _) (by decide) (by unfold maxLen; omega) (by omega) (by omega) _ rfl ?_)
          intro g5 cap5 w5 hown5 hg5 hat5 hlt5
          have hB5 : Below w3.heap.size w4 w5 := (Below.refl w3.heap.size w4).grown hg5 (by omega) (fun j hj => (hown4.lt j hj).1)
          have hkeep : w5.heap[wr.heap.size]? = w4.heap[wr.heap.size]? := hg5.block _ (by omega) (fun hh => by have := (hlow _ hh.symm).2; omega)
          have p1 := (World.cell?_of_block (a := ⟨wr.heap.size, 1, none⟩) hkeep).trans f1
          have p2 := (World.cell?_of_block (a := ⟨wr.heap.size, 2, none⟩) hkeep).trans f2
          have hown5' : COwn w3.heap.size w5 (.slice (some ⟨g5, 0, none⟩) ((cycL S (O.take k)).length + 5) cap5) (cycL S (O.take k) ++ eraseKey) := COwn.push (D := eraseKey) hown5
          have hz5 : w3.heap.size ≤ w5.heap.size := by have := hg5.size; omega
          have HY := Lib.hid (⟨hown5', HR.out.2.1.trans ((HW4.out.2.mono hzr).trans hB5)⟩ : _ ∧ _)
          have hsx := HX.out.1.below (HX.out.1.behind (by omega)) HY.out.2
          obtain ⟨sa, sc, hsl, -, hops⟩ := hsx
          injection hsl with x1 x2 x3
          subst x1
          obtain ⟨gs, so, rfl, -, hcs⟩ := hops (by omega)
          obtain ⟨e1, -⟩ := hcs y (by omega)
          have y2 : (y : Int) < (S.length : Int) := by omega
          have hlen5 : ((cycL S (O.take k)) ++ eraseKey).length = (cycL S (O.take k)).length + 5 := List.length_append
          obtain ⟨pp, hpp⟩ : ∃ pp, pp = preS S y := ⟨_, rfl⟩
          rw [← hpp] at e1
          have HPP := Lib.hid hpp
          clear hpp x2 x3 hcs hops
          have hownA := HY.out.1
          unfold COwn at hownA
          rw [hlen5] at hownA
          have HLN := Lib.hid hlen5
          clear hlen5
          clear hown5 hown5' hg5 hat5 hlt5 hkeep f1 f2 hkc hown4 hB5
          go_wp2_with (at_builtin; refine wpList_append_lies _ rfl _ _ 39 rfl w3.heap.size 83 i0 (.agg #[.int .i64 0, .int .i64 0]) 2 16 hund hi hz0 hz1 hz2 rfl (by decide) _ _ _ rfl (hownA.alloc _) ⟨w5.heap.size, 0, none⟩ 1 1 (cellsC [(pp, 48)]) rfl rfl (cells_list w5 (cellsC [(pp, 48)]) _) (cellsC_one _) (by decide) (by unfold maxLen; omega) (by omega) (by simp; omega) _ rfl ?_)
          intro g6 cap6 w6 hown6 hg6 hat6 hlt6
          have hown6' : COwn w3.heap.size w6 (.slice (some ⟨g6, 0, none⟩) ((cycL S (O.take k)).length + 5 + 1) cap6) (cycL S (O.take (k + 1))) := by
            rw [HR.out.2.2, ← List.append_assoc, ← HPP.out]
            refine COwn.push (C := cycL S (O.take k) ++ eraseKey) (D := [(pp, 48)]) ?_
            rw [HLN.out]
            exact hown6
          have hB6 : Below w3.heap.size w5 w6 := ((Below.refl w3.heap.size w5).alloc hz5 _).grown hg6 (by simp; omega) (fun j hj => (hownA.lt j hj).1)
          have HZ := Lib.hid (⟨hown6', HY.out.2.trans hB6⟩ : _ ∧ _)
          clear hown6 hown6' hg6 hat6 hlt6 hB6 hownA p1 p2
          go_wp2_with fail
          go_roundw
          case rel => exact ⟨k + 1, by omega, by go_num, HZ.out.1, HZ.out.2⟩
          case measure => simp [intOf]; omega
        · obtain ⟨rfl, y0, y1, z0, z1⟩ := opErr_program hx1 hop
          obtain ⟨y, rfl⟩ : ∃ q : Nat, y = (q : Int) := ⟨y.toNat, by omega⟩
          rw [if_neg (by decide)] at hst
          clear hx1
          have hes := programStart_any (wr.alloc (.cells #[.int .i64 2, .int .i64 (y : Int), .int .i64 z] 51))
          have HR := Lib.hid (⟨hown, hB, hst⟩ : _ ∧ _ ∧ _)
          have hlow := hown.lt
          clear hown hB hst hop hA1
          go_wp2_with fail
          refine hes.mono ?_
          rintro e w4 ⟨rfl, hw4⟩
          have hB4 : Below wr.heap.size wr w4 := by rw [hw4]; exact ((Below.refl _ _).alloc (Nat.le_refl _) _).alloc (by simp) _
          have hs4 : w4.heap.size = wr.heap.size + 2 := by rw [hw4]; simp
          have hkc : ∀ j u, (cellsC progKey)[j]? = some u → w4.cell? ((⟨wr.heap.size + 1, 0, none⟩ : Addr).add j) = some u := fun j u hj => by
            have h9 := cells_list (wr.alloc (.cells #[.int .i64 2, .int .i64 (y : Int), .int .i64 z] 51)) (cellsC progKey) 83 j u hj
            rw [World.size_alloc] at h9
            rw [hw4]
            exact h9
          have f1 : w4.cell? ⟨wr.heap.size, 1, none⟩ = some (.int .i64 (y : Int)) := by rw [hw4, World.cell?_alloc_lt _ _ _ (by simp)]; exact cell_new1 wr _ _ rfl
          have f2 : w4.cell? ⟨wr.heap.size, 2, none⟩ = some (.int .i64 z) := by rw [hw4, World.cell?_alloc_lt _ _ _ (by simp)]; exact cell_new1 wr _ _ rfl
          have hown4 := HR.out.1.below hB4
          have HW4 := Lib.hid (⟨hw4, hB4⟩ : _ ∧ _)
          simp only [World.size_alloc]
          clear hes hw4 hB4
          go_wp2_with (at_builtin; refine wpList_append_lies _ rfl _ _ 39 rfl w3.heap.size 83 i0 (.agg #[.int .i64 0, .int .i64 0]) 2 16 hund hi hz0 hz1 hz2 rfl (by decide) _ _ _ rfl hown4 ⟨wr.heap.size + 1, 0, none⟩ 3 3 (cellsC progKey) rfl rfl hkc (cellsC_one _) (by decide) (by unfold maxLen; omega) (by omega) (by omega) _ rfl ?_)
          intro g5 cap5 w5 hown5 hg5 hat5 hlt5
          have hB5 : Below w3.heap.size w4 w5 := (Below.refl w3.heap.size w4).grown hg5 (by omega) (fun j hj => (hown4.lt j hj).1)
          have hkeep : w5.heap[wr.heap.size]? = w4.heap[wr.heap.size]? := hg5.block _ (by omega) (fun hh => by have := (hlow _ hh.symm).2; omega)
          have p1 := (World.cell?_of_block (a := ⟨wr.heap.size, 1, none⟩) hkeep).trans f1
          have p2 := (World.cell?_of_block (a := ⟨wr.heap.size, 2, none⟩) hkeep).trans f2
          have hown5' : COwn w3.heap.size w5 (.slice (some ⟨g5, 0, none⟩) ((cycL S (O.take k)).length + 3) cap5) (cycL S (O.take k) ++ progKey) := COwn.push (D := progKey) hown5
          have hz5 : w3.heap.size ≤ w5.heap.size := by have := hg5.size; omega
          have HY := Lib.hid (⟨hown5', HR.out.2.1.trans ((HW4.out.2.mono hzr).trans hB5)⟩ : _ ∧ _)
          have hlen5 : ((cycL S (O.take k)) ++ progKey).length = (cycL S (O.take k)).length + 3 := List.length_append
          have hownA := HY.out.1
          unfold COwn at hownA
          rw [hlen5] at hownA
          have HLN := Lib.hid hlen5
          clear hlen5
          clear hown5 hown5' hg5 hat5 hlt5 hkeep f1 f2 hkc hown4 hB5
          go_wp2_with (at_builtin; refine wpList_append_lies _ rfl _ _ 39 rfl w3.heap.size 83 i0 (.agg #[.int .i64 0, .int .i64 0]) 2 16 hund hi hz0 hz1 hz2 rfl (by decide) _ _ _ rfl (hownA.alloc _) ⟨w5.heap.size, 0, none⟩ 1 1 (cellsC [((y : Int), z)]) rfl rfl (cells_list w5 (cellsC [((y : Int), z)]) _) (cellsC_one _) (by decide) (by unfold maxLen; omega) (by omega) (by simp; omega) _ rfl ?_)
          intro g6 cap6 w6 hown6 hg6 hat6 hlt6
          have hown6' : COwn w3.heap.size w6 (.slice (some ⟨g6, 0, none⟩) ((cycL S (O.take k)).length + 3 + 1) cap6) (cycL S (O.take (k + 1))) := by
            rw [HR.out.2.2, ← List.append_assoc]
            refine COwn.push (C := cycL S (O.take k) ++ progKey) (D := [((y : Int), z)]) ?_
            rw [HLN.out]
            exact hown6
          have hB6 : Below w3.heap.size w5 w6 := ((Below.refl w3.heap.size w5).alloc hz5 _).grown hg6 (by simp; omega) (fun j hj => (hownA.lt j hj).1)
          have HZ := Lib.hid (⟨hown6', HY.out.2.trans hB6⟩ : _ ∧ _)
          clear hown6 hown6' hg6 hat6 hlt6 hB6 hownA p1 p2
          go_wp2_with fail
          go_roundw
          case rel => exact ⟨k + 1, by omega, by go_num, HZ.out.1, HZ.out.2⟩
          case measure => simp [intOf]; omega
      · obtain rfl : k = m := by omega
        rw [HS.out.2.2.2.2.2, List.take_length] at hown hcl
        have hfin := hown.at
        by_cases h5 : 50000 < (cycL S O).length
        · have n5 : (50000 : Int) < ((cycL S O).length : Int) := by omega
          have HF := Lib.hid (⟨hB, h5⟩ : _ ∧ _)
          clear hB hown hfin h5
          rw [HS.out.2.2.2.2.2, List.take_length]
          go_wp2_with fail
          go_ret2
          exact ⟨CyclesSaid.full HF.out.2, HX.out.2.trans (HF.out.1.mono HX.out.2.size)⟩
        · have n5 : ((cycL S O).length : Int) ≤ 50000 := by omega
          have HF := Lib.hid (⟨hB, h5, hfin⟩ : _ ∧ _ ∧ _)
          clear hB hown hfin h5
          rw [HS.out.2.2.2.2.2, List.take_length]
          go_wp2_with fail
          go_ret2
          exact ⟨CyclesSaid.ok (by have := HF.out.2.1; omega) HF.out.2.2, HX.out.2.trans (HF.out.1.mono HX.out.2.size)⟩
  · have n0 : (C != 0) = true := by simpa using h0
    have H0 := Lib.hid h0
    clear h0 HP
    go_wp2_with fail
    go_ret2
    exact ⟨CyclesSaid.bad H0.out, HB2.out⟩
end Go.Proofs.YtfoocnhfppjbbaaGreatDoor
