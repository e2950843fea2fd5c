/- slices.Clone of operations, Wear, whether a number is above 1. Made by gens/pea.py. -/
import Derived.Test.YtfoocnhfppjbbaaGreatDoorDelOps
import Derived.Test.YtfoocnhfppjbbaaGreatDoorPaA
import Derived.Test.YtfoocnhfppjbbaaGreatDoorMkA
import Derived.Deep.AppendLies
import Derived.Deep.CutBlock
import Derived.Deep.DeepCutAuto
import Derived.Test.YtfoocnhfppjbbaaGreatDoorM13
namespace Go.Proofs.YtfoocnhfppjbbaaGreatDoor
open Go.RowKit

theorem OpsAt.cells {w : World} {g o n c : Nat} {O : List Opn} (h : OpsAt w (.slice (some ⟨g, o, none⟩) n c) O) (hn : n = O.length) (h0 : 0 < n) : ∀ j u, (cellsOf O)[j]? = some u → w.cell? ((⟨g, o, none⟩ : Addr).add j) = some u := by
  obtain ⟨a, c', h1, h2, h3⟩ := h
  obtain ⟨g', o', h4, h5, h6⟩ := h3 (by omega)
  injection h1 with e1 e2 e3
  subst e1
  injection h4 with h4
  injection h4 with h7 h8
  subst h7 h8
  intro j u hu
  have hj : j < O.length * 3 := by
    have := (List.getElem?_eq_some_iff.1 hu).1
    rwa [cellsOf_lenD] at this
  obtain ⟨d1, d2, d3⟩ := h6 (j / 3) (by omega)
  obtain ⟨k1, k2, k3⟩ := cellsOf_at O (j / 3) (by omega)
  rw [show (⟨g, o, none⟩ : Addr).add j = ⟨g, o + j, none⟩ from by simp [Addr.add]]
  have : j = j / 3 * 3 ∨ j = j / 3 * 3 + 1 ∨ j = j / 3 * 3 + 2 := by omega
  rcases this with e | e | e
  · rw [e] at hu ⊢
    rw [k1] at hu
    rw [← hu]
    exact d1
  · rw [e] at hu ⊢
    rw [k2] at hu
    rw [← hu]
    exact d2
  · rw [e] at hu ⊢
    rw [k3] at hu
    rw [← hu]
    exact d3
theorem ops_of_own {B : Nat} {w : World} {v : Value} {O : List Opn} (h : w.ownsRow B 51 3 v O.length (cellsOf O)) : OpsAt w v O := by
  have h' := h
  obtain ⟨-, ⟨hv, h0⟩ | ⟨g, cap, cur, hv, hg, hh, hnc, hcm, hcs, ht⟩⟩ := h
  · exact ⟨none, 0, by rw [hv, h0], by omega, fun h => by omega⟩
  · subst hv
    refine ⟨_, cap, rfl, hnc, fun _ => ⟨g, 0, rfl, (Array.getElem?_eq_some_iff.1 hh).1, fun j hj => ?_⟩⟩
    obtain ⟨k1, k2, k3⟩ := cellsOf_at O j hj
    rw [Nat.zero_add]
    exact ⟨(h'.cellAt _ (by omega)).trans k1, (h'.cellAt _ (by omega)).trans k2, (h'.cellAt _ (by omega)).trans k3⟩
set_option maxHeartbeats 800000 in
set_option maxRecDepth 100000 in
theorem cloneOps_any (C : List Opn) (hz : C.length ≤ 1000000) (h0 : C.length ≠ 0) (w : World) (v : Value) (h : OpsAt w v C) :
    Calls Tryz.prog 17 #[v] w fun e w' => ∃ g c, e = .returned (.slice (some ⟨g, 0, none⟩) C.length c) ∧ w'.ownsRow w.heap.size 51 3 (.slice (some ⟨g, 0, none⟩) C.length c) C.length (cellsOf C) ∧ Below w.heap.size w w' := by
  obtain ⟨i0, hi, hz0, hz1, hz2⟩ := info_parts Tryz.infoOp
  have hund : Tryz.prog.underlying 34 = some (.slice 51) := by kernel_rfl
  obtain ⟨a, c, rfl, hc, hop⟩ := id h
  obtain ⟨g, o, rfl, hg, hcell⟩ := hop (by omega)
  have hcs := h.cells rfl (by omega)
  have hlen := cellsOf_lenD C
  have hone := cellsOf_oneD C
  obtain ⟨n, hn⟩ : ∃ n, n = C.length := ⟨_, rfl⟩
  have hnil : ∀ W, (binOp .eql 34 (.slice (some ⟨g, o, none⟩) n c) (.slice none 0 0)).run Tryz.prog W = .ok (.bool false) W := fun W => Lib.run_eql_slice_nil W _ _ _ _ _ _ _ hund
  have hcs2 : ∀ j u, (cellsOf C)[j]? = some u → (w.alloc (.cells #[] 51)).cell? ((⟨g, o, none⟩ : Addr).add j) = some u := fun j u hj => by
    rw [World.cell?_alloc_lt _ _ _ (by unfold Addr.add; split <;> exact hg)]
    exact hcs j u hj
  rw [← hn] at hz h0 hlen ⊢
  clear h hop hcell hc hn hcs
  go_enter Tryz.func17, Tryz.ntmps17
  have hO := World.ownsRow_made w #[] 0 (e := 51) (size := 3) (Nat.le_refl _) (Nat.zero_le _) rfl
  go_upto_region 3 with fail
  refine wp_region_lit ?_
  refine wpList_step fun K hK => ?_
  go_simp
  refine hK _ _ ?_
  clear hK K
  refine wpList_step fun K hK => ?_
  go_simp
  refine hK _ _ ?_
  clear hK K
  refine wpList_append_lies _ rfl _ _ 34 rfl w.heap.size 51 i0 (.agg #[.int .i64 0, .int .i64 0, .int .i64 0]) 3 24 hund hi hz0 hz1 hz2 rfl (by decide) _ _ _ rfl hO ⟨g, o, none⟩ n c (cellsOf C) rfl hlen hcs2 hone (by omega) (by unfold maxLen; omega) (by omega) (by simp) _ rfl ?_
  intro g5 cap5 w5 hown5 hg5 hat5 hlt5
  simp only [Nat.zero_add, List.nil_append] at hown5
  have hB5 : Below w.heap.size w w5 := ((Below.refl _ _).alloc (Nat.le_refl _) _).grown hg5 (by simp) (fun j hj => (hO.lt j hj).1)
  have HF := Lib.hid (⟨hown5, hB5⟩ : _ ∧ _)
  clear hB5 hown5 hg5 hat5 hlt5 hO hcs2 hone hlen
  go_wp2_with fail
  go_ret
  exact ⟨_, _, rfl, HF.out.1, HF.out.2⟩
theorem made_zero (n : Nat) : (madeCells #[.int .i64 0] n).toList = List.replicate n (Value.int .i64 0) := toList_madeCells_one _ n
theorem own_blk {base e size n : Nat} {g cap : Nat} {w : World} {xs : List Value} (h : w.ownsRow base e size (.slice (some ⟨g, 0, none⟩) n cap) n xs) : g < w.heap.size := by
  obtain ⟨-, ⟨h, _⟩ | ⟨g', cap', cur, hv, hg, hh, -⟩⟩ := h
  · simp at h
  · simp at hv
    obtain ⟨rfl, -⟩ := hv
    exact (Array.getElem?_eq_some_iff.1 hh).1
theorem nums_of_ownW {w : World} {B : Nat} {v : Value} {l : List Int} (h : w.ownsRow B 3 1 v l.length (l.map (Value.int .i64))) : NumsAt w v l := by
  have h' := h
  obtain ⟨-, ⟨hv, h0⟩ | ⟨g, cap, cur, hv, hg, hh, hnc, hcm, hcs, ht⟩⟩ := h
  · exact ⟨none, 0, by rw [hv, h0], by omega, fun h => by omega⟩
  · subst hv
    refine ⟨_, cap, rfl, hnc, fun _ => ⟨g, 0, rfl, (Array.getElem?_eq_some_iff.1 hh).1, fun j hj => ?_⟩⟩
    rw [Nat.zero_add, h'.cellAt j (by omega)]
    simp [hj]
/-- How often the first k operations erase a sector. -/
def wearTo (O : List Opn) (s : Nat) : Nat → Nat
  | 0 => 0
  | k + 1 => wearTo O s k + (if (O.getD k (0, 0, 0)).1 = 1 ∧ (O.getD k (0, 0, 0)).2.1 = (s : Int) then 1 else 0)
theorem wearTo_succ (O : List Opn) (s k : Nat) : wearTo O s (k + 1) = wearTo O s k + (if (O.getD k (0, 0, 0)).1 = 1 ∧ (O.getD k (0, 0, 0)).2.1 = (s : Int) then 1 else 0) := rfl
theorem wearTo_le (O : List Opn) (s : Nat) : ∀ k, wearTo O s k ≤ k
  | 0 => Nat.le_refl _
  | k + 1 => by
    have h := wearTo_le O s k
    unfold wearTo
    split <;> omega
def wearL (S : List Int) (O : List Opn) (k : Nat) : List Int := (List.range S.length).map fun s => (wearTo O s k : Int)
theorem wearL_no (S : List Int) (O : List Opn) (k : Nat) (h : (O.getD k (0, 0, 0)).1 ≠ 1) : wearL S O (k + 1) = wearL S O k := by
  unfold wearL
  apply List.map_congr_left
  intro s _
  rw [wearTo_succ, if_neg (fun hh => h hh.1), Nat.add_zero]
theorem wearL_yes (S : List Int) (O : List Opn) (k a : Nat) (h : (O.getD k (0, 0, 0)).1 = 1) (h2 : (O.getD k (0, 0, 0)).2.1 = (a : Int)) (ha : a < S.length) : wearL S O (k + 1) = (wearL S O k).set a ((wearTo O a k : Int) + 1) := by
  apply List.ext_getElem
  · simp [wearL]
  · intro s h3 h4
    have hs : s < S.length := by simpa [wearL] using h3
    by_cases e : s = a
    · subst e
      rw [List.getElem_set_self]
      simp only [wearL, List.getElem_map, List.getElem_range]
      rw [wearTo_succ, if_pos ⟨h, h2⟩]
      omega
    · rw [List.getElem_set_ne (Ne.symm e)]
      simp only [wearL, List.getElem_map, List.getElem_range]
      rw [wearTo_succ, if_neg (fun hh => e (by have := hh.2.symm.trans h2; omega)), Nat.add_zero]
set_option maxHeartbeats 1200000 in
set_option maxRecDepth 100000 in
theorem wear_any (S : List Int) (O : List Opn) (hS : FlashRight S) (hO : opsErr S O = 0) (hz : O.length ≤ 1000000) (w : World) (v u : Value) (h : NumsAt w v S) (hu : OpsAt w u O) :
    Calls Tryz.prog 18 #[.agg #[v], u] w fun e w' => ∃ x, e = .returned (.tuple #[x, .int .i64 0]) ∧ NumsAt w' x (wearL S O O.length) ∧ Below w.heap.size w w' := by
  have hSz : S.length ≤ 20 := hS.l2
  have hco : coErr S O = 0 := by
    unfold coErr
    rw [if_pos]
    · exact hO
    · unfold flErr
      rw [if_neg (by have := hS.l1; omega), if_neg (by omega), if_neg (by rw [withinB_iff.2 fun k hk => ⟨hS.low k hk, hS.high k hk⟩]; decide), if_neg (by have := hS.sum; omega)]
  have hop1 := (opsErr_ok hO).2
  obtain ⟨W1, hW1⟩ : ∃ W1 : World, W1 = w.alloc (.cells #[v] 27) := ⟨_, rfl⟩
  have hB1 : Below w.heap.size w W1 := by rw [hW1]; exact (Below.refl _ _).alloc (Nat.le_refl _) _
  have hc0 : W1.cell? ⟨w.heap.size, 0, none⟩ = some v := by rw [hW1]; simp
  have hl1 : w.heap.size < W1.heap.size := World.block_lt_of_cell? W1 ⟨w.heap.size, 0, none⟩ hc0
  have hck := checkOps_any S O (by omega) hz W1 v u (h.later hB1) (hu.later hB1)
  rw [hco] at hck
  obtain ⟨a, c, rfl, -, -⟩ := id h
  obtain ⟨a2, c2, rfl, -, hop⟩ := id (hu.later hB1)
  obtain ⟨i0, hi, hz0, hz1, hz2⟩ := info_parts Tryz.infoInt1
  have hund : Tryz.prog.underlying 22 = some (.slice 3) := by kernel_rfl
  obtain ⟨n, hn⟩ : ∃ n, n = S.length := ⟨_, rfl⟩
  obtain ⟨m, hm⟩ : ∃ m, m = O.length := ⟨_, rfl⟩
  rw [← hm] at hop hck hz hop1
  rw [← hn] at hck hc0 hW1 hSz
  rw [← hm]
  rw [← hn]
  have hno := fun k => wearL_no S O k
  have hyes := fun k a => wearL_yes S O k a
  have hle := fun s k => wearTo_le O s k
  have HW := Lib.hid hW1
  have HP := Lib.hid (⟨hop, hop1, hno, hyes, hle, hn, hB1⟩ : _ ∧ _ ∧ _ ∧ _ ∧ _ ∧ _ ∧ _)
  clear hW1 hB1 hop hop1 hno hyes hle hn hm h hu hS hO hco
  go_enter Tryz.func18, Tryz.ntmps18
  go_wp2_with fail
  rw [← HW.out]
  refine hck.mono ?_
  rintro e w2 ⟨rfl, hB2⟩
  have g2 := (hB2.cell (p := ⟨w.heap.size, 0, none⟩) hl1).trans hc0
  have HB2 := Lib.hid hB2
  have hz2' := hB2.size
  clear hck hB2 hc0
  go_wp2_with (at_make; refine wpList_make_full _ rfl (.tmp 18) (.tmp 18) 22 rfl w2.heap.size 3 i0 (.int .i64 0) 1 hund hi hz0 hz1 _ _ _ _ n rfl rfl rfl rfl ?b1 ?b2 ?b3 ?_)
  case b1 => rw [hz2]; omega
  case b2 => unfold maxLen; omega
  case b3 => exact Nat.le_refl _
  intro w3 hown hgrow
  have hB3 : Below w2.heap.size w2 w3 := (Below.refl _ _).grown hgrow (Nat.le_refl _) (fun k hk => by cases hk)
  have hg3 : w2.heap.size < w3.heap.size := own_blk hown
  have hrow0 : w3.ownsRow w2.heap.size 3 1 (.slice (some ⟨w2.heap.size, 0, none⟩) n n) n ((wearL S O 0).map (Value.int .i64)) := by
    have e : (wearL S O 0).map (Value.int .i64) = (madeCells #[.int .i64 0] n).toList := by
      rw [made_zero, wearL, List.map_map, ← HP.out.2.2.2.2.2.1]
      apply List.ext_getElem
      · simp
      · intro i h1 h2
        simp [wearTo]
    rw [e]
    exact hown
  obtain ⟨g, hg⟩ : ∃ g, g = w2.heap.size := ⟨_, rfl⟩
  rw [← hg] at hrow0 hg3 ⊢
  have HG := Lib.hid (⟨hrow0, hB3, HB2.out, hg⟩ : _ ∧ _ ∧ _ ∧ _)
  clear hown hgrow hB3 hrow0 g2 hg
  go_wp2_with fail
  go_loopw [22] (fun ix wr => ∃ k : Nat, k ≤ m ∧ ix = .int .i64 (k : Int) ∧ wr.ownsRow g 3 1 (.slice (some ⟨g, 0, none⟩) n n) n ((wearL S O k).map (Value.int .i64)) ∧ Below w2.heap.size w2 wr) (fun ix _ => m - (intOf ix).toNat)
  case atStart => exact ⟨0, by omega, rfl, HG.out.1, HG.out.2.1⟩
  case round =>
    obtain ⟨k, hk, rfl, hrow, hB⟩ := hrel
    by_cases hlt : k < m
    · obtain ⟨go, oo, rfl, hgo, hcell⟩ := HP.out.1 (by omega)
      obtain ⟨d1, d2, d3⟩ := hcell k hlt
      have hBw := HG.out.2.2.1.trans (hB.mono HG.out.2.2.1.size)
      have c1 := (hBw.cell (p := ⟨go, oo + k * 3, none⟩) hgo).trans d1
      have c2' := (hBw.cell (p := ⟨go, oo + k * 3 + 1, none⟩) hgo).trans d2
      have c3 := (hBw.cell (p := ⟨go, oo + k * 3 + 2, none⟩) hgo).trans d3
      have hop := HP.out.2.1 k hlt
      have hno := HP.out.2.2.1 k
      have hyes := HP.out.2.2.2.1 k
      obtain ⟨x, y, z, hy⟩ : ∃ x y z, O.getD k (0, 0, 0) = (x, y, z) := ⟨_, _, _, rfl⟩
      rw [hy] at c1 c2' c3 hop hno hyes
      dsimp only at c1 c2' c3 hno hyes
      have k0 : (0 : Int) ≤ (k : Int) := by omega
      have k1 : (k : Int) < (m : Int) := by omega
      have hgr : g < wr.heap.size := own_blk hrow
      by_cases hx1 : x = 1
      · subst hx1
        obtain ⟨y0, y1⟩ := opErr_erase hop
        obtain ⟨y, rfl⟩ : ∃ q : Nat, y = (q : Int) := ⟨y.toNat, by omega⟩
        have hyn : y < n := by have := HP.out.2.2.2.2.2.1; omega
        have hnew := hyes y rfl rfl (by have := HP.out.2.2.2.2.2.1; omega)
        have hle := HP.out.2.2.2.2.1 y k
        have ce : wr.cell? ⟨g, y, none⟩ = some (.int .i64 (wearTo O y k : Int)) := by
          rw [hrow.cellAt y (by omega)]
          have : y < S.length := by have := HP.out.2.2.2.2.2.1; omega
          simp [wearL, this]
        have cf := hrow.frozenAt y
        have hst := World.ownsRow.alloc (World.ownsRow.stored hrow y (.int .i64 ((wearTo O y k : Int) + 1))).1 (.cells #[.int .i64 1, .int .i64 (y : Int), .int .i64 z] 51)
        rw [← List.map_set, ← hnew] at hst
        have hBn : Below w2.heap.size w2 ((wr.setCell ⟨g, y, none⟩ (.int .i64 ((wearTo O y k : Int) + 1))).alloc (.cells #[.int .i64 1, .int .i64 (y : Int), .int .i64 z] 51)) := (hB.setCell (p := ⟨g, y, none⟩) (by show w2.heap.size ≤ g; have := HG.out.2.2.2; omega) _).alloc (by simpa using hB.size) _
        have y2 : (0 : Int) ≤ (y : Int) := by omega
        have y3 : (y : Int) < (n : Int) := by omega
        have cea : (wr.alloc (.cells #[.int .i64 1, .int .i64 (y : Int), .int .i64 z] 51)).cell? ⟨g, y, none⟩ = some (.int .i64 (wearTo O y k : Int)) := (World.cell?_alloc_lt _ _ _ hgr).trans ce
        obtain ⟨q, hq⟩ : ∃ q, q = wearTo O y k := ⟨_, rfl⟩
        rw [← hq] at ce cea hst hBn hle
        have HS := Lib.hid (⟨hst, hBn⟩ : _ ∧ _)
        clear hst hBn hnew hno hyes hq d1 d2 d3 hcell hy hrow hB hBw hop
        go_wp2_with fail
        go_roundw
        case rel => exact ⟨k + 1, by omega, by go_num, HS.out.1, HS.out.2⟩
        case measure => simp [intOf]; omega
      · have hx2 : (x == 1) = false := by rw [beq_eq_false_iff_ne]; exact hx1
        have hnew := hno hx1
        have HS := Lib.hid (⟨hrow, hB, hnew⟩ : _ ∧ _ ∧ _)
        clear hnew hno hyes d1 d2 d3 hcell hy hrow hB hBw hop hx1
        go_wp2_with fail
        go_roundw
        case rel => exact ⟨k + 1, by omega, by go_num, by rw [HS.out.2.2]; exact World.ownsRow.alloc HS.out.1 _, HS.out.2.1.alloc HS.out.2.1.size _⟩
        case measure => simp [intOf]; omega
    · obtain rfl : k = m := by omega
      have HS := Lib.hid (⟨hrow, hB⟩ : _ ∧ _)
      clear hrow hB
      go_wp2_with fail
      go_ret2
      refine ⟨_, rfl, ?_, HP.out.2.2.2.2.2.2.trans ((HG.out.2.2.1.trans (HS.out.2.mono HG.out.2.2.1.size)).mono HP.out.2.2.2.2.2.2.size)⟩
      have hl : (wearL S O k).length = n := by simp [wearL]; exact HP.out.2.2.2.2.2.1.symm
      exact nums_of_ownW (by rw [hl]; exact HS.out.1)
end Go.Proofs.YtfoocnhfppjbbaaGreatDoor
/- The wear of a plan; whether a number is above 1; slices.Equal of different words. Made by gens/peb.py. -/
namespace Go.Proofs.YtfoocnhfppjbbaaGreatDoor
open Go.RowKit

def isEr (s : Nat) (o : Opn) : Bool := decide (o.1 = 1 ∧ o.2.1 = (s : Int))
theorem wearTo_count (O : List Opn) (s : Nat) : ∀ k, k ≤ O.length → wearTo O s k = ((O.take k).filter (isEr s)).length
  | 0, _ => by simp [wearTo]
  | k + 1, hk => by
    have ih := wearTo_count O s k (by omega)
    have e : O.getD k (0, 0, 0) = O[k] := by simp [show k < O.length by omega]
    rw [wearTo_succ, ih, List.take_succ_eq_append_getElem (by omega), List.filter_append, List.length_append, e]
    congr 1
    by_cases h : O[k].1 = 1 ∧ O[k].2.1 = (s : Int)
    · rw [if_pos h, List.filter_cons_of_pos (by unfold isEr; exact decide_eq_true h)]
      rfl
    · rw [if_neg h, List.filter_cons_of_neg (by unfold isEr; simpa using h)]
      rfl
theorem plan_wear (S N T : List Int) (hS : FlashRight S) (hN : (N.length : Int) = sumS S) (hTl : (T.length : Int) = sumS S) (hT : WordsOk T) (s : Nat) (hs : s < S.length) : wearTo (planL S N T) s (planL S N T).length ≤ 1 := by
  have hle := pre_le hS (s + 1) (by omega)
  have hz := preS_zero_le hS s (by omega)
  have hq := preS_mono hS.low (s + 1) (by omega) s (by omega)
  obtain ⟨a, ha⟩ : ∃ a, a = (preS S s).toNat := ⟨_, rfl⟩
  obtain ⟨k, hk, g1, g2, -, hf⟩ := planL_at S N T hS hN hTl hT a (by omega)
  rw [wearTo_count _ _ _ (Nat.le_refl _), List.take_length]
  have e : (planL S N T).filter (isEr s) = ((planL S N T).filter (relO S a)).filter (isEr s) := by
    rw [List.filter_filter]
    apply List.filter_congr
    intro o _
    cases h : isEr s o with
    | false => rfl
    | true =>
      unfold isEr at h
      obtain ⟨h1, h2⟩ := of_decide_eq_true h
      unfold relO
      rw [if_pos h1, h2, Int.toNat_natCast]
      rw [decide_eq_true (by omega)]
      rfl
  rw [e, hf]
  unfold planAt
  dsimp only
  rw [List.filter_append, List.length_append]
  have e2 : ∀ (x : Int) (c : Prop) [Decidable c], (((if c then [] else [((2 : Int), (a : Int), x)]) : List Opn).filter (isEr s)).length = 0 := by
    intro x c _
    split
    · rfl
    · rw [List.filter_cons_of_neg (by unfold isEr; simp)]
      rfl
  rw [e2, Nat.add_zero]
  refine Nat.le_trans (List.length_filter_le _ _) ?_
  split <;> simp
theorem wearL_le (S N T : List Int) (hS : FlashRight S) (hN : (N.length : Int) = sumS S) (hTl : (T.length : Int) = sumS S) (hT : WordsOk T) : ∀ j, j < (wearL S (planL S N T) (planL S N T).length).length → (wearL S (planL S N T) (planL S N T).length).getD j 0 ≤ 1 := by
  intro j hj
  have hjs : j < S.length := by simpa [wearL] using hj
  have h := plan_wear S N T hS hN hTl hT j hjs
  have e : (wearL S (planL S N T) (planL S N T).length).getD j 0 = (wearTo (planL S N T) j (planL S N T).length : Int) := by simp [wearL, hjs]
  rw [e]
  omega
set_option maxRecDepth 100000 in
theorem neGt1_any (x : Int) (hx : x ≤ 1) (w : World) : Calls Tryz.prog 20 #[.int .i64 x] w fun e w' => e = .returned (.bool false) ∧ w = w' := by
  have h1 : decide (x > 1) = false := decide_eq_false (by omega)
  have h2 : ¬ (1 : Int) < x := by omega
  have h3 : decide ((1 : Int) < x) = false := decide_eq_false h2
  go_enter Tryz.func20, Tryz.ntmps20
  go_wp2_with fail
  go_ret
  exact ⟨by first | rfl | rw [h3]; rfl, rfl⟩
set_option maxRecDepth 100000 in
theorem indexGt_any (l : List Int) (hz : l.length ≤ 1000000) (hl : ∀ j, j < l.length → l.getD j 0 ≤ 1) (w : World) (v : Value) (h : NumsAt w v l) :
    Calls Tryz.prog 42 #[v, .func (.func 20) #[] #[]] w fun e w' => e = .returned (.int .i64 (-1)) ∧ Below w.heap.size w w' := by
  obtain ⟨a, c, rfl, -, hop⟩ := h
  obtain ⟨n, hn⟩ : ∃ n, n = l.length := ⟨_, rfl⟩
  rw [← hn] at hop hz hl ⊢
  have HC := Lib.hid (⟨hop, hl⟩ : _ ∧ _)
  clear hop hn hl
  go_enter Tryz.func42, Tryz.ntmps42
  go_wp2_with fail
  go_loopw [8] (fun i wr => ∃ (k : Nat), k ≤ n ∧ i = .int .i64 (k : Int) ∧ Below w.heap.size w wr) (fun i _ => n - (intOf i).toNat)
  case atStart => exact ⟨0, by omega, rfl, Below.refl _ _⟩
  case round =>
    obtain ⟨k, hk, rfl, hB⟩ := hrel
    by_cases hlt : k < n
    · obtain ⟨g, o, rfl, hg, hcell⟩ := HC.out.1 (by omega)
      have hc := (hB.cell (p := ⟨g, o + k, none⟩) hg).trans (hcell k hlt)
      have hq := neGt1_any (l.getD k 0) (HC.out.2 k hlt) wr
      obtain ⟨y, hy⟩ : ∃ y, y = l.getD k 0 := ⟨_, rfl⟩
      rw [← hy] at hc hq
      have k0 : (0 : Int) ≤ (k : Int) := by omega
      have k1 : (k : Int) < (n : Int) := by omega
      have HB := Lib.hid hB
      clear hB hcell hy
      go_wp2_with fail
      refine hq.mono ?_
      rintro e w' ⟨rfl, rfl⟩
      clear hq
      go_wp2_with fail
      go_roundw
      case rel => exact ⟨k + 1, by omega, by go_num, HB.out⟩
      case measure => simp [intOf]; omega
    · obtain rfl : k = n := by omega
      have HB := Lib.hid hB
      clear hB
      go_wp2_with fail
      go_ret
      exact ⟨rfl, HB.out⟩
set_option maxRecDepth 100000 in
theorem contGt_any (l : List Int) (hz : l.length ≤ 1000000) (hl : ∀ j, j < l.length → l.getD j 0 ≤ 1) (w : World) (v : Value) (h : NumsAt w v l) :
    Calls Tryz.prog 19 #[v, .func (.func 20) #[] #[]] w fun e w' => e = .returned (.bool false) ∧ Below w.heap.size w w' := by
  have hq := indexGt_any l hz hl w v h
  obtain ⟨a, c, rfl, -, -⟩ := h
  clear hl
  go_enter Tryz.func19, Tryz.ntmps19
  go_wp2_with fail
  refine hq.mono ?_
  rintro e w' ⟨rfl, hB⟩
  go_wp2_with fail
  go_ret
  exact ⟨rfl, hB⟩
theorem eqInts_diff (L M : List Int) (hz : L.length ≤ 1000000) (hl : L.length = M.length) (h0 : 0 < L.length) (hne : L ≠ M) (w : World) (v u : Value) (h : NumsAt w v L) (h2 : NumsAt w u M) :
    Calls Tryz.prog 13 #[v, u] w fun e w' => e = .returned (.bool false) ∧ Below w.heap.size w w' := by
  obtain ⟨a, c, rfl, -, hop⟩ := h
  obtain ⟨a2, c2, rfl, -, hop2⟩ := h2
  obtain ⟨g, o, rfl, -, hc⟩ := hop (by omega)
  obtain ⟨g2, o2, rfl, -, hc2⟩ := hop2 (by omega)
  rw [← hl]
  refine (Tryz.slices_Equal_int g o L.length c g2 o2 L.length c2 L M w (Nat.le_refl _) (by omega) (by omega) (by omega) hc hc2).mono ?_
  rintro e w' ⟨rfl, q, rfl⟩
  refine ⟨?_, drewN_below _ _⟩
  have e1 : L.take L.length = L := List.take_length
  have e2 : M.take L.length = M := by rw [hl, List.take_length]
  first
    | (rw [show (L == M) = false from by simpa using hne])
    | (rw [e1, e2, show (L == M) = false from by simpa using hne])
end Go.Proofs.YtfoocnhfppjbbaaGreatDoor
