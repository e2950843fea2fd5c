/- Package fault: what the receivers see: wire. -/
import Derived.Test.YtldilggfmclnlaaGreatDoorFtD
import Derived.Deep.AppendLies
import Derived.Deep.RegionLaw
namespace Go.Proofs.YtldilggfmclnlaaGreatDoor
open Go.RowKit

theorem below_drewE {B : Nat} {w w' : World} (h : Below B w.drew w') : Below B w w' := (Below.refl B w).drew.trans h
theorem Tryz.infoSet : (Tryz.prog.info? 60).map (fun i => (i.zero, i.size, i.bytes)) = some (some (.int .u64 0), 1, 8) := by kernel_rfl
def setV (x : Nat) : Value := .int .u64 (x : Int)
/-- A row of these sets, of the call's own. -/
def SetsOwn (B : Nat) (w : World) (v : Value) (S : List Nat) : Prop := w.ownsRow B 60 1 v S.length (S.map setV)
theorem SetsOwn.open {B : Nat} {w : World} {v : Value} {S : List Nat} (h : SetsOwn B w v S) : ∃ a c, v = .slice a S.length c := by
  obtain ⟨-, ⟨e, h0⟩ | ⟨g, cap, cur, e, -⟩⟩ := h
  · exact ⟨none, 0, by rw [e, h0]⟩
  · exact ⟨_, _, e⟩
theorem sets_snoc {B : Nat} {w : World} {v : Value} {S : List Nat} (x : Nat) (h : w.ownsRow B 60 1 v (S.length + 1) (S.map setV ++ [.int .u64 (x : Int)])) : SetsOwn B w v (S ++ [x]) := by
  unfold SetsOwn
  rw [List.length_append, List.map_append]
  exact h
/-- The slice value reads as these sets. -/
def SetsAt (w : World) (v : Value) (S : List Nat) : Prop :=
  ∃ a c, v = .slice a S.length c ∧ (0 < S.length → ∃ g, a = some ⟨g, 0, none⟩ ∧ g < w.heap.size ∧ ∀ j, j < S.length → w.cell? ⟨g, j, none⟩ = some (.int .u64 (S.getD j 0 : Int)))
theorem SetsOwn.at {B : Nat} {w : World} {v : Value} {S : List Nat} (h : SetsOwn B w v S) : SetsAt w v S := by
  have hr : w.ownsRow B 60 1 v S.length (S.map setV) := h
  obtain ⟨-, ⟨e, h0⟩ | ⟨g, cap, cur, e, hb, hg, hc, -⟩⟩ := h
  · exact ⟨none, 0, by rw [e, h0], fun h => by omega⟩
  · subst e
    refine ⟨_, _, rfl, fun _ => ⟨g, rfl, (Array.getElem?_eq_some_iff.1 hg).1, fun j hj => ?_⟩⟩
    rw [hr.cellAt j (by omega)]
    simp [hj, setV]
theorem SetsAt.later {w w' : World} {v : Value} {S : List Nat} (h : SetsAt w v S) (hB : Below w.heap.size w w') : SetsAt w' v S := by
  obtain ⟨a, c, h1, h3⟩ := h
  refine ⟨a, c, h1, fun h0 => ?_⟩
  obtain ⟨g, h4, h5, h6⟩ := h3 h0
  exact ⟨g, h4, Nat.lt_of_lt_of_le h5 hB.size, fun j hj => (hB.cell (p := ⟨g, j, none⟩) h5).trans (h6 j hj)⟩

/-- A wiring in a variable's block. -/
def WBox (w : World) (b : Nat) (m : Nat) (v : Value) : Prop := w.heap[b]? = some (.cells #[.int .i64 (m : Int), v] 96 (0, 0))
theorem WBox.lt {w : World} {b m : Nat} {v : Value} (h : WBox w b m v) : b < w.heap.size := (Array.getElem?_eq_some_iff.1 h).1
theorem WBox.c0 {w : World} {b m : Nat} {v : Value} (h : WBox w b m v) : w.cell? ⟨b, 0, none⟩ = some (.int .i64 (m : Int)) := by simp [World.cell?, show w.heap[b]? = _ from h]
theorem WBox.c1 {w : World} {b m : Nat} {v : Value} (h : WBox w b m v) : w.cell? ⟨b, 1, none⟩ = some v := by simp [World.cell?, show w.heap[b]? = _ from h]
theorem WBox.f1 {w : World} {b m : Nat} {v : Value} (h : WBox w b m v) : w.frozen? ⟨b, 1, none⟩ = false := by simp [World.frozen?, show w.heap[b]? = _ from h]
theorem WBox.f0 {w : World} {b m : Nat} {v : Value} (h : WBox w b m v) : w.frozen? ⟨b, 0, none⟩ = false := by simp [World.frozen?, show w.heap[b]? = _ from h]
theorem WBox.later {w w' : World} {b m : Nat} {v : Value} (h : WBox w b m v) (hB : Below w.heap.size w w') : WBox w' b m v := (hB.block b h.lt).trans h
theorem WBox.not_row {w : World} {b m : Nat} {u : Value} (h : WBox w b m u) {base size k : Nat} {e : TypeId} {v : Value} {xs : List Value} (hte : e ≠ 96) (hr : w.ownsRow base e size v k xs) : some b ≠ v.ownBlock := by
  rcases hr.2 with ⟨rfl, _⟩ | ⟨g, cap, cur, rfl, _, hgb, _⟩
  · simp [Value.ownBlock]
  · intro e'
    obtain rfl : b = g := by simpa [Value.ownBlock] using e'
    have := (show w.heap[b]? = _ from h).symm.trans hgb
    simp at this
    exact hte this.2.symm
theorem WBox.set {w : World} {b m : Nat} {v : Value} (v' : Value) (h : WBox w b m v) : WBox (w.setCell ⟨b, 1, none⟩ v') b m v' := by
  obtain ⟨hlt, hk⟩ := Array.getElem?_eq_some_iff.1 h
  show (w.heap.modify b _)[b]? = _
  rw [Array.getElem?_eq_getElem (by rw [Array.size_modify]; exact hlt), Array.getElem_modify_self, hk]
  rfl
theorem grownBy_setCell1 (W : World) (b o : Nat) (v : Value) : W.grownBy (W.setCell ⟨b, o, none⟩ v) (some b) :=
  ⟨rfl, rfl, rfl, (KeepsWalks.setCell W _ v).size, fun k _ hk => Below.heap_setCell _ _ _ k (fun e => hk (by rw [e]))⟩

set_option maxHeartbeats 4000000 in
set_option maxRecDepth 100000 in
theorem wire_any (T : List (List UInt8)) (n m : Nat) (hT : TestRight T n m) (B : Nat) (w : World) (v : Value) (h : StrsAt B w v T) :
    Calls Tryz.prog 48 #[v] w fun e w' => ∃ sv, e = .returned (.agg #[.int .i64 (m : Int), sv]) ∧ SetsOwn w.heap.size w' sv (T.map setL) ∧ Below w.heap.size w w' := by
  obtain ⟨i0, hi, hz0, hz1, hz2⟩ := info_parts Tryz.infoSet
  obtain ⟨a, c, rfl, hop⟩ := strs_open h
  have hn1 := hT.n1
  have hn2 := hT.n2
  have hm2 := hT.m2
  rw [hT.len] at hop ⊢
  obtain ⟨g, rfl, hg, hcell⟩ := hop (by omega)
  have hc0 := hcell 0 (by omega)
  have hw0 := word_dec _ _ (rfl : (⟨(T.getD 0 []).toArray⟩ : ByteArray) = ⟨(T.getD 0 []).toArray⟩)
  have hz00 : (⟨(T.getD 0 []).toArray⟩ : ByteArray).size = m := by have := hw0.1; have := hT.long 0 (by omega); omega
  change _ = some (Value.string ⟨(T.getD 0 []).toArray⟩) at hc0
  generalize (⟨(T.getD 0 []).toArray⟩ : ByteArray) = s0 at hc0 hz00
  obtain ⟨W1, hW1⟩ : ∃ W1 : World, W1 = w.alloc (.cells #[.int .i64 0, .slice none 0 0] 96) := ⟨_, rfl⟩
  have hs1 : W1.heap.size = w.heap.size + 1 := by rw [hW1]; simp
  have hbx : WBox W1 w.heap.size 0 (.slice none 0 0) := by rw [hW1]; exact World.alloc_heap_new w _
  have hB1 : Below w.heap.size w W1 := by rw [hW1]; exact (Below.refl _ _).alloc (Nat.le_refl _) _
  have hbx2 : WBox (W1.alloc (.cells #[.int .i64 (m : Int), .slice none 0 0] 96)) (w.heap.size + 1) m (.slice none 0 0) := by rw [← hs1]; exact World.alloc_heap_new W1 _
  have hB2 : Below (w.heap.size + 1) W1 (W1.alloc (.cells #[.int .i64 (m : Int), .slice none 0 0] 96)) := by rw [← hs1]; exact (Below.refl _ _).alloc (Nat.le_refl _) _
  have HW := Lib.hid hW1
  have HH := Lib.hid (⟨hT, hcell, hbx, hB1, hbx2, hB2⟩ : _ ∧ _ ∧ _ ∧ _ ∧ _ ∧ _)
  have z2 : (0 : Int) < (n : Int) := by omega
  clear hT hcell hbx hB1 hbx2 hB2 hW1 h hop hw0
  go_enter Tryz.func48, Tryz.ntmps48
  go_wp2_with fail
  rw [← HW.out]
  go_loopw [13] (fun i wr => ∃ (k : Nat) (v : Value), k ≤ n ∧ i = .int .i64 (k : Int) ∧ WBox wr (w.heap.size + 1) m v ∧ SetsOwn (w.heap.size + 2) wr v ((T.take k).map setL) ∧ w.heap.size + 2 ≤ wr.heap.size ∧ Below (w.heap.size + 1) W1 wr) (fun i _ => n - (intOf i).toNat)
  case atStart => exact ⟨0, _, by omega, rfl, HH.out.2.2.2.2.1, World.ownsRow_nil _ _ _ _, by simp; omega, HH.out.2.2.2.2.2⟩
  case round =>
    obtain ⟨k, v, hk, rfl, hbx, hrow, hsz, hB⟩ := hrel
    have hBw : Below w.heap.size w wr := HH.out.2.2.2.1.trans (hB.mono (Nat.le_succ _))
    by_cases hlt : k < n
    · have hlen := HH.out.1.len
      have hck := (hBw.cell (p := ⟨g, k, none⟩) hg).trans (HH.out.2.1 k hlt)
      have hso := fun W => setsOf_any (T.getD k []) (by have := HH.out.1.long k hlt; have := HH.out.1.m2; omega) (HH.out.1.bits k hlt) W
      have htk : (T.take (k + 1)).map setL = (T.take k).map setL ++ [setL (T.getD k [])] := by
        have e : T.getD k [] = T[k]'(by omega) := by simp [show k < T.length by omega]
        rw [List.take_succ_eq_append_getElem (by omega), List.map_append, List.map_singleton, e]
      have hkl : ((T.take k).map setL).length = k := by rw [List.length_map, List.length_take]; omega
      obtain ⟨va, vc, rfl⟩ := hrow.open
      rw [hkl] at hbx hrow
      obtain ⟨F, hF⟩ : ∃ F, F = (T.take k).map setL := ⟨_, rfl⟩
      rw [← hF] at hrow htk hkl
      obtain ⟨sk, hsk⟩ : ∃ s : ByteArray, s = ⟨(T.getD k []).toArray⟩ := ⟨_, rfl⟩
      obtain ⟨x, hx⟩ : ∃ x, x = setL (T.getD k []) := ⟨_, rfl⟩
      change _ = some (Value.string ⟨(T.getD k []).toArray⟩) at hck
      rw [← hsk] at hck hso
      rw [← hx] at hso htk
      have hrow' : wr.ownsRow (w.heap.size + 2) 60 1 (.slice va k vc) k (F.map setV) := by
        have := hrow
        unfold SetsOwn at this
        rw [hkl] at this
        exact this
      have k0 : (0 : Int) ≤ (k : Int) := by omega
      have k1 : (k : Int) < (n : Int) := by omega
      have c1 := hbx.c1
      have hpb := hbx.lt
      have HV := Lib.hid (⟨hbx, hrow', htk, hB, hkl⟩ : _ ∧ _ ∧ _ ∧ _ ∧ _)
      clear hrow hrow' htk hF hsk hx hB hBw hlen hbx hkl
      go_wp2_with fail
      go_region_law (first | (go_simp; go_at_call 61; refine (hso _).mono ?_; rintro e w2 ⟨rfl, hBd⟩; have hB2 : Below wr.heap.size wr w2 := below_drewE hBd; have hbx2 := HV.out.1.later hB2; have c1' := hbx2.c1; have c1b : ∀ o : Obj, (w2.alloc o).cell? ⟨w.heap.size + 1, 1, none⟩ = some (.slice va k vc) := fun o => (World.cell?_of_block (a := ⟨w.heap.size + 1, 1, none⟩) (Below.heap_alloc w2 o (w.heap.size + 1) hbx2.lt)).trans c1'; have hown2 := row_later HV.out.2.1 hB2) | (refine step_append_lies (P := Tryz.prog) _ rfl (.tmp 18) (.tmp 21) 56 rfl (w.heap.size + 2) 60 i0 (.int .u64 0) 1 8 Tryz.underlying56 hi hz0 hz1 hz2 rfl (by decide) _ _ _ (by simp [Act.eval]) (World.ownsRow.alloc (w := w2) hown2 _) ⟨w2.heap.size, 0, none⟩ 1 1 [.int .u64 (x : Int)] (by simp [Act.eval]) rfl (by exact cell_one_new _ _ _) (by intro u hu; simp at hu; subst hu; rfl) (by decide) (by unfold maxLen; omega) (by omega) (by simp; have := hB2.size; omega) _ rfl ?_; intro g4 cap4 w4 hown4 hg4 hat4 hlt4; have hbx4 : WBox w4 (w.heap.size + 1) m (.slice va k vc) := ((World.grownBy_alloc w2 _ _).trans hg4).block _ hbx2.lt (hbx2.not_row (by decide) hown2) |>.trans hbx2; have c1w4 := hbx4.c1; have f1w4 := hbx4.f1))
      all_goals (
        have hgr := (World.grownBy_alloc w2 (.cells #[.int .u64 (x : Int)] 60) none)
        have hB5 : Below (w.heap.size + 1) W1 w4 := ((HV.out.2.2.2.1.trans (hB2.mono (by omega))).alloc (by have := hB2.size; omega) (.cells #[.int .u64 (x : Int)] 60)).grown hg4 (by simp; have := hB2.size; omega) (fun j hj => by have := (hown2.lt j hj).1; omega)
        have hB6 : Below (w.heap.size + 1) W1 (w4.setCell ⟨w.heap.size + 1, 1, none⟩ (.slice (some ⟨g4, 0, none⟩) (k + 1) cap4)) := hB5.setCell (p := ⟨w.heap.size + 1, 1, none⟩) (by simp) _
        have hS5 : SetsOwn (w.heap.size + 2) (w4.setCell ⟨w.heap.size + 1, 1, none⟩ (.slice (some ⟨g4, 0, none⟩) (k + 1) cap4)) (.slice (some ⟨g4, 0, none⟩) (k + 1) cap4) ((T.take (k + 1)).map setL) := by
          rw [HV.out.2.2.1]
          refine sets_snoc x ?_
          rw [HV.out.2.2.2.2]
          exact World.ownsRow.kept hown4 (grownBy_setCell1 w4 _ _ _) (.inr (hbx4.not_row (by decide) hown4).symm)
        have H9 := Lib.hid (⟨hbx4.set (.slice (some ⟨g4, 0, none⟩) (k + 1) cap4), hS5, by have h1 := hg4.size; have h2 := hB2.size; simp at h1 ⊢; omega, hB6⟩ : WBox _ _ _ _ ∧ _ ∧ w.heap.size + 2 ≤ (w4.setCell ⟨w.heap.size + 1, 1, none⟩ (.slice (some ⟨g4, 0, none⟩) (k + 1) cap4)).heap.size ∧ _)
        clear hgr hB5 hB6 hS5 hBd hB2 hbx2 c1' c1b hown2 hown4 hg4 hat4 hlt4 hbx4 c1w4 f1w4 hck c1 hso
        go_simp
        go_wp2_with fail
        go_roundw
        case rel => exact ⟨k + 1, _, by omega, by go_num, H9.out⟩
        case measure => simp [intOf]; omega)
    · obtain rfl : k = n := by omega
      have htk : (T.take k).map setL = T.map setL := by rw [← HH.out.1.len, List.take_length]
      rw [htk] at hrow
      obtain ⟨va, vc, rfl⟩ := hrow.open
      have hrb := (hB.block w.heap.size (Nat.lt_succ_self _)).trans HH.out.2.2.1
      have hrb' : WBox wr w.heap.size 0 (.slice none 0 0) := hrb
      have p0 := hrb'.c0
      have p1 := hrb'.c1
      have q0 := hrb'.f0
      have q1 := hrb'.f1
      have c0' := hbx.c0
      have c1' := hbx.c1
      have hl1 := hrb'.lt
      have hS : SetsOwn w.heap.size ((wr.setCell ⟨w.heap.size, 0, none⟩ (.int .i64 (m : Int))).setCell ⟨w.heap.size, 1, none⟩ (.slice va (T.map setL).length vc)) (.slice va (T.map setL).length vc) (T.map setL) := by
        have h1 := World.ownsRow.kept hrow (grownBy_setCell1 wr w.heap.size 0 (.int .i64 (m : Int))) (.inr (by
          have := hrb'.not_row (by decide) hrow
          exact fun e => this e.symm))
        refine row_base (World.ownsRow.kept h1 (grownBy_setCell1 _ w.heap.size 1 _) (.inr (by
          have := hrb'.not_row (by decide) hrow
          exact fun e => this e.symm))) (by omega)
      have hBf : Below w.heap.size w ((wr.setCell ⟨w.heap.size, 0, none⟩ (.int .i64 (m : Int))).setCell ⟨w.heap.size, 1, none⟩ (.slice va (T.map setL).length vc)) := (hBw.setCell (p := ⟨w.heap.size, 0, none⟩) (by simp) _).setCell (p := ⟨w.heap.size, 1, none⟩) (by simp) _
      have H9 := Lib.hid (⟨hS, hBf⟩ : _ ∧ _)
      clear hrow hbx hB hBw hrb hrb' hS hBf htk
      generalize (T.map setL).length = tl at H9 c1' ⊢
      go_wp2_with fail
      refine bodyPost_ret (v := .agg #[.int .i64 (m : Int), .slice va tl vc]) ?_ rfl ⟨_, rfl, H9.out⟩
      simp [results, Tryz.f48, go_sem, p0, p1]
end Go.Proofs.YtldilggfmclnlaaGreatDoor
