/- The reference's AppliedTo. -/
import Derived.Test.YtdejjplkignaoaaMcS
import Derived.BigRegion
namespace Go.Proofs.Ytdejjplkignaoaa
open Go.RowKit

theorem opsFirst_all (x y : Int) : ∀ (O : List Opn), opsFirst x y O = 0 → ∀ k, k < O.length → opErr x y (O.getD k (0, 0, 0)) = 0
  | [], _, k, hk => by simp at hk
  | o :: O, h, k, hk => by
    have h1 : opsFirst x y (o :: O) = if opErr x y o = 0 then opsFirst x y O else opErr x y o := rfl
    rw [h1] at h
    by_cases h0 : opErr x y o = 0
    · rw [if_pos h0] at h
      cases k with
      | zero => exact h0
      | succ k => exact opsFirst_all x y O h k (by simpa using hk)
    · rw [if_neg h0] at h
      exact absurd h h0
theorem opsErr_ok {S : List Int} {O : List Opn} (h : opsErr S O = 0) : O.length ≤ 50000 ∧ ∀ k, k < O.length → opErr (S.length : Int) (sumS S) (O.getD k (0, 0, 0)) = 0 := by
  unfold opsErr at h
  split at h
  · cases h
  · exact ⟨by omega, opsFirst_all _ _ O h⟩
theorem doOps_take (S W : List Int) (O : List Opn) (k : Nat) (hk : k < O.length) : doOps S W (O.take (k + 1)) = doOp S (doOps S W (O.take k)) (O.getD k (0, 0, 0)) := by
  have e : O.getD k (0, 0, 0) = O[k] := by simp [hk]
  unfold doOps
  rw [List.take_succ_eq_append_getElem hk, List.foldl_append, e]
  rfl
theorem doOps_len (S : List Int) : ∀ (O : List Opn) (W : List Int), (doOps S W O).length = W.length
  | [], _ => rfl
  | o :: O, W => by
    show (doOps S (doOp S W o) O).length = W.length
    rw [doOps_len S O, doOp_len]
theorem doOps_ok (S : List Int) : ∀ (O : List Opn) (W : List Int), WordsOk W → WordsOk (doOps S W O)
  | [], _, h => h
  | o :: O, W, h => doOps_ok S O (doOp S W o) (doOp_ok S W o h)
set_option maxHeartbeats 800000 in
set_option maxRecDepth 100000 in
theorem appliedTo_any (S W : List Int) (O : List Opn) (hS : FlashRight S) (hL : (W.length : Int) = sumS S) (hok : WordsOk W) (hO : opsErr S O = 0) (w : World) (v u t : Value) (h : NumsAt w v S) (hu : NumsAt w u W) (ht : OpsAt w t O) :
    Calls Try.prog 21 #[.agg #[v], u, t] w fun e w' => ∃ x, e = .returned x ∧ WordsAt w.heap.size w' x (doOps S W O) ∧ Below w.heap.size w w' := by
  obtain ⟨hO1, hO2⟩ := opsErr_ok hO
  have hsum := hS.sum
  have hl1 := hS.l1
  have hlow := hS.low 0 hl1
  have hmono := preS_mono hS.low S.length (Nat.le_refl _) 1 (by omega)
  have h1s : preS S 1 = S.getD 0 0 := Int.zero_add _
  rw [show preS S S.length = sumS S from rfl] at hmono
  have her := fun W' hW' k hk (X : World) hB u hu => erased_any S W' hS hW' k hk X v u (h.later hB) hu
  obtain ⟨W1, hW1⟩ : ∃ W1 : World, W1 = w.alloc (.cells #[v] 27) := ⟨_, rfl⟩
  have hB1 : Below w.heap.size w W1 := by rw [hW1]; exact (Below.refl _ _).alloc (Nat.le_refl _) _
  have hc0 : W1.cell? ⟨w.heap.size, 0, none⟩ = some v := by rw [hW1]; simp
  have hlt1 : w.heap.size < W1.heap.size := World.block_lt_of_cell? W1 ⟨w.heap.size, 0, none⟩ hc0
  have hcl := cloneWords_any W (by omega) (by omega) W1 u (hu.later hB1)
  have ht1 := ht.later hB1
  obtain ⟨m, hm⟩ : ∃ m, m = O.length := ⟨_, rfl⟩
  have hst := fun k (hk : k < m) => doOps_take S W O k (by omega)
  have hlen := fun k => doOps_len S (O.take k) W
  have hwok := fun k => doOps_ok S (O.take k) W hok
  have hwm : W.length ≤ 4096 := by omega
  obtain ⟨a, c, rfl, -, -⟩ := h
  obtain ⟨a2, c2, rfl, -, -⟩ := hu
  obtain ⟨a3, c3, rfl, -, hop⟩ := ht1
  rw [← hm] at hO1 hO2 hop
  rw [← hm]
  have HW := Lib.hid hW1
  have HC := Lib.hid (⟨hB1, her, hO2, hst, hlen⟩ : _ ∧ _ ∧ _ ∧ _ ∧ _)
  have HD := Lib.hid (⟨hop, hm, hwok, hL, hwm⟩ : _ ∧ _ ∧ _ ∧ _ ∧ _)
  clear hW1 hB1 her hO2 hst hlen hop hm hwok hL hwm hsum hl1 hlow hmono h1s ht hO hok hS
  go_enter Try.func21, Try.ntmps21
  go_wp2_with fail
  rw [← HW.out]
  refine hcl.mono ?_
  rintro e w2 ⟨x, rfl, hx, hB2⟩
  obtain ⟨g, cx, rfl, -, hgb, -, -⟩ := id hx
  have HX := Lib.hid (⟨hx, hB2⟩ : _ ∧ _)
  clear hcl hB2 hx
  go_wp2_with fail
  go_loopw [7, 14] (fun o i wr => ∃ k : Nat, k ≤ m ∧ i = .int .i64 (k : Int) ∧ WordsAt W1.heap.size wr o (doOps S W (O.take k)) ∧ Below W1.heap.size W1 wr) (fun _ i _ => m - (intOf i).toNat)
  case atStart => exact ⟨0, by omega, rfl, HX.out.1, HX.out.2⟩
  case round =>
    obtain ⟨k, hk, rfl, hwr, hB⟩ := hrel
    clear hgb
    obtain ⟨g, cx, rfl, -, hgb, -, -⟩ := id hwr
    rw [HC.out.2.2.2.2 k] at hwr ⊢
    by_cases hlt : k < m
    · obtain ⟨gs, o, rfl, hgs, hcell⟩ := HD.out.1 (by omega)
      obtain ⟨d1, d2, d3⟩ := hcell k hlt
      have hc1 := (hB.cell (p := ⟨gs, o + k * 3, none⟩) hgs).trans d1
      have hc2 := (hB.cell (p := ⟨gs, o + k * 3 + 1, none⟩) hgs).trans d2
      have hc3 := (hB.cell (p := ⟨gs, o + k * 3 + 2, none⟩) hgs).trans d3
      have hop := HC.out.2.2.1 k hlt
      have hst := HC.out.2.2.2.1 k hlt
      obtain ⟨x, y, z, hy⟩ : ∃ x y z, O.getD k (0, 0, 0) = (x, y, z) := ⟨_, _, _, rfl⟩
      rw [hy] at hc1 hc2 hc3 hop hst
      dsimp only at hc1 hc2 hc3
      have k0 : (0 : Int) ≤ (k : Int) := by omega
      have k1 : (k : Int) < (m : Int) := by omega
      have gr0 : wr.cell? ⟨w.heap.size, 0, none⟩ = some (.slice a S.length c) := (hB.cell (p := ⟨w.heap.size, 0, none⟩) hlt1).trans hc0
      have hgw : w.heap.size < wr.heap.size := Nat.lt_of_lt_of_le hlt1 hB.size
      clear d1 d2 d3 hcell hy
      obtain ⟨WA, hWA⟩ : ∃ WA : World, WA = wr.alloc (.cells #[.int .i64 x, .int .i64 y, .int .i64 z] 57) := ⟨_, rfl⟩
      have hBA : Below wr.heap.size wr WA := by rw [hWA]; exact (Below.refl _ _).alloc (Nat.le_refl _) _
      by_cases hx1 : x = 1
      · subst hx1
        obtain ⟨y0, y1⟩ := opErr_erase hop
        obtain ⟨y, rfl⟩ : ∃ z : Nat, y = (z : Int) := ⟨y.toNat, by omega⟩
        have hq := HC.out.2.1 (doOps S W (O.take k)) (by rw [HC.out.2.2.2.2 k]; exact HD.out.2.2.2.1) y (by omega) WA (HC.out.1.trans ((hB.trans (hBA.mono hB.size)).mono HC.out.1.size)) _ (hwr.later hBA).nums
        rw [doOp_erase, Int.toNat_natCast] at hst
        rw [← hst] at hq
        have hBr := hB.trans (hBA.mono hB.size)
        rw [hWA] at hq hBr
        have HQ := Lib.hid (⟨hBr, hq⟩ : _ ∧ _)
        clear hst hop hwr hBr hq hBA hWA hB
        go_wp2_with fail
        refine HQ.out.2.mono ?_
        rintro e w4 ⟨x4, rfl, hx4, hB4⟩
        have HF := Lib.hid (⟨hx4.mono HQ.out.1.size, HQ.out.1.trans (hB4.mono HQ.out.1.size)⟩ : _ ∧ _)
        clear hx4 hB4
        go_wp2_with fail
        go_roundw
        case rel => exact ⟨k + 1, by omega, by go_num, HF.out.1, HF.out.2⟩
        case measure => simp [intOf]; omega
      · obtain ⟨rfl, y0, y1, z0, z1⟩ := opErr_program hx1 hop
        obtain ⟨y, rfl⟩ : ∃ z : Nat, y = (z : Int) := ⟨y.toNat, by omega⟩
        obtain ⟨z, rfl⟩ : ∃ q : Nat, z = (q : Int) := ⟨z.toNat, by omega⟩
        have hwl : W.length = W.length := rfl
        have hyl : y < W.length := by have := HD.out.2.2.2.1; omega
        obtain ⟨hcn, -, -, hgl, hcells⟩ := hwr.cells
        obtain ⟨hf, hv⟩ := hcells y hyl
        obtain ⟨b1, b2⟩ := HD.out.2.2.1 k y (by rw [HC.out.2.2.2.2 k]; exact hyl)
        rw [doOp_program S _ 2 _ _ (by decide), Int.toNat_natCast, Int.toNat_natCast] at hst
        obtain ⟨q, hq⟩ : ∃ q : Nat, (doOps S W (O.take k)).getD y 0 = (q : Int) := ⟨((doOps S W (O.take k)).getD y 0).toNat, by omega⟩
        rw [hq] at hv b1 b2 hst
        rw [Int.toNat_natCast] at hst
        have hput := (hwr.later hBA).put hcn hyl ((q &&& z : Nat) : Int)
        rw [← hst] at hput
        have hbt := and_nats q z (by omega) (by omega)
        have j0 : (0 : Int) ≤ (y : Int) := by omega
        have j1 : (y : Int) < (W.length : Int) := by omega
        have hne : g ≠ wr.heap.size := by omega
        have hfA := (hBA.frozen (p := ⟨g, y, none⟩) hgl).trans hf
        have hvA := (hBA.cell (p := ⟨g, y, none⟩) hgl).trans hv
        have f0 : WA.cell? ⟨wr.heap.size, 0, none⟩ = some (.int .i64 2) := by rw [hWA]; exact cell_new1 wr _ _ rfl
        have f1 : WA.cell? ⟨wr.heap.size, 1, none⟩ = some (.int .i64 (y : Int)) := by rw [hWA]; exact cell_new1 wr _ _ rfl
        have f2 : WA.cell? ⟨wr.heap.size, 2, none⟩ = some (.int .i64 (z : Int)) := by rw [hWA]; exact cell_new1 wr _ _ rfl
        have hBr := hB.trans (hBA.mono hB.size)
        have HQ := Lib.hid (⟨hBr, hput⟩ : _ ∧ _)
        have HWA := Lib.hid hWA
        have HN := Lib.hid hwl
        clear hst hop hwr hBr hput hBA hWA hB hx1 hcells hq hcn hgl hf hv hwl
        go_wp2_with fail
        rw [← HWA.out]
        go_region
        all_goals
          go_wp2_with fail
          go_roundw
          case rel => exact ⟨k + 1, by omega, by go_num, HQ.out.2.later ((Below.refl _ _).drew), (HQ.out.1.setCell hgb _).drew⟩
          case measure => simp [intOf]; omega
    · obtain rfl : k = m := by omega
      rw [HD.out.2.1, List.take_length] at hwr
      have HR := Lib.hid (⟨hwr, hB⟩ : _ ∧ _)
      clear hwr hB
      go_wp2_with fail
      go_ret
      exact ⟨_, rfl, HR.out.1.mono HC.out.1.size, HC.out.1.trans (HR.out.2.mono HC.out.1.size)⟩
end Go.Proofs.Ytdejjplkignaoaa
