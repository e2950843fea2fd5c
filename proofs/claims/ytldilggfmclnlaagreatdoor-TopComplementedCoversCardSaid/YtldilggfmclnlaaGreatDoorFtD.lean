/- Package fault's All. -/
import Derived.Test.YtldilggfmclnlaaGreatDoorFtC
import Derived.Laws.AppendOwnNone
namespace Go.Proofs.YtldilggfmclnlaaGreatDoor
open Go.RowKit

theorem allKinds_take (n : Nat) (K : List Int) (i : Nat) (hi : i < K.length) : allKinds n (K.take (i + 1)) = allKinds n (K.take i) ++ allTo (K.getD i 0) n n := by
  have e : K.getD i 0 = K[i] := by simp [hi]
  rw [List.take_succ_eq_append_getElem hi, allKinds_snoc, e]

set_option maxHeartbeats 4000000 in
set_option maxRecDepth 100000 in
theorem fAll_ok (n : Nat) (h1 : 1 ≤ n) (h2 : n ≤ 100) (K : List Int) (hz : K.length ≤ 6) (hr : ∀ i, i < K.length → 1 ≤ K.getD i 0 ∧ K.getD i 0 ≤ 6) (hs : ∀ i, i + 1 < K.length → K.getD i 0 < K.getD (i + 1) 0) (hm : (allKinds n K).length ≤ 20000) (w : World) (v : Value) (h : NetsAt w v K) :
    Calls Tryz.prog 7 #[.int .i64 (n : Int), v] w fun e w' => ∃ v', e = .returned (.tuple #[v', .int .i64 0]) ∧ FltOwn w.heap.size w' v' (allKinds n K) ∧ Below w.heap.size w w' := by
  obtain ⟨i0, hi, hz0, hz1, hz2⟩ := info_parts Tryz.infoFlt
  have hn := fcheckNets_any (n : Int) w
  rw [if_neg (by omega)] at hn
  have hck := checkKinds_ok K hz hr hs w v h
  obtain ⟨a, c, rfl, -, hop⟩ := h
  have hlenK := fun i => allKinds_len n h1 (K.take i)
  have hnn : n * n ≤ 100 * 100 := Nat.mul_le_mul h2 h2
  obtain ⟨M, hM⟩ : ∃ M, M = K.length := ⟨_, rfl⟩
  rw [← hM] at hop hz hck ⊢
  have HH := Lib.hid (⟨hop, hM, hm, hlenK⟩ : _ ∧ _ ∧ _ ∧ _)
  clear hop hM hm hr hs hlenK
  go_enter Tryz.func7, Tryz.ntmps7
  go_wp2_with fail
  refine hn.mono ?_
  rintro e w1 ⟨rfl, rfl⟩
  clear hn
  go_wp2_with fail
  refine hck.mono ?_
  rintro e w1 ⟨rfl, hB1⟩
  have HB1 := Lib.hid hB1
  clear hck hB1
  go_wp2_with fail
  go_loopw [8, 23] (fun v i wr => ∃ (k : Nat), k ≤ M ∧ i = .int .i64 (k : Int) ∧ FltOwn w.heap.size wr v (allKinds n (K.take k)) ∧ Below w.heap.size w wr) (fun _ i _ => M - (intOf i).toNat)
  case atStart => exact ⟨0, by omega, rfl, FltOwn.nil _ _, HB1.out⟩
  case round =>
    obtain ⟨k, hk, rfl, hfl, hB⟩ := hrel
    obtain ⟨va, vc, rfl⟩ := hfl.open
    by_cases hlt : k < M
    · obtain ⟨g, o, rfl, hg, hcell⟩ := HH.out.1 (by omega)
      have hc := (hB.cell (p := ⟨g, o + k, none⟩) hg).trans (hcell k hlt)
      have hao := allOf_any (K.getD k 0) n h1 h2 wr
      have htk := allKinds_take n K k (by have := HH.out.2.1; omega)
      have hl1 := HH.out.2.2.2 k
      have hl2 := allTo_len (K.getD k 0) n h1 n
      have htl : (K.take k).length ≤ 6 := by rw [List.length_take]; omega
      have hl3 : (K.take k).length * (n * n) ≤ 6 * 10000 := Nat.mul_le_mul htl (by omega)
      have hl4 : (allKinds n (K.take k)).length ≤ 60000 := by omega
      have hl5 : (allTo (K.getD k 0) n n).length ≤ 10000 := by omega
      obtain ⟨y, hy⟩ : ∃ y, y = K.getD k 0 := ⟨_, rfl⟩
      rw [← hy] at hc hao htk hl5
      have k0 : (0 : Int) ≤ (k : Int) := by omega
      have k1 : (k : Int) < (M : Int) := by omega
      have HF := Lib.hid (⟨hfl, hB, htk⟩ : _ ∧ _ ∧ _)
      clear hfl hB hcell hy htk hl1 hl2 hl3 htl
      go_wp2_with fail
      refine hao.mono ?_
      rintro e w2 ⟨v2, rfl, hf2, hB2⟩
      clear hao hc
      obtain ⟨mals, m1, mr, m3⟩ := hf2
      obtain ⟨vals, q1, qr, q3⟩ := HF.out.1.later hB2
      have hB3 : Below w.heap.size w w2 := HF.out.2.1.trans (hB2.mono HF.out.2.1.size)
      have hbw := hB3.size
      rcases mr.2 with ⟨rfl, hm0⟩ | ⟨g2, cap2, cur2, rfl, hgb, hgc, -⟩
      · have hnil : allTo y n n = [] := List.length_eq_zero_iff.1 hm0
        have hres : FltOwn w.heap.size w2 (.slice va (allKinds n (K.take k)).length vc) (allKinds n (K.take (k + 1))) := by
          rw [HF.out.2.2, hnil, List.append_nil]
          exact ⟨vals, q1, qr, q3⟩
        have H9 := Lib.hid (⟨hres, hB3⟩ : _ ∧ _)
        have HQ := Lib.hid qr
        clear hB2 mr m3 m1 hm0 q3 qr hnil hres hB3
        go_wp2_with (at_builtin; refine wpList_append_own_none rfl _ _ 32 rfl w.heap.size 92 i0 2 Tryz.underlying32 hi _ _ _ rfl HQ.out rfl ?_)
        go_roundw
        case rel => exact ⟨k + 1, by omega, by go_num, H9.out⟩
        case measure => simp [intOf]; omega
      · have hnews := flt_append_news m1 mr m3
        have HJ := Lib.hid (⟨q1, qr, q3, m1, m3, hB3⟩ : _ ∧ _ ∧ _ ∧ _ ∧ _ ∧ _)
        have HN := Lib.hid (⟨hnews.1, hnews.2, fltCells_len _ _ m1⟩ : _ ∧ _ ∧ _)
        clear hB2 mr m3 m1 q3 qr hnews hB3 hgc
        generalize hAl : (allTo y n n).length = al at HN hl5
        go_wp2_with (at_builtin; refine wpList_append_own _ rfl _ _ 32 rfl w.heap.size 92 i0 (.agg #[.int .i64 0, .slice none 0 0]) 2 32 Tryz.underlying32 hi hz0 hz1 hz2 rfl (by decide) _ _ _ rfl HJ.out.2.1 ⟨g2, 0, none⟩ al cap2 (fltCells (allTo y n n) mals) rfl HN.out.2.2 HN.out.1 HN.out.2.1 (by unfold maxLen; omega) (by omega) (by omega) ?_)
        intro v' w4 hown' hg4 _
        subst hAl
        have hjoin := FltOwn.join HJ.out.1 HJ.out.2.1 HJ.out.2.2.1 HJ.out.2.2.2.1 HJ.out.2.2.2.2.1 hown' hg4
        rw [← HF.out.2.2] at hjoin
        obtain ⟨va', vc', rfl⟩ := hjoin.open
        have hB5 : Below w.heap.size w w4 := HJ.out.2.2.2.2.2.grown hg4 hbw (fun j hj => (HJ.out.2.1.lt j hj).1)
        have H9 := Lib.hid (⟨hjoin, hB5⟩ : _ ∧ _)
        clear hown' hg4 hjoin hB5
        go_wp2_with fail
        go_roundw
        case rel => exact ⟨k + 1, by omega, by go_num, H9.out⟩
        case measure => simp [intOf]; omega
    · obtain rfl : k = M := by omega
      rw [HH.out.2.1, List.take_length] at hfl
      have hml := HH.out.2.2.1
      have htk : (allKinds n (K.take k)).length = (allKinds n K).length := by rw [HH.out.2.1, List.take_length]
      rw [htk]
      have hmi : ((allKinds n K).length : Int) ≤ 20000 := by omega
      have H9 := Lib.hid (⟨hfl, hB⟩ : _ ∧ _)
      clear hfl hB htk hml
      go_wp2_with fail
      go_ret2
      exact ⟨_, rfl, H9.out⟩
end Go.Proofs.YtldilggfmclnlaaGreatDoor
