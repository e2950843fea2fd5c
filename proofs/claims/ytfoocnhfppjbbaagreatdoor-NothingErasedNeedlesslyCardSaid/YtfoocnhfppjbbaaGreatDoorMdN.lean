/- Package flash: Drive. Made by gens/mdn.py. -/
import Derived.Test.YtfoocnhfppjbbaaGreatDoorM18
namespace Go.Proofs.YtfoocnhfppjbbaaGreatDoor
open Go.RowKit

theorem Tryz.infoIntM : (Tryz.prog.info? 3).map (fun i => (i.zero, i.size, i.bytes)) = some (some (.int .i64 0), 1, 8) := by kernel_rfl
/-- What Drive answers: E the number of the error. -/
def DriveSaid (E : Int) (r : List Cyc × List Int × List Int) (e : Ending) (w' : World) : Prop :=
  (E ≠ 0 ∧ e = .returned (.tuple #[.slice none 0 0, .slice none 0 0, .int .i64 E])) ∨
  (E = 0 ∧ ∃ x y, e = .returned (.tuple #[x, y, .int .i64 0]) ∧ NumsAt w' x r.2.1 ∧ NumsAt w' y r.2.2)
theorem DriveSaid.bad {E : Int} {r : List Cyc × List Int × List Int} {w : World} (h : E ≠ 0) : DriveSaid E r (.returned (.tuple #[.slice none 0 0, .slice none 0 0, .int .i64 E])) w := Or.inl ⟨h, rfl⟩
theorem DriveSaid.ok {r : List Cyc × List Int × List Int} {w : World} {x y : Value} (h : NumsAt w x r.2.1) (h2 : NumsAt w y r.2.2) : DriveSaid 0 r (.returned (.tuple #[x, y, .int .i64 0])) w := Or.inr ⟨rfl, x, y, rfl, h, h2⟩
theorem row_form {w : World} {B : Nat} {e : TypeId} {size : Nat} {v : Value} {n : Nat} {xs : List Value} (h : w.ownsRow B e size v n xs) : ∃ a c, v = .slice a n c := by
  rcases h.2 with ⟨hv, h0⟩ | ⟨g, cap, cur, hv, -⟩
  · exact ⟨none, 0, by rw [hv, h0]⟩
  · exact ⟨_, _, hv⟩
set_option maxHeartbeats 1200000 in
set_option maxRecDepth 100000 in
theorem drive_any (S W : List Int) (C : List Cyc) (hz : S.length ≤ 1000000) (hzW : W.length ≤ 1000000) (hzC : C.length ≤ 1000000) (w : World) (v u t : Value) (h : NumsAt w v S) (hu : NumsAt w u W) (ht : CycsAt w t C) :
    Calls Tryz.prog 14 #[.agg #[v], u, t] w fun e w' => DriveSaid (twoErr (cmErr S W) (cycErr C)) (drvTo S W C C.length) e w' ∧ Below w.heap.size w w' := by
  obtain ⟨i0, hi, hz0, hz1, hz2⟩ := info_parts Tryz.infoIntM
  have hund : Tryz.prog.underlying 22 = some (.slice 3) := by kernel_rfl
  have hci := fun X hB => checkImage_any S W hz hzW X v u (h.later hB) (hu.later hB)
  have hcc := fun X hB => checkCycles_any C hzC X t (ht.later hB)
  have hmo := fun hS h0 X hB => memoryOf_any S W hS h0 hzW X v u (h.later hB) (hu.later hB)
  have hok := twoErr_ok (x := cmErr S W) (y := cycErr C)
  have hok1 := fun e => cmErr_ok (S := S) (W := W) e
  have hok2 := fun e => cycErr_ok (C := C) e
  have hdr := fun hW k => drvTo_is S W C hW k
  obtain ⟨W1, hW1⟩ : ∃ W1 : World, W1 = w.alloc (.cells #[v] 27) := ⟨_, rfl⟩
  have hB1 : Below w.heap.size w W1 := by rw [hW1]; exact (Below.refl _ _).alloc (Nat.le_refl _) _
  have hc0 : W1.cell? ⟨w.heap.size, 0, none⟩ = some v := by rw [hW1]; simp
  have hl1 : w.heap.size < W1.heap.size := World.block_lt_of_cell? W1 ⟨w.heap.size, 0, none⟩ hc0
  obtain ⟨a, c, rfl, -, -⟩ := h
  obtain ⟨a2, c2, rfl, -, -⟩ := hu
  obtain ⟨a3, c3, rfl, -, hop⟩ := ht
  obtain ⟨E1, hE1⟩ : ∃ E1, E1 = cmErr S W := ⟨_, rfl⟩
  obtain ⟨E2, hE2⟩ : ∃ E2, E2 = cycErr C := ⟨_, rfl⟩
  rw [← hE1] at hci hok hok1
  rw [← hE2] at hcc hok hok2
  rw [← hE1, ← hE2]
  have hcm := fun b X h0 h1 => cmpOr_any E1 E2 b X h0 h1
  obtain ⟨R, hR⟩ : ∃ R, R = twoErr E1 E2 := ⟨_, rfl⟩
  rw [show (if E1 = 0 then E2 else E1) = R from hR.symm] at hcm
  rw [← hR] at hok ⊢
  obtain ⟨m, hm⟩ : ∃ m, m = C.length := ⟨_, rfl⟩
  obtain ⟨n, hn⟩ : ∃ n, n = S.length := ⟨_, rfl⟩
  obtain ⟨nW, hnW⟩ : ∃ n, n = W.length := ⟨_, rfl⟩
  rw [← hn] at hci hc0 hW1 hmo
  rw [← hm] at hcc hop hzC ⊢
  rw [← hnW] at hci hmo
  rw [← hn, ← hnW]
  have HW := Lib.hid hW1
  have HP := Lib.hid (⟨hmo, hok, hok1, hok2, hdr, hop, hn, hm, hnW⟩ : _ ∧ _ ∧ _ ∧ _ ∧ _ ∧ _ ∧ _ ∧ _ ∧ _)
  have hq := hci W1 hB1
  have HB1 := Lib.hid hB1
  have HCC := Lib.hid hcc
  clear hW1 hmo hok hok1 hok2 hdr hop hn hm hnW hE1 hE2 hR hci hcc hB1
  go_enter Tryz.func14, Tryz.ntmps14
  go_wp2_with fail
  rw [← HW.out]
  refine hq.mono ?_
  rintro e w2 ⟨rfl, hB2⟩
  have g2 := (hB2.cell (p := ⟨w.heap.size, 0, none⟩) hl1).trans hc0
  have hl2 : w.heap.size < w2.heap.size := Nat.lt_of_lt_of_le hl1 hB2.size
  have hB2' := HB1.out.trans (hB2.mono HB1.out.size)
  have hq2 := HCC.out w2 hB2'
  have HB2 := Lib.hid hB2'
  clear hq hB2 hB2' hc0
  go_wp2_with fail
  refine hq2.mono ?_
  rintro e w3 ⟨rfl, hB3⟩
  have g3 := (hB3.cell (p := ⟨w.heap.size, 0, none⟩) hl2).trans g2
  have hl3 : w.heap.size < w3.heap.size := Nat.lt_of_lt_of_le hl2 hB3.size
  have hB3' := HB2.out.trans (hB3.mono HB2.out.size)
  obtain ⟨W5, hW5⟩ : ∃ X : World, X = w3.alloc (.cells #[.int .i64 E1, .int .i64 E2] 30) := ⟨_, rfl⟩
  have hA5 : Below w3.heap.size w3 W5 := by rw [hW5]; exact below_alloc _ _
  have hq3 := hcm w3.heap.size W5 (by rw [hW5]; exact cell_new1 w3 _ _ rfl) (by rw [hW5]; exact cell_new1 w3 _ _ rfl)
  have g5 := (hA5.cell (p := ⟨w.heap.size, 0, none⟩) hl3).trans g3
  have hl5 : w.heap.size < W5.heap.size := Nat.lt_of_lt_of_le hl3 hA5.size
  have HB5 := Lib.hid (hB3'.trans (hA5.mono hB3'.size))
  have HW5 := Lib.hid hW5
  clear hq2 hB3 hB3' g2 hcm hA5 hW5
  go_wp2_with fail
  rw [← HW5.out]
  refine hq3.mono ?_
  rintro e w5 ⟨rfl, rfl⟩
  clear hq3 g3
  by_cases h0 : R = 0
  · obtain ⟨hmo, hok, hok1, hok2, hdr, hop, hn, hm, hnW⟩ := HP.out
    obtain ⟨z1, z2⟩ := hok h0
    obtain ⟨hS, hL, hWok⟩ := hok1 z1
    obtain ⟨hC5, hCok⟩ := hok2 z2
    have hsum := hS.sum
    have hl1' := hS.l1
    have hlow := hS.low 0 hl1'
    have hmono := preS_mono hS.low S.length (Nat.le_refl _) 1 (by omega)
    have h1s : preS S 1 = S.getD 0 0 := Int.zero_add _
    rw [show preS S S.length = sumS S from rfl] at hmono
    have hwm : W.length ≤ 4096 := by omega
    have hqm := hmo hS (by omega) W5 HB5.out
    rw [← hm] at hC5 hCok
    subst h0
    have HS := Lib.hid (⟨hS, hL, hWok, hCok, hdr hWok, hop, hm⟩ : _ ∧ _ ∧ _ ∧ _ ∧ _ ∧ _ ∧ _)
    clear HP hmo hok hok1 hok2 hdr hop hn hm hnW hS hL hWok hCok hsum hl1' hlow hmono h1s z1 z2
    go_wp2_with fail
    refine hqm.mono ?_
    rintro e w6 ⟨x, y, M, rfl, hM1, hM2, hsp, hah, hbe, hwo, hB6⟩
    obtain ⟨gW, cW, rfl, -, hMg, hgl, -⟩ := id hwo
    obtain ⟨W7, hW7⟩ : ∃ X : World, X = w6.alloc (.cells #[x, .slice (some ⟨gW, 0, none⟩) W.length cW] 74) := ⟨_, rfl⟩
    have hA7 : Below w6.heap.size w6 W7 := by rw [hW7]; exact below_alloc _ _
    have hs7 : W7.heap.size = w6.heap.size + 1 := by rw [hW7]; simp
    have e0 : W7.cell? ⟨w6.heap.size, 0, none⟩ = some x := by rw [hW7]; exact cell_new1 w6 _ _ rfl
    have e1 : W7.cell? ⟨w6.heap.size, 1, none⟩ = some (.slice (some ⟨gW, 0, none⟩) W.length cW) := by rw [hW7]; exact cell_new1 w6 _ _ rfl
    have hqd := driver_any M gW W.length cW x S W W7 (hsp.later hA7) hbe (hwo.later hA7)
    have HB7 := Lib.hid (HB5.out.trans ((hB6.trans (hA7.mono hB6.size)).mono HB5.out.size))
    have hM0 : W5.heap.size ≤ M := hM1
    have HW7 := Lib.hid hW7
    obtain ⟨ax, cx, rfl, -, -⟩ := id hsp
    clear hW7 hA7 hqm hsp hwo hah hB6 g5 hM1
    have HS7 := Lib.hid hs7
    clear hs7
    go_wp2_with fail
    rw [← HW7.out]
    refine hqd.mono ?_
    rintro e w8 ⟨rfl, hlay, hdrv, hB8⟩
    have hs7 := HS7.out
    have hw68 : w6.heap.size < W7.heap.size := by omega
    have f1 := (hB8.cell (p := ⟨w6.heap.size, 1, none⟩) hw68).trans e1
    have hqR : w6.heap.size < W7.heap.size + 6 := by omega
    have hqb : w6.heap.size ≠ W7.heap.size + 5 := by omega
    have hqg : w6.heap.size ≠ gW := by omega
    have hR8 := hdrv.mem.sz
    have hwM : w.heap.size ≤ M := by omega
    have HB8 := Lib.hid (HB7.out.trans (hB8.mono HB7.out.size))
    clear hqd hB8 e0 e1 hs7 hw68
    generalize W7.heap.size + 6 = Rr at *
    generalize W7.heap.size + 5 = b at *
    generalize W7.heap.size + 4 = eb at *
    generalize W7.heap.size + 3 = p at *
    generalize W7.heap.size + 2 = ge at *
    generalize W7.heap.size + 1 = gp at *
    have HD := Lib.hid (⟨hlay, hdrv, f1⟩ : _ ∧ _ ∧ _)
    clear hlay hdrv f1
    go_wp2_with fail
    go_loopw [12, 32] (fun o i wr => ∃ k : Nat, k ≤ m ∧ i = .int .i64 (k : Int) ∧ ∃ vb, Drv M Rr gW b p W7.heap.size eb gp ge W.length cW (.slice ax S.length cx) S (drvTo S W C k).1 vb (drvTo S W C k).2.1 wr ∧ wr.ownsRow w8.heap.size 3 1 o (drvTo S W C k).2.2.length ((drvTo S W C k).2.2.map (Value.int .i64)) ∧ (∀ j, o.ownBlock = some j → vb.ownBlock ≠ some j) ∧ w8.heap.size ≤ wr.heap.size ∧ (∀ j, j < Rr → j ≠ gW → j ≠ b → wr.heap[j]? = w8.heap[j]?) ∧ Below M w8 wr) (fun _ i _ => m - (intOf i).toNat)
    case atStart => exact ⟨0, by omega, rfl, .slice none 0 0, HD.out.2.1, World.ownsRow_nil _ _ _ _, fun j hj => by (cases hj), Nat.le_refl _, fun _ _ _ _ => rfl, Below.refl _ _⟩
    case round =>
      obtain ⟨k, hk, rfl, vb, hdv, hown, hdis, hsz, hkr, hBM⟩ := hrel
      by_cases hlt : k < m
      · obtain ⟨g, o, rfl, hg, hcell⟩ := HS.out.2.2.2.2.2.1 (by omega)
        have hBw := HB8.out.trans (hBM.mono hwM)
        obtain ⟨c1, c2⟩ := cyc_cells hBw hg (hcell k hlt)
        have hrn := HS.out.2.2.2.1 k hlt
        have hst : drvTo S W C (k + 1) = ((stepC S (drvTo S W C k).1 (drvTo S W C k).2.1 (C.getD k (0, 0))).1, (stepC S (drvTo S W C k).1 (drvTo S W C k).2.1 (C.getD k (0, 0))).2.1, if (stepC S (drvTo S W C k).1 (drvTo S W C k).2.1 (C.getD k (0, 0))).2.2 = true then (drvTo S W C k).2.2 else (drvTo S W C k).2.2 ++ [(k : Int)]) := rfl
        obtain ⟨hr5, hlW, hWk, hlI⟩ := HS.out.2.2.2.2.1 k
        obtain ⟨s, hs⟩ : ∃ s, s = drvTo S W C k := ⟨_, rfl⟩
        rw [← hs] at hst hdv hown hr5 hlW hWk hlI
        obtain ⟨x, d, hy⟩ : ∃ x d, C.getD k (0, 0) = (x, d) := ⟨_, _, rfl⟩
        rw [hy] at c1 c2 hrn hst
        dsimp only at c1 c2 hrn
        have k0 : (0 : Int) ≤ (k : Int) := by omega
        have k1 : (k : Int) < (m : Int) := by omega
        obtain ⟨WA, hWA⟩ : ∃ X : World, X = wr.alloc (.cells #[.int .i64 x, .int .i64 d] 83) := ⟨_, rfl⟩
        have hBA : Below wr.heap.size wr WA := by rw [hWA]; exact below_alloc _ _
        have hq := driver1_any M Rr gW b p W7.heap.size eb gp ge W.length cW (.slice ax S.length cx) S s.1 vb s.2.1 HS.out.1 (by rw [hlW]; exact HS.out.2.1) hWk HD.out.1 x d hrn.1 hrn.2 hr5 WA (hdv.below HD.out.1 hBA)
        have hownA := own_of hown (fun g _ hl => hBA.block g hl)
        have hvb := hdv.own.lt
        obtain ⟨r, hr⟩ : ∃ r, r = stepC S s.1 s.2.1 (x, d) := ⟨_, rfl⟩
        obtain ⟨qb, hqb⟩ : ∃ q, q = r.2.2 := ⟨_, rfl⟩
        rw [← hr] at hq hst
        rw [← hqb] at hst
        obtain ⟨va, vc, rfl⟩ := row_form hown
        have hlo := hown.lt
        have HR := Lib.hid (⟨hownA, hdis, hkr, hBM, hBA, hst, hvb, hqb⟩ : _ ∧ _ ∧ _ ∧ _ ∧ _ ∧ _ ∧ _ ∧ _)
        have HWA := Lib.hid hWA
        clear hcell hy hdv hown hr5 hlW hWk hWA hBA hownA hvb hr hst hqb hdis hkr hBM hBw hrn hs
        obtain ⟨L, hL⟩ : ∃ L, L = s.2.2.length := ⟨_, rfl⟩
        rw [← hL] at hlI hlo HR ⊢
        have HL := Lib.hid hL
        clear hL
        go_wp2_with fail
        rw [← HWA.out]
        refine hq.mono ?_
        rintro E w9 ⟨hE, vb', hD', ho', hK', hB'⟩
        rw [← HR.out.2.2.2.2.2.2.2] at hE
        subst hE
        have hbg : b < Rr := HD.out.1.lb.2.1
        have hgg : gW < Rr := HD.out.1.lgW.2
        have hWAs : wr.heap.size ≤ WA.heap.size := HR.out.2.2.2.2.1.size
        have own9 := own_of HR.out.1 (fun j hj hl => hK'.2 j hl (by have := hlo j hj; omega) (by have := hlo j hj; omega) (fun hh => HR.out.2.1 j hj hh.symm))
        have dis9 : ∀ j, (Value.slice va L vc).ownBlock = some j → vb'.ownBlock ≠ some j := fun j hj hb' => by
          rcases ho' j hb' with h1 | h1
          · exact HR.out.2.1 j hj h1
          · have := hlo j hj
            omega
        have kr9 : ∀ j, j < Rr → j ≠ gW → j ≠ b → w9.heap[j]? = w8.heap[j]? := fun j h1 h2 h3 => ((hK'.2 j (by omega) h2 h3 (fun hh => by have := (HR.out.2.2.2.2.2.2.1 j hh.symm).1; omega)).trans (HR.out.2.2.2.2.1.block j (by omega))).trans (HR.out.2.2.1 j h1 h2 h3)
        have bm9 : Below M w8 w9 := (HR.out.2.2.2.1.trans (HR.out.2.2.2.2.1.mono (by omega))).trans hB'
        have hs9 := hK'.1
        have sz9 : w8.heap.size ≤ w9.heap.size := by omega
        have hD'2 := hD'.own.lt
        have H9 := Lib.hid (⟨hD', own9, dis9, kr9, bm9⟩ : _ ∧ _ ∧ _ ∧ _ ∧ _)
        have HST := Lib.hid HR.out.2.2.2.2.2.1
        clear hq ho' hK' hB' hD' kr9 bm9 HR
        cases qb with
        | true =>
          clear own9 dis9
          go_wp2_with fail
          go_roundw
          case rel => exact ⟨k + 1, by omega, by go_num, vb', by rw [HST.out]; exact H9.out.1, by rw [HST.out]; show World.ownsRow _ _ _ _ _ s.2.2.length (s.2.2.map (Value.int .i64)); rw [← HL.out]; exact H9.out.2.1, H9.out.2.2.1, sz9, H9.out.2.2.2.1, H9.out.2.2.2.2⟩
          case measure => simp [intOf]; omega
        | false =>
          go_wp2_with (at_builtin; refine wpList_append_lies _ rfl _ _ 22 rfl w8.heap.size 3 i0 (.int .i64 0) 1 8 hund hi hz0 hz1 hz2 rfl (by decide) _ _ _ rfl (World.ownsRow.alloc own9 _) ⟨w9.heap.size, 0, none⟩ 1 1 [.int .i64 (k : Int)] rfl rfl (cell_one_new _ _ _) (by simp [Value.oneCell']) (by decide) (by unfold maxLen; omega) (by omega) (by simp; omega) _ rfl ?_)
          intro g5 cap5 w10 hown5 hg5 hat5 hlt5
          have D10 := (H9.out.1.below HD.out.1 (below_alloc w9 (.cells #[.int .i64 (k : Int)] 3))).grown HD.out.1 hg5 (fun j hj => by have := hlo j hj; omega) (fun j hj => dis9 j hj)
          have hA : Below w9.heap.size w9 (w9.alloc (.cells #[.int .i64 (k : Int)] 3)) := below_alloc _ _
          have dis10 : ∀ j, (Value.slice (some ⟨g5, 0, none⟩) (L + 1) cap5).ownBlock = some j → vb'.ownBlock ≠ some j := fun j hj hb' => by
            have hj2 : g5 = j := by injection hj
            subst hj2
            rcases hat5 with h1 | h1
            · exact dis9 _ h1 hb'
            · have h2 := (hD'2 _ hb').2
              first
              | omega
              | (simp at h1; omega)
          have kr10 : ∀ j, j < Rr → j ≠ gW → j ≠ b → w10.heap[j]? = w8.heap[j]? := fun j h1 h2 h3 => ((hg5.block j (by simp; omega) (fun hh => by have := (hlo j hh.symm).1; omega)).trans (hA.block j (by omega))).trans (H9.out.2.2.2.1 j h1 h2 h3)
          have bm10 : Below M w8 w10 := (H9.out.2.2.2.2.trans (hA.mono (by omega))).grown hg5 (by simp; omega) (fun j hj => by have := (hlo j hj).1; omega)
          have sz10 : w8.heap.size ≤ w10.heap.size := by have h1 := hg5.size; simp at h1; omega
          have own10 : w10.ownsRow w8.heap.size 3 1 (.slice (some ⟨g5, 0, none⟩) (L + 1) cap5) (s.2.2 ++ [(k : Int)]).length ((s.2.2 ++ [(k : Int)]).map (Value.int .i64)) := by
            rw [List.length_append, List.map_append, ← HL.out]
            exact hown5
          have H10 := Lib.hid (⟨D10, own10, dis10, kr10, bm10⟩ : _ ∧ _ ∧ _ ∧ _ ∧ _)
          clear D10 own10 dis10 kr10 bm10 hown5 hg5 hat5 hlt5 hA own9 dis9
          go_wp2_with fail
          go_roundw
          case rel => exact ⟨k + 1, by omega, by go_num, vb', by rw [HST.out]; exact H10.out.1, by rw [HST.out]; exact H10.out.2.1, H10.out.2.2.1, sz10, H10.out.2.2.2.1, H10.out.2.2.2.2⟩
          case measure => simp [intOf]; omega
      · obtain rfl : k = m := by omega
        have q1 := (World.cell?_of_block (a := ⟨w6.heap.size, 1, none⟩) (hkr _ hqR hqg hqb)).trans HD.out.2.2
        have hfin := hdv.mem.wo.nums
        have hfi := nums_of_own hown
        have HF := Lib.hid (⟨hfin, hfi, HB8.out.trans (hBM.mono hwM)⟩ : _ ∧ _ ∧ _)
        obtain ⟨va, vc, rfl⟩ := row_form hown
        clear hdv hown hdis hkr hBM hfin hfi
        go_wp2_with fail
        go_ret3
        exact ⟨DriveSaid.ok HF.out.1 HF.out.2.1, HF.out.2.2⟩
  · have n0 : (R != 0) = true := by simpa using h0
    have H0 := Lib.hid h0
    clear h0 HP
    go_wp2_with fail
    go_ret3
    exact ⟨DriveSaid.bad H0.out, HB5.out⟩
end Go.Proofs.YtfoocnhfppjbbaaGreatDoor
