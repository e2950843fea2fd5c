/- Package flash: Apply. Made by gens/mcu.py. -/
import Derived.Test.YtfoocnhfppjbbaaGreatDoorM8
import Derived.Deep.RegionHeld3
namespace Go.Proofs.YtfoocnhfppjbbaaGreatDoor
open Go.RowKit

/-- The first error of two. -/
def twoErr (x y : Int) : Int := if x = 0 then y else x
/-- What Apply answers: the words, or none and an error. -/
def ApplySaid (B : Nat) (S W : List Int) (O : List Opn) (e : Ending) (w' : World) : Prop :=
  (twoErr (cmErr S W) (coErr S O) ≠ 0 ∧ e = .returned (.tuple #[.slice none 0 0, .int .i64 (twoErr (cmErr S W) (coErr S O))])) ∨
  (twoErr (cmErr S W) (coErr S O) = 0 ∧ ∃ x, e = .returned (.tuple #[x, .int .i64 0]) ∧ WordsAt B w' x (doOps S W O))
theorem imErr_ok {S W : List Int} (h : imErr S W = 0) : (W.length : Int) = sumS S ∧ WordsOk W := by
  unfold imErr at h
  split at h
  · cases h
  split at h
  · cases h
  rename_i h1 h2
  refine ⟨by omega, fun j hj => ?_⟩
  have h3 := withinB_iff.1 (by simpa using h2) j hj
  exact h3
theorem cmErr_ok {S W : List Int} (h : cmErr S W = 0) : FlashRight S ∧ (W.length : Int) = sumS S ∧ WordsOk W := by
  unfold cmErr at h
  split at h
  · rename_i h0
    exact ⟨flErr_right h0, imErr_ok h⟩
  · exact absurd h (by assumption)
theorem coErr_ok {S : List Int} {O : List Opn} (h : coErr S O = 0) : opsErr S O = 0 := by
  unfold coErr at h
  split at h
  · exact h
  · exact absurd h (by assumption)
theorem twoErr_ok {x y : Int} (h : twoErr x y = 0) : x = 0 ∧ y = 0 := by
  unfold twoErr at h
  split at h
  · exact ⟨by assumption, h⟩
  · exact absurd h (by assumption)
set_option maxHeartbeats 1000000 in
set_option maxRecDepth 100000 in
theorem apply_any (S W : List Int) (O : List Opn) (hz : S.length ≤ 1000000) (hzW : W.length ≤ 1000000) (hzO : O.length ≤ 1000000) (w : World) (v u t : Value) (h : NumsAt w v S) (hu : NumsAt w u W) (ht : OpsAt w t O) :
    Calls Tryz.prog 11 #[.agg #[v], u, t] w fun e w' => ApplySaid w.heap.size S W O e w' ∧ Below w.heap.size w w' := by
  have hci := fun X hB => checkImage_any S W hz hzW X v u (h.later hB) (hu.later hB)
  have hco := fun X hB => checkOps_any S O hz hzO X v t (h.later hB) (ht.later hB)
  have hmo := fun hS h0 X hB => memoryOf_any S W hS h0 hzW X v u (h.later hB) (hu.later hB)
  have hok := twoErr_ok (x := cmErr S W) (y := coErr S O)
  have hst := fun k hk => doOps_take S W O k hk
  have hlen := fun k => doOps_len S (O.take k) W
  have hwok := fun k => doOps_ok S (O.take k) W
  obtain ⟨m, hm⟩ : ∃ m, m = O.length := ⟨_, rfl⟩
  obtain ⟨n, hn⟩ : ∃ n, n = S.length := ⟨_, rfl⟩
  obtain ⟨W1, hW1⟩ : ∃ W1 : World, W1 = w.alloc (.cells #[v] 27) := ⟨_, rfl⟩
  have hB1 : Below w.heap.size w W1 := by rw [hW1]; exact (Below.refl _ _).alloc (Nat.le_refl _) _
  have hc0 : W1.cell? ⟨w.heap.size, 0, none⟩ = some v := by rw [hW1]; simp
  have hl1 : w.heap.size < W1.heap.size := World.block_lt_of_cell? W1 ⟨w.heap.size, 0, none⟩ hc0
  obtain ⟨a, c, rfl, -, -⟩ := h
  obtain ⟨a2, c2, rfl, -, -⟩ := hu
  obtain ⟨a3, c3, rfl, -, hop⟩ := ht
  unfold ApplySaid
  obtain ⟨E1, hE1⟩ : ∃ E1, E1 = cmErr S W := ⟨_, rfl⟩
  obtain ⟨E2, hE2⟩ : ∃ E2, E2 = coErr S O := ⟨_, rfl⟩
  have hok1 := fun e => cmErr_ok (S := S) (W := W) e
  have hok2 := fun e => coErr_ok (S := S) (O := O) e
  rw [← hE1] at hci hok hok1
  rw [← hE2] at hco hok hok2
  rw [← hE1, ← hE2]
  have hcm := fun b X h0 h1 => cmpOr_any E1 E2 b X h0 h1
  obtain ⟨R, hR⟩ : ∃ R, R = twoErr E1 E2 := ⟨_, rfl⟩
  rw [show (if E1 = 0 then E2 else E1) = R from hR.symm] at hcm
  rw [← hR] at hok ⊢
  rw [← hn] at hci hco hc0 hW1 hmo
  rw [← hm] at hco hst hop
  rw [← hn, ← hm]
  have HW := Lib.hid hW1
  have HP := Lib.hid (⟨hmo, hok, hok1, hok2, hst, hlen, hwok, hop, hn, hm⟩ : _ ∧ _ ∧ _ ∧ _ ∧ _ ∧ _ ∧ _ ∧ _ ∧ _ ∧ _)
  have hBd : Below w.heap.size w W1.drew := hB1.drew
  clear hW1 hB1 hmo hok hok1 hok2 hst hlen hwok hop hn hm hE1 hE2 hR
  go_enter Tryz.func11, Tryz.ntmps11
  go_wp2_with fail
  rw [← HW.out]
  refine wp_region_held_drew (S := (fun W' => W'.cell? ⟨w.heap.size, 0, none⟩ = some (.slice a n c))) (by kernel_rfl) (by first | exact hc0 | exact g1 | exact g2 | (rw [World.cell?_alloc_lt _ _ _ (by assumption)]; exact g2)) (fun hHeld => ?_)
  refine wpAnyH_take (i := 0) (v := ?_) rfl (by kernel_rfl) (by kernel_rfl) (by kernel_rfl) (fun _ _ _ h => h) (Or.inl ⟨by rfl, ?_⟩) (by assumption) ?_
  rotate_left
  focus (intro w hSw; (try dsimp only at hSw); go_simp; first | done | with_reducible rfl)
  go_simp
  refine wpAnyH_take (i := 1) (v := ?_) rfl (by kernel_rfl) (by kernel_rfl) (by kernel_rfl) (fun _ _ _ h => h) (Or.inl ⟨by rfl, ?_⟩) (by assumption) ?_
  rotate_left
  focus (intro w hSw; (try dsimp only at hSw); go_simp; first | done | with_reducible rfl)
  go_simp
  refine wpAnyH_take (i := 3) (v := ?_) rfl (by kernel_rfl) (by kernel_rfl) (by kernel_rfl) (fun _ _ _ h => h) (Or.inl ⟨by rfl, ?_⟩) (by assumption) ?_
  rotate_left
  focus (intro w hSw; (try dsimp only at hSw); go_simp; first | done | with_reducible rfl)
  go_simp
  refine wpAnyH_take (i := 4) (v := ?_) rfl (by kernel_rfl) (by kernel_rfl) (by kernel_rfl) (fun _ _ _ h => h) (Or.inl ⟨by rfl, ?_⟩) (by assumption) ?_
  rotate_left
  focus (intro w hSw; (try dsimp only at hSw); go_simp; first | done | with_reducible rfl)
  go_simp
  refine wpAnyH_ready (rs := [2]) (by kernel_rfl) (by simp) (AllReadyH.cons rfl (fun K hK => ?_) AllReadyH.nil)
  go_simp
  go_at_call 31
  refine (hci _ hBd).mono ?_
  rintro e w2 ⟨rfl, hB2⟩
  have g1 := (hB2.cell (p := ⟨w.heap.size, 0, none⟩) hl1).trans hc0
  have hl2 : w.heap.size < w2.heap.size := Nat.lt_of_lt_of_le hl1 hB2.size
  have hB2' := hBd.trans (hB2.mono hBd.size)
  clear hB2
  refine hK.out _ _ ?_ (fun hHeld => ?_)
  focus (first | exact hc0 | exact g1 | exact g2 | (rw [World.cell?_alloc_lt _ _ _ (by assumption)]; exact g2))
  clear hK K
  go_simp
  refine wpAnyH_ready (rs := [5]) (by kernel_rfl) (by simp) (AllReadyH.cons rfl (fun K hK => ?_) AllReadyH.nil)
  go_simp
  go_at_call 36
  refine (hco _ hB2').mono ?_
  rintro e w3 ⟨rfl, hB3⟩
  have g2 := (hB3.cell (p := ⟨w.heap.size, 0, none⟩) hl2).trans g1
  have hl3 : w.heap.size < w3.heap.size := Nat.lt_of_lt_of_le hl2 hB3.size
  have hB3' := hB2'.trans (hB3.mono hB2'.size)
  clear hB3
  refine hK.out _ _ ?_ (fun hHeld => ?_)
  focus (first | exact hc0 | exact g1 | exact g2 | (rw [World.cell?_alloc_lt _ _ _ (by assumption)]; exact g2))
  clear hK K
  go_simp
  refine wpAnyH_ready (rs := [6]) (by kernel_rfl) (by simp) (AllReadyH.cons rfl (fun K hK => ?_) AllReadyH.nil)
  go_simp
  refine hK.out _ _ ?_ (fun hHeld => ?_)
  focus (first | exact hc0 | exact g1 | exact g2 | (rw [World.cell?_alloc_lt _ _ _ (by assumption)]; exact g2))
  clear hK K
  go_simp
  refine wpAnyH_ready (rs := [7]) (by kernel_rfl) (by simp) (AllReadyH.cons rfl (fun K hK => ?_) AllReadyH.nil)
  go_simp
  go_at_call 30
  refine (hcm _ _ (cell_new1 _ _ _ rfl) (cell_new1 _ _ _ rfl)).mono ?_
  rintro e w5 ⟨rfl, rfl⟩
  refine hK.out _ _ ?_ (fun hHeld => ?_)
  focus (first | exact hc0 | exact g1 | exact g2 | (rw [World.cell?_alloc_lt _ _ _ (by assumption)]; exact g2))
  clear hK K
  go_simp
  refine wpAnyH_take (i := 8) (v := ?_) rfl (by kernel_rfl) (by kernel_rfl) (by kernel_rfl) (fun _ _ _ h => h) (Or.inl ⟨by rfl, ?_⟩) (by assumption) ?_
  rotate_left
  focus (intro w hSw; (try dsimp only at hSw); go_simp; first | done | with_reducible rfl)
  go_simp
  refine wpAnyH_done (by kernel_rfl) ?_ _
  have HE3 := Lib.hid (hB3'.alloc hB3'.size (.cells #[.int .i64 E1, .int .i64 E2] 30))
  have g4 : (w3.alloc (.cells #[.int .i64 E1, .int .i64 E2] 30)).cell? ⟨w.heap.size, 0, none⟩ = some (.slice a n c) := by rw [World.cell?_alloc_lt _ _ _ (by assumption)]; exact g2
  clear hB3' hB2' g1 g2 hBd
  clear hci hco hcm hc0
  obtain ⟨W5, hW5⟩ : ∃ W5, W5 = w3.alloc (.cells #[.int .i64 E1, .int .i64 E2] 30) := ⟨_, rfl⟩
  rw [← hW5] at HE3 g4 ⊢
  clear hW5
  by_cases h0 : R = 0
  · obtain ⟨hmo, hok, hok1, hok2, hst, hlen, hwok, hop, hn, hm⟩ := HP.out
    obtain ⟨z1, z2⟩ := hok h0
    obtain ⟨hS, hL, hWok⟩ := hok1 z1
    obtain ⟨hm5, hO⟩ := opsErr_ok (hok2 z2)
    have hsum := hS.sum
    have hl1' := hS.l1
    have hlow := hS.low 0 hl1'
    have hmono := preS_mono hS.low S.length (Nat.le_refl _) 1 (by omega)
    have h1s : preS S 1 = S.getD 0 0 := Int.zero_add _
    rw [show preS S S.length = sumS S from rfl] at hmono
    have hwm : W.length ≤ 4096 := by omega
    have hq := hmo hS (by omega) W5 HE3.out
    rw [← hm] at hm5 hO
    subst h0
    have HS := Lib.hid (⟨hS, hL, hWok, hO, hst, hlen, fun k => hwok k hWok, hop, hn, hm⟩ : _ ∧ _ ∧ _ ∧ _ ∧ _ ∧ _ ∧ _ ∧ _ ∧ _ ∧ _)
    clear hmo hok hok1 hok2 hst hlen hwok hop hn hm hS hL hWok hO hsum hl1' hlow hmono h1s z1 z2
    go_wp2_with fail
    refine hq.mono ?_
    rintro e w6 ⟨x, y, M, rfl, hM1, hM2, hx, hxa, hxb, hy, hB6⟩
    obtain ⟨ax, cx, rfl, -, -⟩ := id hx
    obtain ⟨g, cy, rfl, -, hMg, hg6, -⟩ := id hy
    rw [← HS.out.2.2.2.2.2.2.2.2.1] at hx hxa hxb ⊢
    obtain ⟨W7, hW7⟩ : ∃ X : World, X = w6.alloc (.cells #[.slice ax n cx, .slice (some ⟨g, 0, none⟩) W.length cy] 74) := ⟨_, rfl⟩
    have hB7 : Below w6.heap.size w6 W7 := by rw [hW7]; exact (Below.refl _ _).alloc (Nat.le_refl _) _
    have e0 : W7.cell? ⟨w6.heap.size, 0, none⟩ = some (.slice ax n cx) := by rw [hW7]; exact cell_new1 w6 _ _ rfl
    have e1 : W7.cell? ⟨w6.heap.size, 1, none⟩ = some (.slice (some ⟨g, 0, none⟩) W.length cy) := by rw [hW7]; exact cell_new1 w6 _ _ rfl
    have hs7 : w6.heap.size < W7.heap.size := World.block_lt_of_cell? W7 ⟨w6.heap.size, 0, none⟩ e0
    have hne : w6.heap.size ≠ g := by omega
    have HX := Lib.hid (⟨hx.later hB7, hxb, hy.later hB7, HE3.out.trans ((hB6.trans (hB7.mono hB6.size)).mono HE3.out.size), Nat.le_trans hM2 hB7.size⟩ : _ ∧ _ ∧ _ ∧ _ ∧ _)
    have HW7 := Lib.hid hW7
    have HM := Lib.hid (Nat.le_trans HE3.out.size hM1)
    clear hq hx hxa hxb hy hB6 hB7 hW7 hM2
    go_wp2_with fail
    rw [← HW7.out]
    go_loopw [28] (fun i wr => ∃ k : Nat, k ≤ m ∧ i = .int .i64 (k : Int) ∧ WordsAt M wr (.slice (some ⟨g, 0, none⟩) W.length cy) (doOps S W (O.take k)) ∧ Keeps g W7 wr ∧ Below w.heap.size w wr) (fun i _ => m - (intOf i).toNat)
    case atStart => exact ⟨0, by omega, rfl, HX.out.2.2.1, Keeps.refl _ _, HX.out.2.2.2.1⟩
    case round =>
      obtain ⟨k, hk, rfl, hwr, hK, hB⟩ := hrel
      have r0 := (hK.cell (p := ⟨w6.heap.size, 0, none⟩) hne hs7).trans e0
      have r1 := (hK.cell (p := ⟨w6.heap.size, 1, none⟩) hne hs7).trans e1
      have hbr : w6.heap.size < wr.heap.size := Nat.lt_of_lt_of_le hs7 hK.1
      clear e0 e1
      by_cases hlt : k < m
      · obtain ⟨gs, o, rfl, hgs, hcell⟩ := HS.out.2.2.2.2.2.2.2.1 (by omega)
        obtain ⟨d1, d2, d3⟩ := hcell k hlt
        have hc1 := (hB.cell (p := ⟨gs, o + k * 3, none⟩) hgs).trans d1
        have hc2 := (hB.cell (p := ⟨gs, o + k * 3 + 1, none⟩) hgs).trans d2
        have hc3 := (hB.cell (p := ⟨gs, o + k * 3 + 2, none⟩) hgs).trans d3
        have hop := HS.out.2.2.2.1 k hlt
        have hst := HS.out.2.2.2.2.1 k hlt
        obtain ⟨x, y, z, hy⟩ : ∃ x y z, O.getD k (0, 0, 0) = (x, y, z) := ⟨_, _, _, rfl⟩
        rw [hy] at hc1 hc2 hc3 hop hst
        dsimp only at hc1 hc2 hc3
        have k0 : (0 : Int) ≤ (k : Int) := by omega
        have k1 : (k : Int) < (m : Int) := by omega
        clear d1 d2 d3 hcell hy
        obtain ⟨WA, hWA⟩ : ∃ WA : World, WA = wr.alloc (.cells #[.int .i64 x, .int .i64 y, .int .i64 z] 51) := ⟨_, rfl⟩
        have hBA : Below wr.heap.size wr WA := by rw [hWA]; exact (Below.refl _ _).alloc (Nat.le_refl _) _
        have hgM : Behind g (.slice ax n cx) := fun a' n' c' hh => Nat.lt_of_lt_of_le (HX.out.2.1 a' n' c' hh) hMg
        have hq := do_any M S (doOps S W (O.take k)) HS.out.1 (by rw [HS.out.2.2.2.2.2.1 k]; exact HS.out.2.1) (HS.out.2.2.2.2.2.2.1 k) x y z hop WA _ _ ((HX.out.1.keeps hgM hK).later hBA) (hwr.later hBA) (Nat.le_trans HX.out.2.2.2.2 (Nat.le_trans hK.1 hBA.size))
        rw [← hst] at hq
        have HQ := Lib.hid (⟨hK.trans (.of_below hBA), hB.trans (hBA.mono hB.size)⟩ : _ ∧ _)
        have HWA := Lib.hid hWA
        clear hop hst hwr hK hB hBA hWA hgM
        go_wp2_with fail
        rw [← HWA.out]
        refine hq.mono ?_
        rintro e w8 ⟨rfl, h8, hB8, hK8⟩
        have HF := Lib.hid (⟨h8, HQ.out.1.trans (hK8 _ _ _ rfl), HQ.out.2.trans (hB8.mono HM.out)⟩ : _ ∧ _ ∧ _)
        clear hq h8 hB8 hK8
        go_wp2_with fail
        go_roundw
        case rel => exact ⟨k + 1, by omega, by go_num, HF.out.1, HF.out.2.1, HF.out.2.2⟩
        case measure => simp [intOf]; omega
      · obtain rfl : k = m := by omega
        rw [HS.out.2.2.2.2.2.2.2.2.2, List.take_length] at hwr
        have HR := Lib.hid (⟨hwr, hB⟩ : _ ∧ _)
        clear hwr hK hB
        go_wp2_with fail
        go_ret2
        exact ⟨⟨_, rfl, HR.out.1.mono HM.out⟩, HR.out.2⟩
  · have n0 : (R != 0) = true := by simpa using h0
    have H0 := Lib.hid h0
    clear h0 HP
    go_wp2_with fail
    go_ret2
    exact ⟨Or.inl ⟨H0.out, rfl⟩, HE3.out⟩
end Go.Proofs.YtfoocnhfppjbbaaGreatDoor
/- Package flash, plain: plans. -/
namespace Go.Proofs.YtfoocnhfppjbbaaGreatDoor
open Go.RowKit

/-- No bit of t is 1 that is 0 in n. -/
def lowB (t n : Int) : Bool := decide (t.toNat &&& n.toNat = t.toNat)
def lowL (N T : List Int) : Bool := (List.range N.length).all fun i => lowB (T.getD i 0) (N.getD i 0)
theorem andnot_key (x y : BitVec 64) : (x &&& ~~~y = 0#64) ↔ (x &&& y = x) := by
  constructor
  · intro h
    apply BitVec.eq_of_getLsbD_eq
    intro i hi
    have h1 := congrArg (fun z : BitVec 64 => z.getLsbD i) h
    simp [hi] at h1 ⊢
    cases hx : x.getLsbD i <;> simp_all
  · intro h
    apply BitVec.eq_of_getLsbD_eq
    intro i hi
    have h1 := congrArg (fun z : BitVec 64 => z.getLsbD i) h
    simp [hi] at h1 ⊢
    cases hx : x.getLsbD i <;> simp_all
theorem andnot_nats (a b : Nat) (ha : a < 4294967296) (hb : b < 4294967296) : (bits .andNot .i64 (a : Int) (b : Int) != 0) = !lowB (a : Int) (b : Int) := by
  have h1 : (BitVec.ofInt 64 (a : Int)).toNat = a := by
    rw [BitVec.ofInt_natCast, BitVec.toNat_ofNat]; exact Nat.mod_eq_of_lt (by omega)
  have h2 : (BitVec.ofInt 64 (b : Int)).toNat = b := by
    rw [BitVec.ofInt_natCast, BitVec.toNat_ofNat]; exact Nat.mod_eq_of_lt (by omega)
  have hk := andnot_key (BitVec.ofInt 64 (a : Int)) (BitVec.ofInt 64 (b : Int))
  have hle : (BitVec.ofInt 64 (a : Int) &&& ~~~BitVec.ofInt 64 (b : Int)).toNat ≤ a := by
    rw [BitVec.toNat_and, h1]; exact Nat.and_le_left
  have e : bits .andNot .i64 (a : Int) (b : Int) = ((BitVec.ofInt 64 (a : Int) &&& ~~~BitVec.ofInt 64 (b : Int)).toNat : Int) := by
    show IntKind.i64.wrap ((BitVec.ofInt 64 (a : Int) &&& ~~~BitVec.ofInt 64 (b : Int)).toNat : Int) = _
    rw [IntKind.wrap_i64]
    generalize (BitVec.ofInt 64 (a : Int) &&& ~~~BitVec.ofInt 64 (b : Int)).toNat = z at hle ⊢
    omega
  rw [e]
  unfold lowB
  rw [Int.toNat_natCast, Int.toNat_natCast]
  by_cases h : a &&& b = a
  · have h3 : BitVec.ofInt 64 (a : Int) &&& BitVec.ofInt 64 (b : Int) = BitVec.ofInt 64 (a : Int) := by
      apply BitVec.eq_of_toNat_eq
      rw [BitVec.toNat_and, h1, h2, h]
    rw [hk.2 h3, decide_eq_true h]
    rfl
  · have h3 : ¬ (BitVec.ofInt 64 (a : Int) &&& ~~~BitVec.ofInt 64 (b : Int)).toNat = 0 := by
      intro h4
      apply h
      have h5 := hk.1 (BitVec.eq_of_toNat_eq (by rw [h4]; rfl))
      have h6 := congrArg BitVec.toNat h5
      rw [BitVec.toNat_and, h1, h2] at h6
      exact h6
    rw [decide_eq_false h]
    simpa using h3
theorem lowL_take (N T : List Int) (k : Nat) (h : ∀ i, i < k → lowB (T.getD i 0) (N.getD i 0) = true) (h2 : lowB (T.getD k 0) (N.getD k 0) = true) : ∀ i, i < k + 1 → lowB (T.getD i 0) (N.getD i 0) = true := by
  intro i hi
  by_cases e : i = k
  · rw [e]; exact h2
  · exact h i (by omega)
theorem lowL_no {N T : List Int} {k : Nat} (hk : k < N.length) (h : lowB (T.getD k 0) (N.getD k 0) = false) : lowL N T = false := by
  cases h2 : lowL N T with
  | false => rfl
  | true =>
    unfold lowL at h2
    rw [List.all_eq_true] at h2
    rw [h2 k (by simpa using hk)] at h
    cases h
theorem lowL_yes {N T : List Int} (h : ∀ i, i < N.length → lowB (T.getD i 0) (N.getD i 0) = true) : lowL N T = true := by
  unfold lowL
  rw [List.all_eq_true]
  intro i hi
  exact h i (by simpa using hi)
/-- A word is planned: its address. -/
def planIn (S T : List Int) (st : List Int × List Opn) (a : Nat) : List Int × List Opn :=
  if st.1.getD a 0 = T.getD a 0 then st else (doOp S st.1 (2, (a : Int), T.getD a 0), st.2 ++ [(2, (a : Int), T.getD a 0)])
def planRun (S T : List Int) (st : List Int × List Opn) (p : Nat) : Nat → List Int × List Opn
  | 0 => st
  | n + 1 => planIn S T (planRun S T st p n) (p + n)
/-- A sector's words. -/
def subL (L : List Int) (p q : Nat) : List Int := (L.drop p).take (q - p)
def planErase (S N T : List Int) (st : List Int × List Opn) (k p q : Nat) : List Int × List Opn :=
  if lowL (subL N p q) (subL T p q) = true then st else (doOp S st.1 (1, (k : Int), 0), st.2 ++ [(1, (k : Int), 0)])
def planTo (S N T : List Int) : Nat → List Int × List Opn
  | 0 => (N, [])
  | k + 1 => planRun S T (planErase S N T (planTo S N T k) k (preS S k).toNat (preS S (k + 1)).toNat) (preS S k).toNat ((preS S (k + 1)).toNat - (preS S k).toNat)
def planL (S N T : List Int) : List Opn := (planTo S N T S.length).2
theorem subL_len {L : List Int} {p q : Nat} (hq : q ≤ L.length) : (subL L p q).length = q - p := by
  unfold subL; simp; omega
theorem subL_at {L : List Int} {p q i : Nat} (hi : i < q - p) : (subL L p q).getD i 0 = L.getD (p + i) 0 := by
  unfold subL
  rw [List.getD_eq_getElem?_getD, List.getElem?_take_of_lt hi, List.getElem?_drop, ← List.getD_eq_getElem?_getD]
theorem planIn_len (S T : List Int) (st : List Int × List Opn) (a : Nat) : (planIn S T st a).1.length = st.1.length ∧ (planIn S T st a).2.length ≤ st.2.length + 1 := by
  unfold planIn
  split
  · exact ⟨rfl, by omega⟩
  · dsimp only
    exact ⟨doOp_len _ _ _, by simp⟩
theorem planRun_len (S T : List Int) (st : List Int × List Opn) (p : Nat) : ∀ n, (planRun S T st p n).1.length = st.1.length ∧ (planRun S T st p n).2.length ≤ st.2.length + n
  | 0 => ⟨rfl, Nat.le_refl _⟩
  | n + 1 => by
    have h := planRun_len S T st p n
    have h2 := planIn_len S T (planRun S T st p n) (p + n)
    exact ⟨h2.1.trans h.1, Nat.le_trans h2.2 (by omega)⟩
theorem planErase_len (S N T : List Int) (st : List Int × List Opn) (k p q : Nat) : (planErase S N T st k p q).1.length = st.1.length ∧ (planErase S N T st k p q).2.length ≤ st.2.length + 1 := by
  unfold planErase
  split
  · exact ⟨rfl, by omega⟩
  · dsimp only
    exact ⟨doOp_len _ _ _, by simp⟩
theorem planIn_ok (S T : List Int) (st : List Int × List Opn) (a : Nat) (h : WordsOk st.1) : WordsOk (planIn S T st a).1 := by
  unfold planIn
  split
  · exact h
  · dsimp only
    exact doOp_ok _ _ _ h
theorem planRun_ok (S T : List Int) (st : List Int × List Opn) (p : Nat) (h : WordsOk st.1) : ∀ n, WordsOk (planRun S T st p n).1
  | 0 => h
  | n + 1 => planIn_ok S T _ _ (planRun_ok S T st p h n)
theorem planErase_ok (S N T : List Int) (st : List Int × List Opn) (k p q : Nat) (h : WordsOk st.1) : WordsOk (planErase S N T st k p q).1 := by
  unfold planErase
  split
  · exact h
  · dsimp only
    exact doOp_ok _ _ _ h
theorem planTo_ok (S N T : List Int) (h : WordsOk N) : ∀ k, WordsOk (planTo S N T k).1
  | 0 => h
  | k + 1 => planRun_ok S T _ _ (planErase_ok S N T _ _ _ _ (planTo_ok S N T h k)) _
theorem planTo_len (S N T : List Int) (hS : FlashRight S) : ∀ k, k ≤ S.length → (planTo S N T k).1.length = N.length ∧ ((planTo S N T k).2.length : Int) ≤ preS S k + (k : Int)
  | 0, _ => by
    refine ⟨rfl, ?_⟩
    show ((0 : Nat) : Int) ≤ 0 + ((0 : Nat) : Int)
    omega
  | k + 1, hk => by
    have h := planTo_len S N T hS k (by omega)
    have h2 := planErase_len S N T (planTo S N T k) k (preS S k).toNat (preS S (k + 1)).toNat
    have h3 := planRun_len S T (planErase S N T (planTo S N T k) k (preS S k).toNat (preS S (k + 1)).toNat) (preS S k).toNat ((preS S (k + 1)).toNat - (preS S k).toNat)
    have hp := preS_mono hS.low k (by omega) 0 (by omega)
    rw [show preS S 0 = 0 from rfl] at hp
    have hq := preS_mono hS.low (k + 1) (by omega) k (by omega)
    refine ⟨h3.1.trans (h2.1.trans h.1), ?_⟩
    have h4 : ((planTo S N T (k + 1)).2.length) ≤ _ := h3.2
    omega
end Go.Proofs.YtfoocnhfppjbbaaGreatDoor
