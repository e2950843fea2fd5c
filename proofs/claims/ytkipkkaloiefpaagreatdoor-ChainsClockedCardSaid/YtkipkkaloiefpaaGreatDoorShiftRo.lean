/- The reference's Shift, where nothing is wrong. -/
import Derived.Test.YtkipkkaloiefpaaGreatDoorM14
namespace Go.Proofs.YtkipkkaloiefpaaGreatDoor
open Go.RowKit Go.Maps

section
variable {q : Tw} {B x N : Nat} {w : World} {s1 s2 : Nat} {p1 p2 : Nat → PS}

set_option maxHeartbeats 4000000 in
set_option maxRecDepth 100000 in
theorem refShift_ok0 (h : Two q B x N w s1 0 p1 p2) (s : Nat) (hs : s = 4 ∨ s = 11) (b : ByteArray) (hz : b.size ≤ 60) (he : shiftErr 0 b = 0) (hN : N < 500000) :
    Calls Tryz.prog 44 #[.pointer (some ⟨q.rb, 0, none⟩), .int .i64 (s : Int), .string b] w fun e w' => e = .returned (.tuple #[.string (bs (shiftOut q.r.dev q.r.n (0, p2) s b.data.toList)), .int .i64 0]) ∧ Two q B x (N + 3000) w' s1 (shifted q.r.dev (0, p2) s b.data.toList).1 p1 (shifted q.r.dev (0, p2) s b.data.toList).2 ∧ Below B w w' := by
  have hs1 : 0 = 0 ∨ 0 = 1 := by decide
  obtain ⟨-, hbz, hce, -, hball⟩ := shiftErr_ok he
  have hcon := fun W => tmsFault_any b W (by omega)
  rw [hce] at hcon
  have hb1 := not_empty_of_size (s := b) (by omega)
  have hb3 : (b.toList == []) = false := by
    cases hl : b.toList with
    | nil => rw [hl] at hb1; cases hb1
    | cons c l => rfl
  have hBs := h.lt.2.2.2.2.2.2.2.2.1
  obtain ⟨hpb, hpl⟩ := path_bits 0 s hs1 hs
  have hfr := toShift_state q.r.dev (0, p2) s hs1 hs
  have hpath : ∀ W, Calls Tryz.prog 83 #[.int .i64 0, .int .i64 (s : Int)] W fun e w' => e = .returned (.string (bs (pathOf 0 s))) ∧ Below W.heap.size W w' := fun W => pathOf_any 0 s W (by omega) (by omega)
  have hplz : (bs (pathOf 0 s)).size ≤ 16 := by rw [bs_size]; omega
  have hpll : (bs (pathOf 0 s)).data.toList = pathOf 0 s := bs_list _
  have hpba : (bs (pathOf 0 s)).data.toList.all bitB = true := by rw [hpll]; exact hpb
  obtain ⟨x0, hx0⟩ : ∃ x0, x0 = toShift q.r.dev (0, p2) s := ⟨_, rfl⟩
  have hx01 : x0.1 = s := by rw [hx0]; exact hfr
  have hx04 : x0.1 = 4 ∨ x0.1 = 11 := by rw [hx01]; exact hs
  have hfolx : fol q.r.dev (0, p2) (pathOf 0 s) = x0 := hx0.symm
  have hblen : b.data.toList.length = b.size := by simp
  have hshd : shifted q.r.dev (0, p2) s b.data.toList = fol q.r.dev (shTo q.r.dev x0 b.data.toList b.size) [49, 48] := by unfold shifted; rw [hx0, hblen]
  have hsho : bs (shiftOut q.r.dev q.r.n (0, p2) s b.data.toList) = shText q x0 b.data.toList b.size := by
    unfold shiftOut shText
    rw [hx0, hblen]
  rw [hshd, hsho]
  have h' := h
  obtain ⟨o, hB, ho, hx, hC, hR, hg, hT, hTB⟩ := h'
  have c1 : w.cell? ⟨q.rb, 1, none⟩ = some (.int .i64 0) := hR.c1
  have hrb := hR.lt.1
  have hlater : ∀ W, Below w.heap.size w W → W.cell? ⟨q.rb, 1, none⟩ = some (.int .i64 0) := fun W hW => (hW.cell (p := ⟨q.rb, 1, none⟩) hrb).trans c1
  have HL := Lib.hid hlater
  have HH := Lib.hid h
  have HP := Lib.hid (⟨hpll, hpba, hfolx, hball, hx04, hblen⟩ : _ ∧ _ ∧ _ ∧ _ ∧ _ ∧ _)
  have HQ := Lib.hid hpath
  clear h hB ho hx hC hR hg hT hTB hlater hfr hx01 hx0 hshd hsho he hce hfolx hpba hpb hpl hball hpll hx04 hpath hblen hs1
  generalize bs (pathOf 0 s) = pa at hplz HP HQ
  have hb0 : 0 < b.size := by omega
  clear hbz
  go_enter Tryz.func44, Tryz.ntmps44
  go_wp2_with fail
  refine (hcon _).mono ?_
  rintro e w2 ⟨rfl, hB2⟩
  have c1' := HL.out w2 hB2
  have hp := HQ.out w2
  have HB2 := Lib.hid hB2
  clear c1 hcon hB2
  go_wp2_with fail
  refine hp.mono ?_
  rintro e w3 ⟨rfl, hB3⟩
  clear hp c1'
  have HT3 := Lib.hid (⟨HH.out.later (HB2.out.trans (hB3.mono HB2.out.size)), HB2.out.trans (hB3.mono HB2.out.size)⟩ : _ ∧ _)
  clear hB3
  obtain ⟨cap, C, hconv, hC⟩ := bytes_conv pa w3
  have HC := Lib.hid hC
  clear hC
  go_wp2_with fail
  have hI0 : FolR q B x N w s1 0 p1 p2 pa w3.heap.size 0 (w3.alloc (.cells C 5 (C.size, C.size + 1))).drew := by
    obtain ⟨hT3, hB3⟩ := HT3.out
    obtain ⟨l1, l2, l3, l4, l5, l6, l7, l8, l9, l10⟩ := hT3.lt
    have hBa : Below w3.heap.size w3 (w3.alloc (.cells C 5 (C.size, C.size + 1))).drew := ((Below.refl _ _).alloc (Nat.le_refl _) _).drew
    refine ⟨hT3.later hBa, (hB3.mono hBs).trans (hBa.mono l9), ?_⟩
    refine ⟨by show w3.heap.size < (w3.alloc _).heap.size; simp, by omega, by omega, by omega, by omega, fun k hk => ?_⟩
    exact cell_bytes w3 C 5 (C.size, C.size + 1) (HC.out k hk)
  have HI0 := Lib.hid hI0
  have hs3 := HT3.out.2.size
  obtain ⟨y, hy⟩ : ∃ y, y = w3.heap.size := ⟨_, rfl⟩
  rw [← hy] at HI0 ⊢
  generalize (w3.alloc (.cells C 5 (C.size, C.size + 1))).drew = W0 at HI0 ⊢
  clear hconv hI0 hy
  go_loopw [9, 43] (fun _ i wr => ∃ k : Nat, k ≤ pa.size ∧ i = .int .i64 (k : Int) ∧ FolR q B x N w s1 0 p1 p2 pa y k wr) (fun _ i _ => pa.size - (intOf i).toNat)
  case atStart => exact ⟨0, by omega, rfl, HI0.out⟩
  case round =>
    clear HI0
    obtain ⟨k, hk, rfl, hI⟩ := hrel
    by_cases hlt : k < pa.size
    · have hstep := hI.step hlt HP.out.2.1 (by omega)
      have hcell := hI.2.2.2.2.2.2.2 k hlt
      clear hI
      go_wp2_with fail
      refine hstep.mono ?_
      rintro e w' ⟨⟨z, rfl⟩, hI⟩
      have HI := Lib.hid hI
      clear hI hstep
      go_wp2_with fail
      go_roundw
      case rel => exact ⟨k + 1, by omega, by go_num, HI.out⟩
      case measure => simp [intOf]; omega
    · obtain rfl : k = pa.size := by omega
      obtain ⟨hT4, hB4, -⟩ := hI
      have e1 : pa.data.toList.take pa.size = pa.data.toList := List.take_of_length_le (by simp)
      rw [e1, HP.out.1, HP.out.2.2.1] at hT4
      have HT4 := Lib.hid (⟨hT4.more (N' := N + 500) (by omega), hB4⟩ : _ ∧ _)
      clear hT4 hB4 e1 HT3 HC
      obtain ⟨cap2, C2, hconv2, hC2⟩ := bytes_conv b wr
      have HC2 := Lib.hid hC2
      clear hC2
      go_wp2_with fail
      have hI0 : ShR q B x (N + 500) w s1 p1 x0 b wr.heap.size 0 (wr.alloc (.cells C2 5 (C2.size, C2.size + 1))).drew := by
        obtain ⟨hT3, hB3⟩ := HT4.out
        obtain ⟨l1, l2, l3, l4, l5, l6, l7, l8, l9, l10⟩ := hT3.lt
        have hBa : Below wr.heap.size wr (wr.alloc (.cells C2 5 (C2.size, C2.size + 1))).drew := ((Below.refl _ _).alloc (Nat.le_refl _) _).drew
        refine ⟨hT3.later hBa, hB3.trans (hBa.mono l9), ?_⟩
        refine ⟨by show wr.heap.size < (wr.alloc _).heap.size; simp, by omega, by omega, by omega, by omega, fun k hk => ?_⟩
        exact cell_bytes wr C2 5 (C2.size, C2.size + 1) (HC2.out k hk)
      have HI0 := Lib.hid hI0
      obtain ⟨y2, hy2⟩ : ∃ y, y = wr.heap.size := ⟨_, rfl⟩
      rw [← hy2] at HI0 ⊢
      generalize (wr.alloc (.cells C2 5 (C2.size, C2.size + 1))).drew = W2 at HI0 ⊢
      have HX := Lib.hid (⟨HP.out.2.2.2.1, HP.out.2.2.2.2.1, HP.out.2.2.2.2.2⟩ : _ ∧ _ ∧ _)
      clear hconv2 hI0 hy2 HT4 HC2 HP
      go_loopw [10, 11, 12, 56] (fun ov _ _ i wr => ∃ k : Nat, k ≤ b.size ∧ i = .int .i64 (k : Int) ∧ ov = .string (shText q x0 b.data.toList k) ∧ ShR q B x (N + 500) w s1 p1 x0 b y2 k wr) (fun _ _ _ i _ => b.size - (intOf i).toNat)
      case atStart => exact ⟨0, by omega, rfl, rfl, HI0.out⟩
      case round =>
        clear HI0
        obtain ⟨k, hk, rfl, rfl, hI⟩ := hrel
        by_cases hlt : k < b.size
        · have hcell := hI.2.2.2.2.2.2.2 k hlt
          have hbit := hI.bit hlt HX.out.1
          have hitoa := fun W => itoa_bit _ hbit W
          have hn := shText_succ q x0 b.data.toList k
          have hsz := shText_size q x0 b.data.toList k
          generalize shText q x0 b.data.toList k = o1 at hn hsz ⊢
          have hsz2 : o1.size ≤ 60 := by omega
          obtain ⟨z, hz1, hz2⟩ : ∃ z : Int, z = (if k + 1 = b.size then 1 else 0) ∧ ((k : Int) == (b.size : Int) - 1) = decide (z = 1) := by
            by_cases e : k + 1 = b.size
            · exact ⟨1, by rw [if_pos e], by simp; omega⟩
            · exact ⟨0, by rw [if_neg e], by simp; omega⟩
          have hz01 : z = 0 ∨ z = 1 := by
            rw [hz1]
            split
            · exact .inr rfl
            · exact .inl rfl
          have hstep := hI.step hlt HX.out.2.1 HX.out.1 (by omega) z hz1
          generalize shOut q.r.dev q.r.n x0 b.data.toList k = cc at hstep hn hitoa hbit
          have hcs : (bs [cc]).size = 1 := rfl
          have hcat : ¬ 9223372036854775807 < o1.size + (bs [cc]).size := by rw [hcs]; omega
          have HN := Lib.hid hn
          clear hI hbit hn hz1 hsz
          generalize bs [cc] = cs at hitoa HN hcs hcat
          rcases hz01 with rfl | rfl
          · have hq : ((k : Int) == (b.size : Int) - 1) = false := hz2
            have htr := fun W => truth_any false W
            clear hz2
            go_wp2_with fail
            refine (htr _).mono ?_
            rintro e w1 ⟨rfl, rfl⟩
            clear htr hq
            go_wp2_with fail
            refine hstep.mono ?_
            rintro e w2 ⟨rfl, hM⟩
            have HM := Lib.hid hM
            clear hM hstep
            go_wp2_with fail
            refine (hitoa _).mono ?_
            rintro e w3 ⟨rfl, rfl⟩
            clear hitoa
            go_wp2_with fail
            go_roundw
            case rel => exact ⟨k + 1, by omega, by go_num, by rw [HN.out], HM.out⟩
            case measure => simp [intOf]; omega
          · have hq : ((k : Int) == (b.size : Int) - 1) = true := hz2
            have htr := fun W => truth_any true W
            clear hz2
            go_wp2_with fail
            refine (htr _).mono ?_
            rintro e w1 ⟨rfl, rfl⟩
            clear htr hq
            go_wp2_with fail
            refine hstep.mono ?_
            rintro e w2 ⟨rfl, hM⟩
            have HM := Lib.hid hM
            clear hM hstep
            go_wp2_with fail
            refine (hitoa _).mono ?_
            rintro e w3 ⟨rfl, rfl⟩
            clear hitoa
            go_wp2_with fail
            go_roundw
            case rel => exact ⟨k + 1, by omega, by go_num, by rw [HN.out], HM.out⟩
            case measure => simp [intOf]; omega
        · obtain rfl : k = b.size := by omega
          obtain ⟨hT5, hB5, -⟩ := hI
          have hc1 : Calls Tryz.prog 12 #[.pointer (some ⟨q.rb, 0, none⟩), .int .i64 1, .int .i64 0] wr _ := two_refClock hT5 49 48 rfl rfl (by omega)
          have HB5 := Lib.hid hB5
          clear hT5 hB5
          go_wp2_with fail
          refine hc1.mono ?_
          rintro e w6 ⟨rfl, hT6, hB6, -⟩
          have hc2 : Calls Tryz.prog 12 #[.pointer (some ⟨q.rb, 0, none⟩), .int .i64 0, .int .i64 0] w6 _ := two_refClock hT6 48 48 rfl rfl (by omega)
          have HB6 := Lib.hid (HB5.out.trans hB6)
          clear hc1 hT6 hB6
          go_wp2_with fail
          refine hc2.mono ?_
          rintro e w7 ⟨rfl, hT7, hB7, -⟩
          have HF := Lib.hid (⟨hT7.more (N' := N + 3000) (by omega), HB6.out.trans hB7⟩ : _ ∧ _)
          clear hc2 hT7 hB7
          go_wp2_with fail
          go_ret2
          exact ⟨rfl, HF.out⟩

set_option maxHeartbeats 4000000 in
set_option maxRecDepth 100000 in
theorem refShift_ok1 (h : Two q B x N w s1 1 p1 p2) (s : Nat) (hs : s = 4 ∨ s = 11) (b : ByteArray) (hz : b.size ≤ 60) (he : shiftErr 1 b = 0) (hN : N < 500000) :
    Calls Tryz.prog 44 #[.pointer (some ⟨q.rb, 0, none⟩), .int .i64 (s : Int), .string b] w fun e w' => e = .returned (.tuple #[.string (bs (shiftOut q.r.dev q.r.n (1, p2) s b.data.toList)), .int .i64 0]) ∧ Two q B x (N + 3000) w' s1 (shifted q.r.dev (1, p2) s b.data.toList).1 p1 (shifted q.r.dev (1, p2) s b.data.toList).2 ∧ Below B w w' := by
  have hs1 : 1 = 0 ∨ 1 = 1 := by decide
  obtain ⟨-, hbz, hce, -, hball⟩ := shiftErr_ok he
  have hcon := fun W => tmsFault_any b W (by omega)
  rw [hce] at hcon
  have hb1 := not_empty_of_size (s := b) (by omega)
  have hb3 : (b.toList == []) = false := by
    cases hl : b.toList with
    | nil => rw [hl] at hb1; cases hb1
    | cons c l => rfl
  have hBs := h.lt.2.2.2.2.2.2.2.2.1
  obtain ⟨hpb, hpl⟩ := path_bits 1 s hs1 hs
  have hfr := toShift_state q.r.dev (1, p2) s hs1 hs
  have hpath : ∀ W, Calls Tryz.prog 83 #[.int .i64 1, .int .i64 (s : Int)] W fun e w' => e = .returned (.string (bs (pathOf 1 s))) ∧ Below W.heap.size W w' := fun W => pathOf_any 1 s W (by omega) (by omega)
  have hplz : (bs (pathOf 1 s)).size ≤ 16 := by rw [bs_size]; omega
  have hpll : (bs (pathOf 1 s)).data.toList = pathOf 1 s := bs_list _
  have hpba : (bs (pathOf 1 s)).data.toList.all bitB = true := by rw [hpll]; exact hpb
  obtain ⟨x0, hx0⟩ : ∃ x0, x0 = toShift q.r.dev (1, p2) s := ⟨_, rfl⟩
  have hx01 : x0.1 = s := by rw [hx0]; exact hfr
  have hx04 : x0.1 = 4 ∨ x0.1 = 11 := by rw [hx01]; exact hs
  have hfolx : fol q.r.dev (1, p2) (pathOf 1 s) = x0 := hx0.symm
  have hblen : b.data.toList.length = b.size := by simp
  have hshd : shifted q.r.dev (1, p2) s b.data.toList = fol q.r.dev (shTo q.r.dev x0 b.data.toList b.size) [49, 48] := by unfold shifted; rw [hx0, hblen]
  have hsho : bs (shiftOut q.r.dev q.r.n (1, p2) s b.data.toList) = shText q x0 b.data.toList b.size := by
    unfold shiftOut shText
    rw [hx0, hblen]
  rw [hshd, hsho]
  have h' := h
  obtain ⟨o, hB, ho, hx, hC, hR, hg, hT, hTB⟩ := h'
  have c1 : w.cell? ⟨q.rb, 1, none⟩ = some (.int .i64 1) := hR.c1
  have hrb := hR.lt.1
  have hlater : ∀ W, Below w.heap.size w W → W.cell? ⟨q.rb, 1, none⟩ = some (.int .i64 1) := fun W hW => (hW.cell (p := ⟨q.rb, 1, none⟩) hrb).trans c1
  have HL := Lib.hid hlater
  have HH := Lib.hid h
  have HP := Lib.hid (⟨hpll, hpba, hfolx, hball, hx04, hblen⟩ : _ ∧ _ ∧ _ ∧ _ ∧ _ ∧ _)
  have HQ := Lib.hid hpath
  clear h hB ho hx hC hR hg hT hTB hlater hfr hx01 hx0 hshd hsho he hce hfolx hpba hpb hpl hball hpll hx04 hpath hblen hs1
  generalize bs (pathOf 1 s) = pa at hplz HP HQ
  have hb0 : 0 < b.size := by omega
  clear hbz
  go_enter Tryz.func44, Tryz.ntmps44
  go_wp2_with fail
  refine (hcon _).mono ?_
  rintro e w2 ⟨rfl, hB2⟩
  have c1' := HL.out w2 hB2
  have hp := HQ.out w2
  have HB2 := Lib.hid hB2
  clear c1 hcon hB2
  go_wp2_with fail
  refine hp.mono ?_
  rintro e w3 ⟨rfl, hB3⟩
  clear hp c1'
  have HT3 := Lib.hid (⟨HH.out.later (HB2.out.trans (hB3.mono HB2.out.size)), HB2.out.trans (hB3.mono HB2.out.size)⟩ : _ ∧ _)
  clear hB3
  obtain ⟨cap, C, hconv, hC⟩ := bytes_conv pa w3
  have HC := Lib.hid hC
  clear hC
  go_wp2_with fail
  have hI0 : FolR q B x N w s1 1 p1 p2 pa w3.heap.size 0 (w3.alloc (.cells C 5 (C.size, C.size + 1))).drew := by
    obtain ⟨hT3, hB3⟩ := HT3.out
    obtain ⟨l1, l2, l3, l4, l5, l6, l7, l8, l9, l10⟩ := hT3.lt
    have hBa : Below w3.heap.size w3 (w3.alloc (.cells C 5 (C.size, C.size + 1))).drew := ((Below.refl _ _).alloc (Nat.le_refl _) _).drew
    refine ⟨hT3.later hBa, (hB3.mono hBs).trans (hBa.mono l9), ?_⟩
    refine ⟨by show w3.heap.size < (w3.alloc _).heap.size; simp, by omega, by omega, by omega, by omega, fun k hk => ?_⟩
    exact cell_bytes w3 C 5 (C.size, C.size + 1) (HC.out k hk)
  have HI0 := Lib.hid hI0
  have hs3 := HT3.out.2.size
  obtain ⟨y, hy⟩ : ∃ y, y = w3.heap.size := ⟨_, rfl⟩
  rw [← hy] at HI0 ⊢
  generalize (w3.alloc (.cells C 5 (C.size, C.size + 1))).drew = W0 at HI0 ⊢
  clear hconv hI0 hy
  go_loopw [9, 43] (fun _ i wr => ∃ k : Nat, k ≤ pa.size ∧ i = .int .i64 (k : Int) ∧ FolR q B x N w s1 1 p1 p2 pa y k wr) (fun _ i _ => pa.size - (intOf i).toNat)
  case atStart => exact ⟨0, by omega, rfl, HI0.out⟩
  case round =>
    clear HI0
    obtain ⟨k, hk, rfl, hI⟩ := hrel
    by_cases hlt : k < pa.size
    · have hstep := hI.step hlt HP.out.2.1 (by omega)
      have hcell := hI.2.2.2.2.2.2.2 k hlt
      clear hI
      go_wp2_with fail
      refine hstep.mono ?_
      rintro e w' ⟨⟨z, rfl⟩, hI⟩
      have HI := Lib.hid hI
      clear hI hstep
      go_wp2_with fail
      go_roundw
      case rel => exact ⟨k + 1, by omega, by go_num, HI.out⟩
      case measure => simp [intOf]; omega
    · obtain rfl : k = pa.size := by omega
      obtain ⟨hT4, hB4, -⟩ := hI
      have e1 : pa.data.toList.take pa.size = pa.data.toList := List.take_of_length_le (by simp)
      rw [e1, HP.out.1, HP.out.2.2.1] at hT4
      have HT4 := Lib.hid (⟨hT4.more (N' := N + 500) (by omega), hB4⟩ : _ ∧ _)
      clear hT4 hB4 e1 HT3 HC
      obtain ⟨cap2, C2, hconv2, hC2⟩ := bytes_conv b wr
      have HC2 := Lib.hid hC2
      clear hC2
      go_wp2_with fail
      have hI0 : ShR q B x (N + 500) w s1 p1 x0 b wr.heap.size 0 (wr.alloc (.cells C2 5 (C2.size, C2.size + 1))).drew := by
        obtain ⟨hT3, hB3⟩ := HT4.out
        obtain ⟨l1, l2, l3, l4, l5, l6, l7, l8, l9, l10⟩ := hT3.lt
        have hBa : Below wr.heap.size wr (wr.alloc (.cells C2 5 (C2.size, C2.size + 1))).drew := ((Below.refl _ _).alloc (Nat.le_refl _) _).drew
        refine ⟨hT3.later hBa, hB3.trans (hBa.mono l9), ?_⟩
        refine ⟨by show wr.heap.size < (wr.alloc _).heap.size; simp, by omega, by omega, by omega, by omega, fun k hk => ?_⟩
        exact cell_bytes wr C2 5 (C2.size, C2.size + 1) (HC2.out k hk)
      have HI0 := Lib.hid hI0
      obtain ⟨y2, hy2⟩ : ∃ y, y = wr.heap.size := ⟨_, rfl⟩
      rw [← hy2] at HI0 ⊢
      generalize (wr.alloc (.cells C2 5 (C2.size, C2.size + 1))).drew = W2 at HI0 ⊢
      have HX := Lib.hid (⟨HP.out.2.2.2.1, HP.out.2.2.2.2.1, HP.out.2.2.2.2.2⟩ : _ ∧ _ ∧ _)
      clear hconv2 hI0 hy2 HT4 HC2 HP
      go_loopw [10, 11, 12, 56] (fun ov _ _ i wr => ∃ k : Nat, k ≤ b.size ∧ i = .int .i64 (k : Int) ∧ ov = .string (shText q x0 b.data.toList k) ∧ ShR q B x (N + 500) w s1 p1 x0 b y2 k wr) (fun _ _ _ i _ => b.size - (intOf i).toNat)
      case atStart => exact ⟨0, by omega, rfl, rfl, HI0.out⟩
      case round =>
        clear HI0
        obtain ⟨k, hk, rfl, rfl, hI⟩ := hrel
        by_cases hlt : k < b.size
        · have hcell := hI.2.2.2.2.2.2.2 k hlt
          have hbit := hI.bit hlt HX.out.1
          have hitoa := fun W => itoa_bit _ hbit W
          have hn := shText_succ q x0 b.data.toList k
          have hsz := shText_size q x0 b.data.toList k
          generalize shText q x0 b.data.toList k = o1 at hn hsz ⊢
          have hsz2 : o1.size ≤ 60 := by omega
          obtain ⟨z, hz1, hz2⟩ : ∃ z : Int, z = (if k + 1 = b.size then 1 else 0) ∧ ((k : Int) == (b.size : Int) - 1) = decide (z = 1) := by
            by_cases e : k + 1 = b.size
            · exact ⟨1, by rw [if_pos e], by simp; omega⟩
            · exact ⟨0, by rw [if_neg e], by simp; omega⟩
          have hz01 : z = 0 ∨ z = 1 := by
            rw [hz1]
            split
            · exact .inr rfl
            · exact .inl rfl
          have hstep := hI.step hlt HX.out.2.1 HX.out.1 (by omega) z hz1
          generalize shOut q.r.dev q.r.n x0 b.data.toList k = cc at hstep hn hitoa hbit
          have hcs : (bs [cc]).size = 1 := rfl
          have hcat : ¬ 9223372036854775807 < o1.size + (bs [cc]).size := by rw [hcs]; omega
          have HN := Lib.hid hn
          clear hI hbit hn hz1 hsz
          generalize bs [cc] = cs at hitoa HN hcs hcat
          rcases hz01 with rfl | rfl
          · have hq : ((k : Int) == (b.size : Int) - 1) = false := hz2
            have htr := fun W => truth_any false W
            clear hz2
            go_wp2_with fail
            refine (htr _).mono ?_
            rintro e w1 ⟨rfl, rfl⟩
            clear htr hq
            go_wp2_with fail
            refine hstep.mono ?_
            rintro e w2 ⟨rfl, hM⟩
            have HM := Lib.hid hM
            clear hM hstep
            go_wp2_with fail
            refine (hitoa _).mono ?_
            rintro e w3 ⟨rfl, rfl⟩
            clear hitoa
            go_wp2_with fail
            go_roundw
            case rel => exact ⟨k + 1, by omega, by go_num, by rw [HN.out], HM.out⟩
            case measure => simp [intOf]; omega
          · have hq : ((k : Int) == (b.size : Int) - 1) = true := hz2
            have htr := fun W => truth_any true W
            clear hz2
            go_wp2_with fail
            refine (htr _).mono ?_
            rintro e w1 ⟨rfl, rfl⟩
            clear htr hq
            go_wp2_with fail
            refine hstep.mono ?_
            rintro e w2 ⟨rfl, hM⟩
            have HM := Lib.hid hM
            clear hM hstep
            go_wp2_with fail
            refine (hitoa _).mono ?_
            rintro e w3 ⟨rfl, rfl⟩
            clear hitoa
            go_wp2_with fail
            go_roundw
            case rel => exact ⟨k + 1, by omega, by go_num, by rw [HN.out], HM.out⟩
            case measure => simp [intOf]; omega
        · obtain rfl : k = b.size := by omega
          obtain ⟨hT5, hB5, -⟩ := hI
          have hc1 : Calls Tryz.prog 12 #[.pointer (some ⟨q.rb, 0, none⟩), .int .i64 1, .int .i64 0] wr _ := two_refClock hT5 49 48 rfl rfl (by omega)
          have HB5 := Lib.hid hB5
          clear hT5 hB5
          go_wp2_with fail
          refine hc1.mono ?_
          rintro e w6 ⟨rfl, hT6, hB6, -⟩
          have hc2 : Calls Tryz.prog 12 #[.pointer (some ⟨q.rb, 0, none⟩), .int .i64 0, .int .i64 0] w6 _ := two_refClock hT6 48 48 rfl rfl (by omega)
          have HB6 := Lib.hid (HB5.out.trans hB6)
          clear hc1 hT6 hB6
          go_wp2_with fail
          refine hc2.mono ?_
          rintro e w7 ⟨rfl, hT7, hB7, -⟩
          have HF := Lib.hid (⟨hT7.more (N' := N + 3000) (by omega), HB6.out.trans hB7⟩ : _ ∧ _)
          clear hc2 hT7 hB7
          go_wp2_with fail
          go_ret2
          exact ⟨rfl, HF.out⟩
end
section
variable {q : Tw} {B x N : Nat} {w : World} {s1 s2 : Nat} {p1 p2 : Nat → PS}

theorem refShift_any (h : Two q B x N w s1 s2 p1 p2) (s : Nat) (hs : s = 4 ∨ s = 11) (b : ByteArray) (hz : b.size ≤ 60) (hN : N < 500000) :
    Calls Tryz.prog 44 #[.pointer (some ⟨q.rb, 0, none⟩), .int .i64 (s : Int), .string b] w fun e w' => e = .returned (.tuple #[.string (shiftV q s2 p2 s b), .int .i64 (shiftErr s2 b)]) ∧ Two q B x (N + 3000) w' s1 (shiftX q s2 p2 s b).1 p1 (shiftX q s2 p2 s b).2 ∧ Below B w w' := by
  by_cases he : shiftErr s2 b = 0
  · have e1 : shiftV q s2 p2 s b = bs (shiftOut q.r.dev q.r.n (s2, p2) s b.data.toList) := if_pos he
    have e2 : shiftX q s2 p2 s b = shifted q.r.dev (s2, p2) s b.data.toList := if_pos he
    rw [e1, e2, he]
    rcases (shiftErr_ok he).1 with rfl | rfl
    · exact refShift_ok0 h s hs b hz he hN
    · exact refShift_ok1 h s hs b hz he hN
  · have e1 : shiftV q s2 p2 s b = ⟨#[]⟩ := if_neg he
    have e2 : shiftX q s2 p2 s b = (s2, p2) := if_neg he
    rw [e1, e2]
    have hBs := h.lt.2.2.2.2.2.2.2.2.1
    refine (refShift_err h s b (by omega) he).mono ?_
    rintro e w' ⟨rfl, hB⟩
    exact ⟨rfl, (h.later hB).more (by omega), hB.mono hBs⟩
end
end Go.Proofs.YtkipkkaloiefpaaGreatDoor
