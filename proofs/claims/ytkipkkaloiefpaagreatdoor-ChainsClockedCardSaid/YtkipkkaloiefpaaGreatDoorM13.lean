/- The program's ShiftIR and ShiftDR. -/
import Derived.Test.YtkipkkaloiefpaaGreatDoorM12
import Derived.Test.YtkipkkaloiefpaaGreatDoorWalkOf
namespace Go.Proofs.YtkipkkaloiefpaaGreatDoor
open Go.RowKit Go.Maps

theorem path_bits (f t : Nat) (hf : f = 0 ∨ f = 1) (ht : t = 4 ∨ t = 11) : (pathOf f t).all bitB = true ∧ (pathOf f t).length ≤ 16 := by
  rcases hf with rfl | rfl <;> rcases ht with rfl | rfl <;> decide +kernel

/-- What a shift gives. -/
def shiftV (q : Tw) (st : Nat) (p : Nat → PS) (s : Nat) (b : ByteArray) : ByteArray := if shiftErr st b = 0 then bs (shiftOut q.r.dev q.r.n (st, p) s b.data.toList) else ⟨#[]⟩
/-- The state and the ports behind it. -/
def shiftX (q : Tw) (st : Nat) (p : Nat → PS) (s : Nat) (b : ByteArray) : Nat × (Nat → PS) := if shiftErr st b = 0 then shifted q.r.dev (st, p) s b.data.toList else (st, p)

theorem shiftErr_ok {st : Nat} {b : ByteArray} (he : shiftErr st b = 0) : (st = 0 ∨ st = 1) ∧ b.size ≠ 0 ∧ clockErr b = 0 ∧ b.size ≤ 20000 ∧ b.data.toList.all bitB = true := by
  unfold shiftErr at he
  by_cases h1 : st ≠ 1 ∧ st ≠ 0
  · rw [if_pos h1] at he; cases he
  rw [if_neg h1] at he
  by_cases h2 : b.size = 0
  · rw [if_pos h2] at he; cases he
  rw [if_neg h2] at he
  refine ⟨by omega, h2, he, ?_⟩
  unfold clockErr at he
  split at he
  · cases he
  · split at he
    · exact ⟨by omega, by assumption⟩
    · cases he

section
variable {q : Tw} {B x N : Nat} {w : World} {s2 : Nat} {p1 p2 : Nat → PS}

set_option maxHeartbeats 2000000 in
set_option maxRecDepth 100000 in
theorem shiftIn_ok0 (h : Two q B x N w 0 s2 p1 p2) (s : Nat) (hs : s = 4 ∨ s = 11) (b : ByteArray) (hz : b.size ≤ 60) (he : shiftErr 0 b = 0) (hN : N < 500000) :
    Calls Tryz.prog 81 #[.pointer (some ⟨q.cb, 0, none⟩), .int .i64 (s : Int), .string b] w fun e w' => e = .returned (.tuple #[.string (bs (shiftOut q.r.dev q.r.n (0, p1) s b.data.toList)), .int .i64 0]) ∧ Two q B q.rb (N + 100) w' (shifted q.r.dev (0, p1) s b.data.toList).1 s2 (shifted q.r.dev (0, p1) s b.data.toList).2 p2 ∧ Below B w w' := by
  have hs1 : 0 = 0 ∨ 0 = 1 := by decide
  obtain ⟨-, hbz, hce, -, hball⟩ := shiftErr_ok he
  have hcon := fun W => checkClocks_any b W (by omega)
  rw [hce] at hcon
  have hb1 := not_empty_of_size (s := b) (by omega)
  have hb3 : (b.toList == []) = false := by
    cases hl : b.toList with
    | nil => rw [hl] at hb1; cases hb1
    | cons c l => rfl
  have hBs := h.lt.2.2.2.2.2.2.2.2.1
  obtain ⟨hpb, hpl⟩ := path_bits 0 s hs1 hs
  have hfr := toShift_state q.r.dev (0, p1) s hs1 hs
  have hpath : ∀ W, Tab W → Calls Tryz.prog 70 #[.int .i64 0, .int .i64 (s : Int)] W fun e w' => e = .returned (.string (bs (pathOf 0 s))) ∧ Below W.heap.size W w' := fun W hW => shortest_any 0 s W (by omega) (by omega) hW
  have hplz : (bs (pathOf 0 s)).size ≤ 16 := by rw [bs_size]; omega
  have hpll : (bs (pathOf 0 s)).data.toList = pathOf 0 s := bs_list _
  have hpba : (bs (pathOf 0 s)).data.toList.all bitB = true := by rw [hpll]; exact hpb
  obtain ⟨x0, hx0⟩ : ∃ x0, x0 = toShift q.r.dev (0, p1) s := ⟨_, rfl⟩
  have hx01 : x0.1 = s := by rw [hx0]; exact hfr
  have hx04 : x0.1 = 4 ∨ x0.1 = 11 := by rw [hx01]; exact hs
  have hfolx : fol q.r.dev (0, p1) (pathOf 0 s) = x0 := hx0.symm
  have hblen : b.data.toList.length = b.size := by simp
  have hshd : shifted q.r.dev (0, p1) s b.data.toList = fol q.r.dev (shTo q.r.dev x0 b.data.toList b.size) [49, 48] := by unfold shifted; rw [hx0, hblen]
  have hsho : shiftOut q.r.dev q.r.n (0, p1) s b.data.toList = (List.range b.size).map (shOut q.r.dev q.r.n x0 b.data.toList) := by
    unfold shiftOut
    rw [hx0, hblen]
  rw [hshd, hsho]
  obtain ⟨res, hres⟩ : ∃ res, res = (List.range b.size).map (shOut q.r.dev q.r.n x0 b.data.toList) := ⟨_, rfl⟩
  rw [← hres]
  have HRES := Lib.hid hres
  clear hres
  have h' := h
  obtain ⟨o, hB, ho, hx, hC, hR, hg, hT, hTB⟩ := h'
  have c0 : w.cell? ⟨q.cb, 0, none⟩ = some (.int .i64 0) := hC.c0
  have hcb := hC.cblt
  have hlater : ∀ W, Below w.heap.size w W → W.cell? ⟨q.cb, 0, none⟩ = some (.int .i64 0) ∧ Tab W := fun W hW => ⟨(hW.cell (p := ⟨q.cb, 0, none⟩) hcb).trans c0, hT.below hW (by omega)⟩
  have HL := Lib.hid hlater
  have HH := Lib.hid h
  have HP := Lib.hid (⟨hpll, hpba, hfolx, hball, hx04, hblen⟩ : _ ∧ _ ∧ _ ∧ _ ∧ _ ∧ _)
  have HQ := Lib.hid hpath
  obtain ⟨i0, hi, hz0, hz1, hz2⟩ := info_parts Tryz.infoU8
  clear h hB ho hx hC hR hg hT hTB hlater hfr hx01 hx0 hshd hsho he hce hfolx hpba hpb hpl hball hpll hx04 hpath hblen hs1
  generalize bs (pathOf 0 s) = pa at hplz HP HQ
  have hb0 : 0 < b.size := by omega
  clear hbz
  go_enter Tryz.func81, Tryz.ntmps81
  go_wp2_with fail
  refine (hcon _).mono ?_
  rintro e w2 ⟨rfl, hB2⟩
  obtain ⟨c0', hT2⟩ := HL.out w2 hB2
  have hp := HQ.out w2 hT2
  have HB2 := Lib.hid hB2
  clear c0 hcon hB2 hT2
  go_wp2_with fail
  refine hp.mono ?_
  rintro e w3 ⟨rfl, hB3⟩
  clear hp c0'
  have hT3 := HH.out.later (HB2.out.trans (hB3.mono HB2.out.size))
  have hB13 := HB2.out.trans (hB3.mono HB2.out.size)
  have hfo := follow_any hT3 pa HP.out.2.1 (by omega) (by omega)
  rw [HP.out.1, HP.out.2.2.1] at hfo
  have HB3 := Lib.hid hB13
  clear hT3 hB3 hB13
  go_wp2_with fail
  refine hfo.mono ?_
  rintro e w4 ⟨rfl, hT4, hB4, _⟩
  clear hfo
  have HT4 := Lib.hid (⟨hT4, hB4⟩ : _ ∧ _)
  clear hT4 hB4
  go_wp2_with (at_make; refine wpList_make_full _ rfl (.tmp 43) (.tmp 43) 95 rfl w4.heap.size 5 i0 (.int .u8 0) 1 Tryz.underlying95 hi hz0 hz1 _ _ _ _ b.size rfl rfl rfl rfl ?q1 ?q2 ?q3 ?_)
  case q1 => rw [hz2]; omega
  case q2 => unfold maxLen; omega
  case q3 => exact Nat.le_refl _
  intro w5 hown hgrow
  obtain ⟨g, hg⟩ : ∃ g, g = w4.heap.size := ⟨_, rfl⟩
  have hI0 : ShI q B g (N + 16) w s2 p2 x0 b.data.toList 0 0 w5 := by
    obtain ⟨hT4, hB4⟩ := HT4.out
    obtain ⟨l1, l2, l3, l4, l5, l6, l7, l8, l9, l10⟩ := hT4.lt
    have hB5 : Below w4.heap.size w4 w5 := (Below.refl _ _).grown hgrow (Nat.le_refl _) (fun k hk => by cases hk)
    have hrow := BytesOf.of_owns (shOut q.r.dev q.r.n x0 b.data.toList) hown
    have hgl : g < w5.heap.size := by
      obtain ⟨v, hv⟩ := (hrow.1 0 (by omega)).2
      rw [hg]
      exact World.block_lt_of_cell? w5 ⟨w4.heap.size, 0, none⟩ hv
    refine ⟨(hT4.take hB5 (by omega) hgl).more (by omega), ?_, ((HB3.out.mono hBs).trans hB4).trans (hB5.mono l9), by omega, by omega, by omega, by omega, by omega, by omega⟩
    rw [HP.out.2.2.2.2.2, hg]
    exact hrow
  rw [← hg]
  have HX := Lib.hid (⟨HP.out.2.2.2.1, HP.out.2.2.2.2.1, HP.out.2.2.2.2.2⟩ : _ ∧ _ ∧ _)
  have HI0 := Lib.hid hI0
  clear hown hgrow HB2 HB3 HT4 HH HL HQ hplz hg HP hI0
  go_wp2_with fail
  go_loopw [11, 46] (fun _ i wr => ∃ k : Nat, k + 1 ≤ b.size ∧ i = .int .i64 (k : Int) ∧ ShI q B g (N + 16) w s2 p2 x0 b.data.toList k k wr) (fun _ i _ => b.size - (intOf i).toNat)
  case atStart => exact ⟨0, by omega, rfl, HI0.out⟩
  case round =>
    clear HI0
    obtain ⟨k, hk, rfl, hI⟩ := hrel
    have hkl : k < b.data.toList.length := by rw [HX.out.2.2]; omega
    have hkb : k < b.size := by omega
    by_cases hlt : k + 1 < b.size
    · have hstep : Calls Tryz.prog 30 #[.pointer (some ⟨q.cb, 0, none⟩), .int .u8 48, .int .u8 (b[k].toNat : Int)] wr _ := hI.step hkb HX.out.2.1 HX.out.1 (by omega) 48 (by rw [if_neg (by omega)])
      have hki : (0 : Int) ≤ (k : Int) := by omega
      have hki2 : (k : Int) < (b.size : Int) := by omega
      have hki3 : (k : Int) < (b.size : Int) - 1 := by omega
      clear hI
      go_wp2_with fail
      refine hstep.mono ?_
      rintro e w6 ⟨rfl, hI6⟩
      obtain ⟨hfz, vv, hvv⟩ := hI6.row hkl
      have HI6 := Lib.hid hI6
      clear hI6 hstep
      go_wp2_with fail
      go_roundw
      case rel => exact ⟨k + 1, by omega, by go_num, HI6.out.store hkl⟩
      case measure => simp [intOf]; omega
    · obtain rfl : k = b.size - 1 := by omega
      have hstep : Calls Tryz.prog 30 #[.pointer (some ⟨q.cb, 0, none⟩), .int .u8 49, .int .u8 (b[b.size - 1].toNat : Int)] wr _ := hI.step hkb HX.out.2.1 HX.out.1 (by omega) 49 (by rw [if_pos (by omega)])
      have hki : (0 : Int) ≤ (b.size : Int) - 1 := by omega
      clear hI
      go_wp2_with fail
      refine hstep.mono ?_
      rintro e w6 ⟨rfl, hI6⟩
      obtain ⟨hfz, vv, hvv⟩ := hI6.row hkl
      have HI6 := Lib.hid hI6
      clear hI6 hstep
      go_wp2_with fail
      have hI7 := HI6.out.store hkl
      obtain ⟨hT7, hR7, hB7, -⟩ := hI7
      have hkn : b.size - 1 + 1 = b.size := by omega
      rw [hkn] at hT7 hR7
      have hT8 : Two q B g (N + 16 + b.size) (w6.setCell ⟨g, b.size - 1, none⟩ (.int .u8 ((shOut q.r.dev q.r.n x0 b.data.toList (b.size - 1)).toNat : Int))) (shTo q.r.dev x0 b.data.toList b.size).1 s2 (shTo q.r.dev x0 b.data.toList b.size).2 p2 := hT7
      have hfo := follow_any hT8 ⟨#[49, 48]⟩ (by decide) (by decide) (by omega)
      have HR7 := Lib.hid (⟨hR7, hB7, hkn⟩ : _ ∧ _ ∧ _)
      clear hT7 hT8 hR7 hB7 hkn hfz hvv HI6
      go_wp2_with fail
      refine hfo.mono ?_
      rintro e w8 ⟨rfl, hT9, hB9, hx9⟩
      clear hfo
      obtain ⟨hR7, hB7, hkn⟩ := HR7.out
      rw [HX.out.2.2] at hR7
      have hconv := (hR7.block hx9).string b.size
      rw [← HRES.out] at hconv
      have HF := Lib.hid (⟨(hT9.back).more (N' := N + 100) (by show N + 16 + b.size + 2 ≤ N + 100; omega), hB7.trans hB9⟩ : _ ∧ _)
      clear hT9 hB9 hx9 hR7 hB7 hkn HR7 HX
      go_wp2_with fail
      go_ret2
      exact ⟨rfl, HF.out⟩

set_option maxHeartbeats 2000000 in
set_option maxRecDepth 100000 in
theorem shiftIn_ok1 (h : Two q B x N w 1 s2 p1 p2) (s : Nat) (hs : s = 4 ∨ s = 11) (b : ByteArray) (hz : b.size ≤ 60) (he : shiftErr 1 b = 0) (hN : N < 500000) :
    Calls Tryz.prog 81 #[.pointer (some ⟨q.cb, 0, none⟩), .int .i64 (s : Int), .string b] w fun e w' => e = .returned (.tuple #[.string (bs (shiftOut q.r.dev q.r.n (1, p1) s b.data.toList)), .int .i64 0]) ∧ Two q B q.rb (N + 100) w' (shifted q.r.dev (1, p1) s b.data.toList).1 s2 (shifted q.r.dev (1, p1) s b.data.toList).2 p2 ∧ Below B w w' := by
  have hs1 : 1 = 0 ∨ 1 = 1 := by decide
  obtain ⟨-, hbz, hce, -, hball⟩ := shiftErr_ok he
  have hcon := fun W => checkClocks_any b W (by omega)
  rw [hce] at hcon
  have hb1 := not_empty_of_size (s := b) (by omega)
  have hb3 : (b.toList == []) = false := by
    cases hl : b.toList with
    | nil => rw [hl] at hb1; cases hb1
    | cons c l => rfl
  have hBs := h.lt.2.2.2.2.2.2.2.2.1
  obtain ⟨hpb, hpl⟩ := path_bits 1 s hs1 hs
  have hfr := toShift_state q.r.dev (1, p1) s hs1 hs
  have hpath : ∀ W, Tab W → Calls Tryz.prog 70 #[.int .i64 1, .int .i64 (s : Int)] W fun e w' => e = .returned (.string (bs (pathOf 1 s))) ∧ Below W.heap.size W w' := fun W hW => shortest_any 1 s W (by omega) (by omega) hW
  have hplz : (bs (pathOf 1 s)).size ≤ 16 := by rw [bs_size]; omega
  have hpll : (bs (pathOf 1 s)).data.toList = pathOf 1 s := bs_list _
  have hpba : (bs (pathOf 1 s)).data.toList.all bitB = true := by rw [hpll]; exact hpb
  obtain ⟨x0, hx0⟩ : ∃ x0, x0 = toShift q.r.dev (1, p1) s := ⟨_, rfl⟩
  have hx01 : x0.1 = s := by rw [hx0]; exact hfr
  have hx04 : x0.1 = 4 ∨ x0.1 = 11 := by rw [hx01]; exact hs
  have hfolx : fol q.r.dev (1, p1) (pathOf 1 s) = x0 := hx0.symm
  have hblen : b.data.toList.length = b.size := by simp
  have hshd : shifted q.r.dev (1, p1) s b.data.toList = fol q.r.dev (shTo q.r.dev x0 b.data.toList b.size) [49, 48] := by unfold shifted; rw [hx0, hblen]
  have hsho : shiftOut q.r.dev q.r.n (1, p1) s b.data.toList = (List.range b.size).map (shOut q.r.dev q.r.n x0 b.data.toList) := by
    unfold shiftOut
    rw [hx0, hblen]
  rw [hshd, hsho]
  obtain ⟨res, hres⟩ : ∃ res, res = (List.range b.size).map (shOut q.r.dev q.r.n x0 b.data.toList) := ⟨_, rfl⟩
  rw [← hres]
  have HRES := Lib.hid hres
  clear hres
  have h' := h
  obtain ⟨o, hB, ho, hx, hC, hR, hg, hT, hTB⟩ := h'
  have c0 : w.cell? ⟨q.cb, 0, none⟩ = some (.int .i64 1) := hC.c0
  have hcb := hC.cblt
  have hlater : ∀ W, Below w.heap.size w W → W.cell? ⟨q.cb, 0, none⟩ = some (.int .i64 1) ∧ Tab W := fun W hW => ⟨(hW.cell (p := ⟨q.cb, 0, none⟩) hcb).trans c0, hT.below hW (by omega)⟩
  have HL := Lib.hid hlater
  have HH := Lib.hid h
  have HP := Lib.hid (⟨hpll, hpba, hfolx, hball, hx04, hblen⟩ : _ ∧ _ ∧ _ ∧ _ ∧ _ ∧ _)
  have HQ := Lib.hid hpath
  obtain ⟨i0, hi, hz0, hz1, hz2⟩ := info_parts Tryz.infoU8
  clear h hB ho hx hC hR hg hT hTB hlater hfr hx01 hx0 hshd hsho he hce hfolx hpba hpb hpl hball hpll hx04 hpath hblen hs1
  generalize bs (pathOf 1 s) = pa at hplz HP HQ
  have hb0 : 0 < b.size := by omega
  clear hbz
  go_enter Tryz.func81, Tryz.ntmps81
  go_wp2_with fail
  refine (hcon _).mono ?_
  rintro e w2 ⟨rfl, hB2⟩
  obtain ⟨c0', hT2⟩ := HL.out w2 hB2
  have hp := HQ.out w2 hT2
  have HB2 := Lib.hid hB2
  clear c0 hcon hB2 hT2
  go_wp2_with fail
  refine hp.mono ?_
  rintro e w3 ⟨rfl, hB3⟩
  clear hp c0'
  have hT3 := HH.out.later (HB2.out.trans (hB3.mono HB2.out.size))
  have hB13 := HB2.out.trans (hB3.mono HB2.out.size)
  have hfo := follow_any hT3 pa HP.out.2.1 (by omega) (by omega)
  rw [HP.out.1, HP.out.2.2.1] at hfo
  have HB3 := Lib.hid hB13
  clear hT3 hB3 hB13
  go_wp2_with fail
  refine hfo.mono ?_
  rintro e w4 ⟨rfl, hT4, hB4, _⟩
  clear hfo
  have HT4 := Lib.hid (⟨hT4, hB4⟩ : _ ∧ _)
  clear hT4 hB4
  go_wp2_with (at_make; refine wpList_make_full _ rfl (.tmp 43) (.tmp 43) 95 rfl w4.heap.size 5 i0 (.int .u8 0) 1 Tryz.underlying95 hi hz0 hz1 _ _ _ _ b.size rfl rfl rfl rfl ?q1 ?q2 ?q3 ?_)
  case q1 => rw [hz2]; omega
  case q2 => unfold maxLen; omega
  case q3 => exact Nat.le_refl _
  intro w5 hown hgrow
  obtain ⟨g, hg⟩ : ∃ g, g = w4.heap.size := ⟨_, rfl⟩
  have hI0 : ShI q B g (N + 16) w s2 p2 x0 b.data.toList 0 0 w5 := by
    obtain ⟨hT4, hB4⟩ := HT4.out
    obtain ⟨l1, l2, l3, l4, l5, l6, l7, l8, l9, l10⟩ := hT4.lt
    have hB5 : Below w4.heap.size w4 w5 := (Below.refl _ _).grown hgrow (Nat.le_refl _) (fun k hk => by cases hk)
    have hrow := BytesOf.of_owns (shOut q.r.dev q.r.n x0 b.data.toList) hown
    have hgl : g < w5.heap.size := by
      obtain ⟨v, hv⟩ := (hrow.1 0 (by omega)).2
      rw [hg]
      exact World.block_lt_of_cell? w5 ⟨w4.heap.size, 0, none⟩ hv
    refine ⟨(hT4.take hB5 (by omega) hgl).more (by omega), ?_, ((HB3.out.mono hBs).trans hB4).trans (hB5.mono l9), by omega, by omega, by omega, by omega, by omega, by omega⟩
    rw [HP.out.2.2.2.2.2, hg]
    exact hrow
  rw [← hg]
  have HX := Lib.hid (⟨HP.out.2.2.2.1, HP.out.2.2.2.2.1, HP.out.2.2.2.2.2⟩ : _ ∧ _ ∧ _)
  have HI0 := Lib.hid hI0
  clear hown hgrow HB2 HB3 HT4 HH HL HQ hplz hg HP hI0
  go_wp2_with fail
  go_loopw [11, 46] (fun _ i wr => ∃ k : Nat, k + 1 ≤ b.size ∧ i = .int .i64 (k : Int) ∧ ShI q B g (N + 16) w s2 p2 x0 b.data.toList k k wr) (fun _ i _ => b.size - (intOf i).toNat)
  case atStart => exact ⟨0, by omega, rfl, HI0.out⟩
  case round =>
    clear HI0
    obtain ⟨k, hk, rfl, hI⟩ := hrel
    have hkl : k < b.data.toList.length := by rw [HX.out.2.2]; omega
    have hkb : k < b.size := by omega
    by_cases hlt : k + 1 < b.size
    · have hstep : Calls Tryz.prog 30 #[.pointer (some ⟨q.cb, 0, none⟩), .int .u8 48, .int .u8 (b[k].toNat : Int)] wr _ := hI.step hkb HX.out.2.1 HX.out.1 (by omega) 48 (by rw [if_neg (by omega)])
      have hki : (0 : Int) ≤ (k : Int) := by omega
      have hki2 : (k : Int) < (b.size : Int) := by omega
      have hki3 : (k : Int) < (b.size : Int) - 1 := by omega
      clear hI
      go_wp2_with fail
      refine hstep.mono ?_
      rintro e w6 ⟨rfl, hI6⟩
      obtain ⟨hfz, vv, hvv⟩ := hI6.row hkl
      have HI6 := Lib.hid hI6
      clear hI6 hstep
      go_wp2_with fail
      go_roundw
      case rel => exact ⟨k + 1, by omega, by go_num, HI6.out.store hkl⟩
      case measure => simp [intOf]; omega
    · obtain rfl : k = b.size - 1 := by omega
      have hstep : Calls Tryz.prog 30 #[.pointer (some ⟨q.cb, 0, none⟩), .int .u8 49, .int .u8 (b[b.size - 1].toNat : Int)] wr _ := hI.step hkb HX.out.2.1 HX.out.1 (by omega) 49 (by rw [if_pos (by omega)])
      have hki : (0 : Int) ≤ (b.size : Int) - 1 := by omega
      clear hI
      go_wp2_with fail
      refine hstep.mono ?_
      rintro e w6 ⟨rfl, hI6⟩
      obtain ⟨hfz, vv, hvv⟩ := hI6.row hkl
      have HI6 := Lib.hid hI6
      clear hI6 hstep
      go_wp2_with fail
      have hI7 := HI6.out.store hkl
      obtain ⟨hT7, hR7, hB7, -⟩ := hI7
      have hkn : b.size - 1 + 1 = b.size := by omega
      rw [hkn] at hT7 hR7
      have hT8 : Two q B g (N + 16 + b.size) (w6.setCell ⟨g, b.size - 1, none⟩ (.int .u8 ((shOut q.r.dev q.r.n x0 b.data.toList (b.size - 1)).toNat : Int))) (shTo q.r.dev x0 b.data.toList b.size).1 s2 (shTo q.r.dev x0 b.data.toList b.size).2 p2 := hT7
      have hfo := follow_any hT8 ⟨#[49, 48]⟩ (by decide) (by decide) (by omega)
      have HR7 := Lib.hid (⟨hR7, hB7, hkn⟩ : _ ∧ _ ∧ _)
      clear hT7 hT8 hR7 hB7 hkn hfz hvv HI6
      go_wp2_with fail
      refine hfo.mono ?_
      rintro e w8 ⟨rfl, hT9, hB9, hx9⟩
      clear hfo
      obtain ⟨hR7, hB7, hkn⟩ := HR7.out
      rw [HX.out.2.2] at hR7
      have hconv := (hR7.block hx9).string b.size
      rw [← HRES.out] at hconv
      have HF := Lib.hid (⟨(hT9.back).more (N' := N + 100) (by show N + 16 + b.size + 2 ≤ N + 100; omega), hB7.trans hB9⟩ : _ ∧ _)
      clear hT9 hB9 hx9 hR7 hB7 hkn HR7 HX
      go_wp2_with fail
      go_ret2
      exact ⟨rfl, HF.out⟩
end
section
variable {q : Tw} {B x N : Nat} {w : World} {s1 s2 : Nat} {p1 p2 : Nat → PS}

theorem shiftIn_any (h : Two q B x N w s1 s2 p1 p2) (s : Nat) (hs : s = 4 ∨ s = 11) (b : ByteArray) (hz : b.size ≤ 60) (hN : N < 500000) :
    Calls Tryz.prog 81 #[.pointer (some ⟨q.cb, 0, none⟩), .int .i64 (s : Int), .string b] w fun e w' => e = .returned (.tuple #[.string (shiftV q s1 p1 s b), .int .i64 (shiftErr s1 b)]) ∧ Two q B q.rb (N + 100) w' (shiftX q s1 p1 s b).1 s2 (shiftX q s1 p1 s b).2 p2 ∧ Below B w w' := by
  by_cases he : shiftErr s1 b = 0
  · have e1 : shiftV q s1 p1 s b = bs (shiftOut q.r.dev q.r.n (s1, p1) s b.data.toList) := if_pos he
    have e2 : shiftX q s1 p1 s b = shifted q.r.dev (s1, p1) s b.data.toList := if_pos he
    rw [e1, e2, he]
    rcases (shiftErr_ok he).1 with rfl | rfl
    · exact shiftIn_ok0 h s hs b hz he hN
    · exact shiftIn_ok1 h s hs b hz he hN
  · have e1 : shiftV q s1 p1 s b = ⟨#[]⟩ := if_neg he
    have e2 : shiftX q s1 p1 s b = (s1, p1) := if_neg he
    rw [e1, e2]
    have hBs := h.lt.2.2.2.2.2.2.2.2.1
    refine (shiftIn_err h s b (by omega) he).mono ?_
    rintro e w' ⟨rfl, hB⟩
    exact ⟨rfl, ((h.later hB).back).more (by omega), hB.mono hBs⟩

theorem shiftIR_any (h : Two q B x N w s1 s2 p1 p2) (b : ByteArray) (hz : b.size ≤ 60) (hN : N < 500000) :
    Calls Tryz.prog 43 #[.pointer (some ⟨q.cb, 0, none⟩), .string b] w fun e w' => e = .returned (.tuple #[.string (shiftV q s1 p1 11 b), .int .i64 (shiftErr s1 b)]) ∧ Two q B q.rb (N + 100) w' (shiftX q s1 p1 11 b).1 s2 (shiftX q s1 p1 11 b).2 p2 ∧ Below B w w' := by
  have hcon : Calls Tryz.prog 81 #[.pointer (some ⟨q.cb, 0, none⟩), .int .i64 11, .string b] w _ := shiftIn_any h 11 (.inr rfl) b hz hN
  generalize shiftV q s1 p1 11 b = v at hcon ⊢
  generalize shiftErr s1 b = ec at hcon ⊢
  generalize shiftX q s1 p1 11 b = X at hcon ⊢
  clear h
  go_enter Tryz.func43, Tryz.ntmps43
  go_wp2_with fail
  refine hcon.mono ?_
  rintro e w' ⟨rfl, hT, hB⟩
  have HT := Lib.hid (⟨hT, hB⟩ : _ ∧ _)
  clear hT hB hcon
  go_wp2_with fail
  go_ret2
  exact ⟨rfl, HT.out⟩
theorem shiftDR_any (h : Two q B x N w s1 s2 p1 p2) (b : ByteArray) (hz : b.size ≤ 60) (hN : N < 500000) :
    Calls Tryz.prog 45 #[.pointer (some ⟨q.cb, 0, none⟩), .string b] w fun e w' => e = .returned (.tuple #[.string (shiftV q s1 p1 4 b), .int .i64 (shiftErr s1 b)]) ∧ Two q B q.rb (N + 100) w' (shiftX q s1 p1 4 b).1 s2 (shiftX q s1 p1 4 b).2 p2 ∧ Below B w w' := by
  have hcon : Calls Tryz.prog 81 #[.pointer (some ⟨q.cb, 0, none⟩), .int .i64 4, .string b] w _ := shiftIn_any h 4 (.inl rfl) b hz hN
  generalize shiftV q s1 p1 4 b = v at hcon ⊢
  generalize shiftErr s1 b = ec at hcon ⊢
  generalize shiftX q s1 p1 4 b = X at hcon ⊢
  clear h
  go_enter Tryz.func45, Tryz.ntmps45
  go_wp2_with fail
  refine hcon.mono ?_
  rintro e w' ⟨rfl, hT, hB⟩
  have HT := Lib.hid (⟨hT, hB⟩ : _ ∧ _)
  clear hT hB hcon
  go_wp2_with fail
  go_ret2
  exact ⟨rfl, HT.out⟩
end
end Go.Proofs.YtkipkkaloiefpaaGreatDoor
/- The reference's methods of a port: Clock beside a chain, State, Device, Code, Output, Input. -/
namespace Go.Proofs.YtkipkkaloiefpaaGreatDoor
open Go.RowKit Go.Maps

section
variable {q : Tw} {B x N : Nat} {w : World} {s1 s2 : Nat} {p1 p2 : Nat → PS}

theorem two_refClock (h : Two q B x N w s1 s2 p1 p2) (t c : UInt8) (ht : bitB t = true) (hc : bitB c = true) (hN : N < 700000) :
    Calls Tryz.prog 12 #[.pointer (some ⟨q.rb, 0, none⟩), .int .i64 (bitv t), .int .i64 (bitv c)] w fun e w' => e = .returned (.int .i64 (clockV q.r.n s2 c p2)) ∧ Two q B x (N + 30) w' s1 (nx s2 t) p1 (stepS q.r.dev s2 c p2) ∧ Below B w w' ∧ (∀ b, b < w.heap.size → b ≠ q.rb → b ≠ q.gc → b ≠ q.gs → b ≠ q.mo → w'.heap[b]? = w.heap[b]?) := by
  have h' := h
  obtain ⟨o, hB, ho, hx, hC, hR, hg, hT, hTB⟩ := h'
  refine (refClock_any B N w q.rb q.gc q.gs q.mi q.mo q.da q.dcap s2 q.r p2 hR t c ht hc (by omega)).mono ?_
  rintro e w' ⟨rfl, h1, h2⟩
  have := h.ref (N' := N + 30) (by omega) h1 (h2.mono fun y _ hy => by rcases hy with e | e | e | e <;> simp [e])
  exact ⟨rfl, this.1, this.2, fun b hb n1 n2 n3 n4 => h2.block b hb (fun e => by rcases e with e | e | e | e <;> contradiction)⟩

theorem refState_any (h : Two q B x N w s1 s2 p1 p2) :
    Calls Tryz.prog 15 #[.pointer (some ⟨q.rb, 0, none⟩)] w fun e w' => e = .returned (.int .i64 (s2 : Int)) ∧ w = w' := by
  obtain ⟨o, hB, ho, hx, hC, hR, hg, hT, hTB⟩ := h
  have c1 := hR.c1
  clear hB ho hx hC hR hg hT hTB
  go_enter Tryz.func15, Tryz.ntmps15
  go_wp2_with fail
  go_ret
  exact ⟨rfl, rfl⟩
end

theorem noneFault_any (b : Bool) (w : World) : Calls Tryz.prog 37 #[.bool b] w fun e w' => e = .returned (.int .i64 (if b = true then 8 else 0)) ∧ w = w' := by
  cases b
  · go_enter Tryz.func37, Tryz.ntmps37
    go_wp2_with fail
    go_ret
    exact ⟨rfl, rfl⟩
  · go_enter Tryz.func37, Tryz.ntmps37
    go_wp2_with fail
    go_ret
    exact ⟨rfl, rfl⟩

theorem eqDev1_any (w : World) (c : Nat) (s n : ByteArray) (v1 v2 v3 v4 : Value) (hc : w.cell? ⟨c, 0, none⟩ = some (.string s)) :
    Calls Tryz.prog 118 #[.agg #[.string n, v1, v2, v3, v4], .pointer (some ⟨c, 0, none⟩)] w fun e w' => e = .returned (.bool (n.toList == s.toList)) ∧ Below w.heap.size w w' := by
  have hlt := World.block_lt_of_cell? w ⟨c, 0, none⟩ hc
  go_enter Tryz.func118, Tryz.ntmps118
  go_wp2_with fail
  go_ret
  exact ⟨rfl, (Below.refl _ _).alloc (Nat.le_refl _) _⟩

/-- The number of a device, as a number. -/
def ixV (o : Option Nat) : Int := match o with
  | none => -1
  | some k => (k : Int)
/-- The device with a name. -/
theorem devIx_of {xs : Nat → ByteArray} {s : ByteArray} {k : Nat} : ∀ n, k < n → (∀ j, j < n → j ≠ k → xs j ≠ s) → xs k = s → devIx xs s n = some k
  | 0, h, _, _ => by omega
  | n + 1, h, hn, hk => by
    unfold devIx
    by_cases e : k = n
    · subst e
      rw [if_pos (name_eq.2 hk)]
    · rw [if_neg (fun e2 => hn n (by omega) (fun e3 => e e3.symm) (name_eq.1 e2))]
      exact devIx_of n (by omega) (fun j hj hjk => hn j (by omega) hjk) hk

theorem indexDev1_any (w : World) (a : Option Addr) (cap n : Nat) (r : Devs) (hn : n ≤ r.n) (h : DevsAt w.heap.size w a r) (hnm : ∀ i j, i < r.n → j < r.n → i ≠ j → (r.dev i).name ≠ (r.dev j).name) (c : Nat) (s : ByteArray) (hc : w.cell? ⟨c, 0, none⟩ = some (.string s)) :
    Calls Tryz.prog 65 #[.slice a n cap, .func (.func 118) #[] #[.pointer (some ⟨c, 0, none⟩)]] w fun e w' => e = .returned (.int .i64 (ixV (devIx r.name s n))) ∧ Below w.heap.size w w' := by
  have hlc := World.block_lt_of_cell? w ⟨c, 0, none⟩ hc
  have hn1 := h.n_le
  go_enter Tryz.func65, Tryz.ntmps65
  go_wp2_with fail
  go_loopw [5, 8] (fun _ i wr => ∃ k : Nat, k ≤ n ∧ i = .int .i64 (k : Int) ∧ devIx r.name s k = none ∧ Below w.heap.size w wr) (fun _ i _ => n - (intOf i).toNat)
  case atStart => exact ⟨0, by omega, rfl, rfl, Below.refl _ _⟩
  case round =>
    obtain ⟨k, hk, rfl, hno, hB⟩ := hrel
    by_cases hlt : k < n
    · have hrr := h.below hB (Nat.le_refl _)
      obtain ⟨b, off, rfl, hbB, hcells⟩ := hrr.cells (by omega)
      obtain ⟨⟨hc0, hc1, hc2, hc3, hc4⟩, hdo⟩ := hcells k (by omega)
      have hcw := (hB.cell (p := ⟨c, 0, none⟩) hlc).trans hc
      have heq := eqDev1_any wr c s (r.dev k).name (.int .i64 (r.dev k).long) (.int .i64 (r.dev k).id) (.slice (r.plc k).ra (r.dev k).regs.n (r.plc k).rc) (.slice (r.plc k).ia (r.dev k).ins.n (r.plc k).ic) hcw
      clear hcells hrr h
      cases he : ((r.name k).toList == s.toList) with
      | true =>
        have hh := Lib.hid (show devIx r.name s n = some k from devIx_of n hlt (fun j hj hjk e => hnm j k (by omega) (by omega) hjk (e.trans (name_eq.1 he).symm)) (name_eq.1 he))
        rw [he] at heq
        have HNM := Lib.hid hnm
        clear he hno hnm
        go_wp2_with fail
        refine heq.mono ?_
        rintro e w2 ⟨rfl, hB2⟩
        go_wp2_with fail
        go_ret
        exact ⟨by rw [hh.out]; rfl, hB.trans (hB2.mono hB.size)⟩
      | false =>
        have hh := Lib.hid (show devIx r.name s (k + 1) = none by unfold devIx; rw [if_neg (by rw [he]; decide)]; exact hno)
        rw [he] at heq
        have HNM := Lib.hid hnm
        clear he hno hnm
        go_wp2_with fail
        refine heq.mono ?_
        rintro e w2 ⟨rfl, hB2⟩
        go_wp2_with fail
        go_roundw
        case rel => exact ⟨k + 1, by omega, by go_num, hh.out, hB.trans (hB2.mono hB.size)⟩
        case measure => simp [intOf]; omega
    · obtain rfl : k = n := by omega
      clear h
      have hh := Lib.hid hno
      clear hno hnm
      go_wp2
      go_ret
      exact ⟨by rw [hh.out]; rfl, hB⟩

section
variable {q : Tw} {B x N : Nat} {w : World} {s1 s2 : Nat} {p1 p2 : Nat → PS}

theorem refDevice_any (h : Two q B x N w s1 s2 p1 p2) (dv : ByteArray) :
    Calls Tryz.prog 76 #[.pointer (some ⟨q.rb, 0, none⟩), .string dv] w fun e w' => e = .returned (.int .i64 (ixV (devIx q.r.name dv q.r.n))) ∧ Below w.heap.size w w' := by
  obtain ⟨o, hB, ho, hx, hC, hR, hg, hT, hTB⟩ := h
  have c0 := hR.c0
  have hlt := hR.lt.1
  have hup := hR.up.1
  have hBa : Below w.heap.size w (w.alloc (.cells #[.string dv] 9)) := (Below.refl _ w).alloc (Nat.le_refl _) _
  have hi := indexDev1_any (w.alloc (.cells #[.string dv] 9)) q.da q.dcap q.r.n q.r (Nat.le_refl _) ((hR.devs.below (hBa.mono (by omega)) (Nat.le_refl _)).up (by simp; omega)) hR.names w.heap.size dv (cell_fresh _ _ _ rfl)
  have HBA := Lib.hid hBa
  clear hB ho hx hC hR hg hT hTB hup hBa
  go_enter Tryz.func76, Tryz.ntmps76
  go_wp2_with fail
  refine hi.mono ?_
  rintro e w' ⟨rfl, hB⟩
  go_wp2_with fail
  go_ret
  exact ⟨rfl, HBA.out.trans (hB.mono HBA.out.size)⟩

theorem refCode_any (h : Two q B x N w s1 s2 p1 p2) (dv : ByteArray) :
    Calls Tryz.prog 36 #[.pointer (some ⟨q.rb, 0, none⟩), .string dv] w fun e w' => e = .returned (.tuple #[.string (bs ((codeQ q.r p2 dv).getD [])), .bool (codeQ q.r p2 dv).isSome]) ∧ Below w.heap.size w w' := by
  have hdv := refDevice_any h dv
  obtain ⟨o, hB, ho, hx, hC, hR, hg, hT, hTB⟩ := h
  unfold codeQ
  cases hd : devIx q.r.name dv q.r.n with
  | none =>
    rw [hd] at hdv
    change Calls _ _ _ _ fun e w' => e = .returned (.int .i64 (-1)) ∧ _ at hdv
    clear hd hB ho hx hC hR hg hT hTB
    go_enter Tryz.func36, Tryz.ntmps36
    go_wp2_with fail
    refine hdv.mono ?_
    rintro e w' ⟨rfl, hB⟩
    go_wp2_with fail
    go_ret2
    exact ⟨rfl, hB⟩
  | some k =>
    rw [hd] at hdv
    change Calls _ _ _ _ fun e w' => e = .returned (.int .i64 (k : Int)) ∧ _ at hdv
    show Calls _ _ _ _ fun e w' => e = .returned (.tuple #[.string (bs (p2 k).code), .bool true]) ∧ _
    obtain ⟨hk, _⟩ := devIx_some _ hd
    obtain ⟨cp, c2⟩ := hR.c2
    have cc := (hR.codes k hk).1
    obtain ⟨l1, l2, l3, l4, l5⟩ := hR.lt
    have hk0 : (0 : Int) ≤ (k : Int) := by omega
    have hk1 : (k : Int) < (q.r.n : Int) := by omega
    clear hd hB ho hx hC hR hg hT hTB
    go_enter Tryz.func36, Tryz.ntmps36
    go_wp2_with fail
    refine hdv.mono ?_
    rintro e w' ⟨rfl, hB⟩
    have c2' := (hB.cell (p := ⟨q.rb, 2, none⟩) l1).trans c2
    have cc' := (hB.cell (p := ⟨q.gc, k, none⟩) l2).trans cc
    go_wp2_with fail
    go_ret2
    exact ⟨rfl, hB⟩

theorem refOutput_any (h : Two q B x N w s1 s2 p1 p2) (hL : LenAll q.r s2 p2) (dv rg : ByteArray) (hz : dv.size ≤ 1048576) (hz2 : rg.size ≤ 1048576) :
    Calls Tryz.prog 39 #[.pointer (some ⟨q.rb, 0, none⟩), .string dv, .string rg] w fun e w' => e = .returned (.tuple #[.string (bs (strOf (outQ q.r p2 dv rg))), .bool (outQ q.r p2 dv rg).isSome]) ∧ w = w' := by
  obtain ⟨o, hB, ho, hx, hC, hR, hg, hT, hTB⟩ := h
  obtain ⟨M, hM, hM2⟩ := hR.outQ dv rg hz hz2
  have c5 := hR.c5
  have hl := hM.look_ok pair_law Tryz.underlying72 litVal (fun v l ps hv => plainElem_litVal hv) (.string []) (Tryz.zeroStr _) (plain_str ⟨#[]⟩ (by decide)) _ _ (pair_key dv rg hz hz2)
  rw [hM2] at hl
  rcases outQ_str hL dv rg with hq | ⟨l, hq⟩
  · rw [hq] at hl ⊢
    change _ = Result.ok (Value.tuple #[.string ⟨#[]⟩, .bool false]) w at hl
    clear hB ho hx hC hR hg hT hTB hM hM2 hq hL
    go_enter Tryz.func39, Tryz.ntmps39
    go_wp2_with fail
    go_ret2
    exact ⟨rfl, rfl⟩
  · rw [hq] at hl ⊢
    change _ = Result.ok (Value.tuple #[.string ⟨l.toArray⟩, .bool true]) w at hl
    clear hB ho hx hC hR hg hT hTB hM hM2 hq hL
    go_enter Tryz.func39, Tryz.ntmps39
    go_wp2_with fail
    go_ret2
    exact ⟨rfl, rfl⟩
end
end Go.Proofs.YtkipkkaloiefpaaGreatDoor
/- The contract of the reference's SynchronizedTo. -/
namespace Go.Proofs.YtkipkkaloiefpaaGreatDoor
open Go.RowKit

end Go.Proofs.YtkipkkaloiefpaaGreatDoor
/- All sequences of a length in their order, and the first one that leads from one state to another: plain mathematics. -/
namespace Go.Proofs.YtkipkkaloiefpaaGreatDoor
open Go.RowKit

def allB : Nat → List (List UInt8)
  | 0 => [[]]
  | d + 1 => (allB d).flatMap fun l => [l ++ [48], l ++ [49]]
def stL (f : Nat) : Nat → List Nat
  | 0 => [f]
  | d + 1 => (stL f d).flatMap fun s => [nx s 48, nx s 49]
theorem all_states (f : Nat) : ∀ d, (allB d).map (nxs f) = stL f d
  | 0 => rfl
  | d + 1 => by
    show ((allB d).flatMap fun l => [l ++ [48], l ++ [49]]).map (nxs f) = (stL f d).flatMap fun s => [nx s 48, nx s 49]
    rw [← all_states f d, List.map_flatMap, List.flatMap_map]
    congr 1
    funext l
    simp [nxs_snoc]
theorem flat_two {α β : Type} (g h : α → β) : ∀ l : List α, (l.flatMap fun x => [g x, h x]).length = 2 * l.length
  | [] => rfl
  | x :: l => by simp [flat_two g h l]; omega
theorem all_len : ∀ d, (allB d).length = 2 ^ d
  | 0 => rfl
  | d + 1 => by
    show ((allB d).flatMap fun l => [l ++ [48], l ++ [49]]).length = 2 ^ (d + 1)
    rw [flat_two, all_len d, Nat.pow_succ]; omega
theorem all_long : ∀ d l, l ∈ allB d → l.length = d ∧ l.all bitB = true
  | 0, l, h => by
    have : l = [] := by simpa [allB] using h
    subst this; exact ⟨rfl, rfl⟩
  | d + 1, l, h => by
    have h' : l ∈ (allB d).flatMap fun l => [l ++ [48], l ++ [49]] := h
    obtain ⟨x, hx, hl⟩ := List.mem_flatMap.1 h'
    obtain ⟨h1, h2⟩ := all_long d x hx
    simp only [List.mem_cons, List.mem_nil_iff, or_false] at hl
    rcases hl with rfl | rfl
    · exact ⟨by simp [h1], by rw [List.all_append, h2]; rfl⟩
    · exact ⟨by simp [h1], by rw [List.all_append, h2]; rfl⟩

def checkP (f t : Nat) : Bool :=
  let D := (pathOf f t).length
  decide (D ≤ 8) && ((List.range D).all fun d => !(stL f d).contains t) && (stL f D).contains t && (allB D)[(stL f D).idxOf t]? == some (pathOf f t)
theorem checkAll : ((List.range 16).all fun f => (List.range 16).all fun t => checkP f t) = true := by decide +kernel
theorem check_at {f t : Nat} (hf : f < 16) (ht : t < 16) : checkP f t = true :=
  List.all_eq_true.1 (List.all_eq_true.1 checkAll f (List.mem_range.2 hf)) t (List.mem_range.2 ht)
theorem path_long {f t : Nat} (hf : f < 16) (ht : t < 16) : (pathOf f t).length ≤ 8 := by
  have h := check_at hf ht
  simp only [checkP, Bool.and_eq_true, decide_eq_true_eq] at h
  exact h.1.1.1

/-- How far the search goes at a length. -/
def uptoP (f t d : Nat) : Nat := (stL f d).idxOf t
theorem uptoP_le (f t d : Nat) : uptoP f t d ≤ (allB d).length := by
  have : (stL f d).length = (allB d).length := by rw [← all_states, List.length_map]
  rw [← this]; exact List.idxOf_le_length
theorem state_at (f d k : Nat) (hk : k < (allB d).length) : (stL f d)[k]? = some (nxs f ((allB d).getD k [])) := by
  rw [← all_states, List.getElem?_map]
  simp [List.getD, hk]
theorem not_yet {f t d k : Nat} (hk : k < (allB d).length) (h : k < uptoP f t d) : nxs f ((allB d).getD k []) ≠ t := by
  intro e
  have h1 := state_at f d k hk
  rw [e] at h1
  have hl : k < (stL f d).length := (List.getElem?_eq_some_iff.1 h1).1
  have h2 : (stL f d)[k]'hl = t := (List.getElem?_eq_some_iff.1 h1).2
  have h3 := List.not_of_lt_findIdx (p := fun x => x == t) (xs := stL f d) (i := k) (by simpa [uptoP, List.idxOf] using h)
  simp [h2] at h3
theorem is_it {f t d : Nat} (hf : f < 16) (ht : t < 16) (hd : d ≤ (pathOf f t).length) (h : uptoP f t d < (allB d).length) : (allB d).getD (uptoP f t d) [] = pathOf f t ∧ nxs f (pathOf f t) = t := by
  have hc := check_at hf ht
  simp only [checkP, Bool.and_eq_true] at hc
  have hl : (stL f d).length = (allB d).length := by rw [← all_states, List.length_map]
  have hmem : t ∈ stL f d := by
    have := List.idxOf_lt_length_iff.1 (show (stL f d).idxOf t < (stL f d).length by rw [hl]; exact h)
    exact this
  have hD : d = (pathOf f t).length := by
    by_cases hlt : d < (pathOf f t).length
    · have := List.all_eq_true.1 hc.1.1.2 d (List.mem_range.2 hlt)
      simp [hmem] at this
    · omega
  have h1 : (allB d).getD (uptoP f t d) [] = pathOf f t := by
    have := hc.2
    rw [← hD] at this
    have h2 : (allB d)[(stL f d).idxOf t]? = some (pathOf f t) := by simpa using this
    simp [List.getD, uptoP, h2]
  refine ⟨h1, ?_⟩
  have h3 := state_at f d _ h
  rw [h1] at h3
  have hl2 : uptoP f t d < (stL f d).length := by rw [hl]; exact h
  have h4 : (stL f d)[uptoP f t d]'hl2 = t := List.getElem_idxOf hl2
  rw [List.getElem?_eq_getElem hl2, h4] at h3
  exact (Option.some.inj h3).symm
theorem goes_on {f t d : Nat} (hf : f < 16) (ht : t < 16) (hd : d ≤ (pathOf f t).length) (h : uptoP f t d = (allB d).length) : d < (pathOf f t).length := by
  have hc := check_at hf ht
  simp only [checkP, Bool.and_eq_true] at hc
  have hl : (stL f d).length = (allB d).length := by rw [← all_states, List.length_map]
  by_cases e : d = (pathOf f t).length
  · have hm : t ∈ stL f d := by rw [e]; simpa using hc.1.2
    have := List.idxOf_lt_length_iff.2 hm
    unfold uptoP at h
    omega
  · omega
end Go.Proofs.YtkipkkaloiefpaaGreatDoor
