/- Package sets: Text and First. -/
import Derived.Test.YtgnkihiibednoaaGreatDoorFrH
import Derived.Test.YtgnkihiibednoaaGreatDoorFtH
namespace Go.Proofs.YtgnkihiibednoaaGreatDoor
open Go.RowKit

theorem and_pow (x i : Nat) : x &&& 2 ^ i = if x.testBit i = true then 2 ^ i else 0 := by
  refine Nat.eq_of_testBit_eq fun j => ?_
  rw [Nat.testBit_and, Nat.testBit_two_pow]
  by_cases h : i = j
  · subst h
    rw [decide_eq_true rfl, Bool.and_true]
    split
    · rename_i h; rw [h, Nat.testBit_two_pow]; simp
    · rename_i h; simpa using h
  · rw [decide_eq_false h, Bool.and_false]
    split
    · rw [Nat.testBit_two_pow, decide_eq_false h]
    · rw [Nat.zero_testBit]
theorem setFirst_any (x : Nat) (hx : x < 18446744073709551616) (w : World) :
    Calls Tryz.prog 36 #[.int .u64 (x : Int)] w fun e w' => e = .returned (.int .i64 (64 - (Lib.bitLen x : Int))) ∧ w = w' := by
  have h := Tryz.bits_LeadingZeros64 (x : Int) w (by omega) (by omega)
  rw [Int.toNat_natCast] at h
  generalize 64 - (Lib.bitLen x : Int) = z at h ⊢
  go_enter Tryz.func36, Tryz.ntmps36
  go_wp2_with fail
  refine h.mono ?_
  rintro e w' ⟨rfl, rfl⟩
  go_wp2_with fail
  go_ret
  exact ⟨rfl, rfl⟩
set_option maxHeartbeats 2000000 in
set_option maxRecDepth 100000 in
theorem setText_any (x m : Nat) (hx : x < 18446744073709551616) (hm : m ≤ 64) (w : World) :
    Calls Tryz.prog 34 #[.int .u64 (x : Int), .int .i64 (m : Int)] w fun e w' => e = .returned (.string ⟨(textL m x).toArray⟩) ∧ Below w.heap.size w w' := by
  have hmk := make_bytes m (by omega)
  have hst := made_row w (.int .u8 0) m (by omega) 5 w.heap.size (Nat.le_refl _)
  obtain ⟨G, hG⟩ : ∃ G : Nat → Value, G = fun v => .int .u8 (if x.testBit (63 - v) = true then 49 else 48) := ⟨_, rfl⟩
  rw [← partL_zero G] at hst
  have hBa : Below w.heap.size w (w.alloc (.cells (madeCells #[.int .u8 0] m) 5)) := (Below.refl _ _).alloc (Nat.le_refl _) _
  have HI := Lib.hid (⟨hst, hBa⟩ : _ ∧ _)
  have HG := Lib.hid hG
  clear hst hBa hG
  go_enter Tryz.func34, Tryz.ntmps34
  go_wp2_with fail
  obtain ⟨b, hb⟩ : ∃ b, b = w.heap.size := ⟨_, rfl⟩
  rw [← hb] at HI ⊢
  generalize w.alloc (.cells (madeCells #[.int .u8 0] m) 5) = W2 at HI ⊢
  have HBE := Lib.hid hb
  clear hb
  go_loopw [11] (fun i wr => ∃ v : Nat, v ≤ m ∧ i = .int .i64 (v : Int) ∧ wr.ownsRow b 5 1 (.slice (some ⟨b, 0, none⟩) m m) m (partL G (.int .u8 0) m v) ∧ Below b w wr) (fun i _ => m - (intOf i).toNat)
  case atStart => exact ⟨0, by omega, rfl, HI.out⟩
  case round =>
    clear HI
    obtain ⟨v, hv, rfl, hrow, hB⟩ := hrel
    by_cases hlt : v < m
    · have hcb := hrow.cellAt v (by omega)
      have hcv : (partL G (.int .u8 0) m v)[v]? = some (.int .u8 0) := by rw [partL_get, if_pos hlt, if_neg (by omega)]
      rw [hcv] at hcb
      have hcf := hrow.frozenAt v
      have hrow1 := (hrow.stored v (.int .u8 48)).1
      have hB1 := hB.setCell (p := ⟨b, v, none⟩) (Nat.le_refl _) (.int .u8 48)
      have hso := setsOnly_any v (by omega) (wr.setCell ⟨b, v, none⟩ (.int .u8 48))
      have hand := u64_and_nat x (2 ^ (63 - v)) hx (pow_lt64 v)
      rw [and_pow] at hand
      have hGv : G v = .int .u8 (if x.testBit (63 - v) = true then 49 else 48) := by rw [HG.out]
      have hv0 : (0 : Int) ≤ (v : Int) := by omega
      have hv1 : (v : Int) < (m : Int) := by omega
      by_cases hbit : x.testBit (63 - v) = true
      · rw [if_pos hbit] at hand hGv
        have hcell1 := hrow1.cellAt v (by omega)
        have hfr1 := hrow1.frozenAt v
        have hcv2 : ((partL G (.int .u8 0) m v).set v (.int .u8 48))[v]? = some (.int .u8 48) := by
          rw [List.getElem?_set]
          simp [partL, hlt]
        rw [hcv2] at hcell1
        have hrow2 := (hrow1.stored v (.int .u8 49)).1
        rw [List.set_set, ← hGv, partL_set, hGv] at hrow2
        have hB2 := hB1.setCell (p := ⟨b, v, none⟩) (Nat.le_refl _) (.int .u8 49)
        have hne : (((2 ^ (63 - v) : Nat) : Int) != 0) = true := by
          have : 0 < 2 ^ (63 - v) := Nat.two_pow_pos _
          simp only [bne_iff_ne, ne_eq]
          omega
        generalize 2 ^ (63 - v) = pv at hso hand hne
        have HS := Lib.hid (⟨hrow2, hB2⟩ : _ ∧ _)
        clear hrow hB hcv hrow1 hB1 hGv hcv2 hrow2 hB2 hbit
        go_wp2_with fail
        refine hso.mono ?_
        rintro e w' ⟨rfl, rfl⟩
        go_wp2_with fail
        go_roundw
        case rel => exact ⟨v + 1, by omega, by go_num, HS.out⟩
        case measure => simp [intOf]; omega
      · rw [if_neg hbit] at hand hGv
        have hrow2 := hrow1
        rw [← hGv, partL_set, hGv] at hrow2
        have HS := Lib.hid (⟨hrow2, hB1⟩ : _ ∧ _)
        generalize 2 ^ (63 - v) = pv at hso hand
        clear hrow hB hcv hrow1 hB1 hGv hrow2 hbit
        go_wp2_with fail
        refine hso.mono ?_
        rintro e w' ⟨rfl, rfl⟩
        go_wp2_with fail
        go_roundw
        case rel => exact ⟨v + 1, by omega, by go_num, HS.out⟩
        case measure => simp [intOf]; omega
    · obtain rfl : v = m := by omega
      have hconv : (convert 77 9 (.slice (some ⟨b, 0, none⟩) v v)).run Tryz.prog wr = .ok (.string ⟨(textL v x).toArray⟩) wr := by
        have := run_convert_bytes_back (P := Tryz.prog) wr 77 9 5 ⟨b, 0, none⟩ v (textL v x) Tryz.underlying77 Tryz.underlying5 Tryz.underlying9 (fun j hj => by
          have hj2 : j < v := by simpa [textL] using hj
          rw [add_at, Nat.zero_add, hrow.cellAt j (by omega), partL_get, if_pos hj2, if_pos hj2, HG.out]
          have e : (textL v x)[j] = if x.testBit (63 - j) = true then 49 else 48 := by simp [textL]
          rw [e]
          split
          · rename_i hh; simp [hh]
          · rename_i hh; simp [hh])
        have hl : (textL v x).length = v := by simp [textL]
        rw [hl] at this
        exact this
      obtain ⟨sc, hsc⟩ : ∃ sc : ByteArray, sc = ⟨(textL v x).toArray⟩ := ⟨_, rfl⟩
      rw [← hsc] at hconv
      have HSC := Lib.hid hsc
      have HB := Lib.hid (HBE.out ▸ hB)
      clear hrow hB hsc
      go_wp2_with fail
      go_ret
      exact ⟨by rw [← HSC.out]; rfl, HB.out⟩
end Go.Proofs.YtgnkihiibednoaaGreatDoor
