/- The contract of the reference's SynchronizedTo. -/
import Derived.Test.YtnlejnldimihcaaDoorWalkOf
namespace Go.Proofs.YtnlejnldimihcaaDoor
open Go.RowKit

theorem end_any (s g : Nat) (tms : ByteArray) (w : World) (hs : s < 16) (hl : tms.size ≤ 1000000) (hbits : tms.data.toList.all bitB = true) (hg : w.cell? ⟨g, 0, none⟩ = some (.string tms)) :
    Calls Tryd.prog 39 #[.int .i64 (s : Int), .pointer (some ⟨g, 0, none⟩)] w fun e w' => e = .returned (.int .i64 ((nxs s tms.data.toList : Nat) : Int)) ∧ Below w.heap.size w w' := by
  obtain ⟨cap, C, hconv, hC⟩ := bytes_conv tms w
  go_enter Tryd.func39, Tryd.ntmps39
  go_wp2_with fail
  have hcells := fun k (h : k < tms.size) => cell_bytes w C 5 (C.size, C.size + 1) (hC k h)
  have hb0 : Below w.heap.size w (w.alloc (.cells C 5 (C.size, C.size + 1))).drew := ((Below.refl _ _).alloc (Nat.le_refl _) _).drew
  clear hconv hC
  generalize w.alloc (.cells C 5 (C.size, C.size + 1)) = W1 at hcells hb0 ⊢
  go_loop [0, 9] (fun st c => ∃ k : Nat, k ≤ tms.size ∧ c = .int .i64 (k : Int) ∧ st = .int .i64 ((nxs s (tms.data.toList.take k) : Nat) : Int)) (fun _ c => tms.size - (intOf c).toNat)
  case atStart => exact ⟨0, Nat.zero_le _, rfl, rfl⟩
  case round =>
    obtain ⟨k, hk, rfl, rfl⟩ := hrel
    by_cases hlt : k < tms.size
    · have hsn : Hid (nxs s (tms.data.toList.take (k + 1)) = nx (nxs s (tms.data.toList.take k)) tms[k]) := Lib.hid (by rw [take_snoc _ _ hlt, nxs_snoc])
      have hst := nxs_lt (tms.data.toList.take k) s hs (all_take _ k hbits)
      have hcell := hcells k hlt
      have hbit : tms[k] = 48 ∨ tms[k] = 49 := by simpa [bitB] using bit_at tms k hlt hbits
      clear hcells hbits
      generalize tms[k] = c at hsn hcell hbit
      generalize nxs s (tms.data.toList.take k) = st at hsn hst ⊢
      rcases hbit with rfl | rfl
      · have hcon := fun W => rafter_zero st W hst
        generalize nx st 48 = st' at hcon hsn
        go_wp2_with fail
        refine (hcon _).mono ?_
        rintro e w' ⟨rfl, rfl⟩
        clear hcon
        go_wp2_with fail
        go_round
        case rel => exact ⟨k + 1, by omega, by go_num, by rw [hsn.out]⟩
        case measure => simp [intOf]; omega
      · have hcon := fun W => rafter_one st W hst
        generalize nx st 49 = st' at hcon hsn
        go_wp2_with fail
        refine (hcon _).mono ?_
        rintro e w' ⟨rfl, rfl⟩
        clear hcon
        go_wp2_with fail
        go_round
        case rel => exact ⟨k + 1, by omega, by go_num, by rw [hsn.out]⟩
        case measure => simp [intOf]; omega
    · obtain rfl : k = tms.size := by omega
      have hall : tms.data.toList.take tms.size = tms.data.toList := List.take_of_length_le (by simp)
      go_wp2
      go_ret
      exact ⟨ret_int rfl, hb0⟩

theorem syncTo_yes (tms : ByteArray) (w : World) (hl : tms.size ≤ 1000000) (hbits : tms.data.toList.all bitB = true) (hall : AllTo tms.data.toList 16) :
    Calls Tryd.prog 19 #[.string tms] w fun e w' => e = .returned (.tuple #[.int .i64 ((nxs 0 tms.data.toList : Nat) : Int), .bool true]) ∧ Below w.heap.size w w' := by
  have hcon := fun (s : Nat) (W : World) (h : s < 16) (hg : W.cell? ⟨w.heap.size, 0, none⟩ = some (.string tms)) => end_any s w.heap.size tms W h hl hbits hg
  go_enter Tryd.func19, Tryd.ntmps19
  go_wp2_with fail
  have hc0 : (w.alloc (.cells #[.string tms] 9)).cell? ⟨w.heap.size, 0, none⟩ = some (.string tms) := cell_fresh _ _ _ rfl
  have hb0 : Below w.heap.size w (w.alloc (.cells #[.string tms] 9)) := (Below.refl _ _).alloc (Nat.le_refl _) _
  have hs0 : w.heap.size < (w.alloc (.cells #[.string tms] 9)).heap.size := by simp
  generalize w.alloc (.cells #[.string tms] 9) = W1 at hc0 hb0 hs0 ⊢
  go_loopw [7] (fun c wr => ∃ k : Nat, k ≤ 16 ∧ c = .int .i64 (k : Int) ∧ Below (w.heap.size + 1) W1 wr) (fun c _ => 16 - (intOf c).toNat)
  case atStart => exact ⟨0, by omega, rfl, Below.refl _ _⟩
  case round =>
    obtain ⟨k, hk, rfl, hB⟩ := hrel
    have hcell := (hB.cell (p := ⟨w.heap.size, 0, none⟩) (Nat.lt_succ_self _)).trans hc0
    have hsz : w.heap.size + 1 ≤ wr.heap.size := Nat.le_trans hs0 hB.size
    by_cases hk16 : k < 16
    · have h1 := hcon k
      rw [hall k hk16] at h1
      have h2 := hcon 0
      clear hcon hall
      generalize nxs 0 tms.data.toList = a at h1 h2 ⊢
      go_wp2_with fail
      refine (h1 _ hk16 hcell).mono ?_
      rintro e w2 ⟨rfl, hb2⟩
      have hcell2 := (hb2.cell (p := ⟨w.heap.size, 0, none⟩) (by show w.heap.size < _; omega)).trans hcell
      go_wp2_with fail
      refine (h2 _ (by decide) hcell2).mono ?_
      rintro e w3 ⟨rfl, hb3⟩
      have hB3 := hB.trans ((hb2.trans (hb3.mono hb2.size)).mono hsz)
      clear h1 h2
      go_wp2_with fail
      go_roundw
      case rel => exact ⟨k + 1, by omega, by go_num, hB3⟩
      case measure => simp [intOf]; omega
    · obtain rfl : k = 16 := by omega
      have h2 := hcon 0
      clear hcon hall
      generalize ha : nxs 0 tms.data.toList = a at h2
      have HA := Lib.hid ha
      clear ha
      go_wp2_with fail
      refine (h2 _ (by decide) hcell).mono ?_
      rintro e w3 ⟨rfl, hb3⟩
      go_wp2_with fail
      go_ret2
      exact ⟨by rw [HA.out]; rfl, hb0.trans ((hB.trans (hb3.mono hsz)).mono (Nat.le_succ _))⟩

theorem syncTo_no (tms : ByteArray) (w : World) (hl : tms.size ≤ 1000000) (hbits : tms.data.toList.all bitB = true) (hall : ¬ AllTo tms.data.toList 16) :
    Calls Tryd.prog 19 #[.string tms] w fun e w' => e = .returned (.tuple #[.int .i64 0, .bool false]) ∧ Below w.heap.size w w' := by
  have hcon := fun (s : Nat) (W : World) (h : s < 16) (hg : W.cell? ⟨w.heap.size, 0, none⟩ = some (.string tms)) => end_any s w.heap.size tms W h hl hbits hg
  go_enter Tryd.func19, Tryd.ntmps19
  go_wp2_with fail
  have hc0 : (w.alloc (.cells #[.string tms] 9)).cell? ⟨w.heap.size, 0, none⟩ = some (.string tms) := cell_fresh _ _ _ rfl
  have hb0 : Below w.heap.size w (w.alloc (.cells #[.string tms] 9)) := (Below.refl _ _).alloc (Nat.le_refl _) _
  have hs0 : w.heap.size < (w.alloc (.cells #[.string tms] 9)).heap.size := by simp
  generalize w.alloc (.cells #[.string tms] 9) = W1 at hc0 hb0 hs0 ⊢
  go_loopw [7] (fun c wr => ∃ k : Nat, k ≤ 16 ∧ c = .int .i64 (k : Int) ∧ AllTo tms.data.toList k ∧ Below (w.heap.size + 1) W1 wr) (fun c _ => 16 - (intOf c).toNat)
  case atStart => exact ⟨0, by omega, rfl, fun j hj => by omega, Below.refl _ _⟩
  case round =>
    obtain ⟨k, hk, rfl, hto, hB⟩ := hrel
    have hcell := (hB.cell (p := ⟨w.heap.size, 0, none⟩) (Nat.lt_succ_self _)).trans hc0
    have hsz : w.heap.size + 1 ≤ wr.heap.size := Nat.le_trans hs0 hB.size
    by_cases hk16 : k < 16
    · have h1 := hcon k
      have h2 := hcon 0
      by_cases hab : nxs k tms.data.toList = nxs 0 tms.data.toList
      · have hnext := hto.succ hab
        rw [hab] at h1
        clear hcon hall hto hab
        generalize nxs 0 tms.data.toList = a at h1 h2 ⊢
        go_wp2_with fail
        refine (h1 _ hk16 hcell).mono ?_
        rintro e w2 ⟨rfl, hb2⟩
        have hcell2 := (hb2.cell (p := ⟨w.heap.size, 0, none⟩) (by show w.heap.size < _; omega)).trans hcell
        go_wp2_with fail
        refine (h2 _ (by decide) hcell2).mono ?_
        rintro e w3 ⟨rfl, hb3⟩
        have hB3 := hB.trans ((hb2.trans (hb3.mono hb2.size)).mono hsz)
        clear h1 h2
        go_wp2_with fail
        go_roundw
        case rel => exact ⟨k + 1, by omega, by go_num, hnext, hB3⟩
        case measure => simp [intOf]; omega
      · clear hcon hall hto
        generalize nxs 0 tms.data.toList = a at h1 h2 hab ⊢
        generalize nxs k tms.data.toList = b at h1 hab
        have hne : ((b : Int) == (a : Int)) = false := by simp; omega
        have hne2 : (b == a) = false := by simpa using hab
        go_wp2_with fail
        refine (h1 _ hk16 hcell).mono ?_
        rintro e w2 ⟨rfl, hb2⟩
        have hcell2 := (hb2.cell (p := ⟨w.heap.size, 0, none⟩) (by show w.heap.size < _; omega)).trans hcell
        go_wp2_with fail
        refine (h2 _ (by decide) hcell2).mono ?_
        rintro e w3 ⟨rfl, hb3⟩
        have hB3 := hB.trans ((hb2.trans (hb3.mono hb2.size)).mono hsz)
        clear h1 h2
        go_wp2_with fail
        go_ret2
        exact ⟨rfl, hb0.trans (hB3.mono (Nat.le_succ _))⟩
    · obtain rfl : k = 16 := by omega
      exact absurd hto hall
end Go.Proofs.YtnlejnldimihcaaDoor
