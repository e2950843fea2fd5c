/- Package pattern's Walking. -/
import Derived.Test.YtlcknglnpcggaaaGreatDoorVgCom
import Derived.Deep.RegionHeld3
namespace Go.Proofs.YtlcknglnpcggaaaGreatDoor
open Go.RowKit

/-- One net has a bit, the others the other one. -/
def walkL (nets bit k : Nat) : List UInt8 := List.replicate k (if bit = 0 then 49 else 48) ++ [if bit = 0 then 48 else 49] ++ List.replicate (nets - 1 - k) (if bit = 0 then 49 else 48)
theorem walkL_len (nets bit k : Nat) (h : k < nets) : (walkL nets bit k).length = nets := by
  unfold walkL
  simp
  omega
def walkS (nets bit : Nat) : List (List UInt8) := (List.range nets).map (walkL nets bit)
theorem rep_one (c : UInt8) : ∀ n, Lib.repeatL [c] n = List.replicate n c
  | 0 => rfl
  | n + 1 => by
    show [c] ++ Lib.repeatL [c] n = _
    rw [rep_one c n]
    rfl
theorem repeat_one (c : UInt8) (n : Nat) (hn : n ≤ 1000) (w : World) : Calls Tryz.prog 32 #[.string ⟨#[c]⟩, .int .i64 (n : Int)] w fun e w' => e = .returned (.string ⟨(List.replicate n c).toArray⟩) ∧ Below w.heap.size w w' := by
  have h := Tryz.strings_Repeat ⟨#[c]⟩ n w (by omega) (by show 1 * n ≤ _; omega)
  have e : (⟨#[c]⟩ : ByteArray).data.toList = [c] := rfl
  rw [e, rep_one] at h
  exact h

theorem Tryz.runeStrO0 (W : World) : (convert 21 9 (.int .i32 49)).run Tryz.prog W = .ok (.string ⟨#[49]⟩) W := by kernel_rfl
theorem Tryz.runeStr0 (W : World) : (convert 21 9 (.int .i32 48)).run Tryz.prog W = .ok (.string ⟨#[48]⟩) W := by kernel_rfl
set_option maxHeartbeats 2000000 in
set_option maxRecDepth 100000 in
theorem walking10_any (nets k : Nat) (hk : k < nets) (h2 : nets ≤ 100) (W : World) (po pv pn : Nat) (ho : W.cell? ⟨po, 0, none⟩ = some (.string ⟨#[49]⟩)) (hv : W.cell? ⟨pv, 0, none⟩ = some (.int .i32 48)) (hn : W.cell? ⟨pn, 0, none⟩ = some (.int .i64 (nets : Int))) :
    Calls Tryz.prog 31 #[.int .i64 (k : Int), .pointer (some ⟨po, 0, none⟩), .pointer (some ⟨pv, 0, none⟩), .pointer (some ⟨pn, 0, none⟩)] W fun e w' => e = .returned (strV (walkL nets 0 k)) ∧ Below W.heap.size W w' := by
  have l1 := World.block_lt_of_cell? W ⟨po, 0, none⟩ ho
  have l2 := World.block_lt_of_cell? W ⟨pv, 0, none⟩ hv
  have l3 := World.block_lt_of_cell? W ⟨pn, 0, none⟩ hn
  obtain ⟨r1, hr1⟩ : ∃ r1, r1 = (⟨(List.replicate k (49 : UInt8)).toArray⟩ : ByteArray) := ⟨_, rfl⟩
  obtain ⟨r2, hr2⟩ : ∃ r2, r2 = (⟨(List.replicate (nets - 1 - k) (49 : UInt8)).toArray⟩ : ByteArray) := ⟨_, rfl⟩
  have z1 : r1.size = k := by rw [hr1]; show (List.replicate k (49 : UInt8)).toArray.size = k; simp
  have z2 : r2.size = nets - 1 - k := by rw [hr2]; show (List.replicate (nets - 1 - k) (49 : UInt8)).toArray.size = _; simp
  have hres : r1 ++ ⟨#[48]⟩ ++ r2 = ⟨(walkL nets 0 k).toArray⟩ := by
    rw [hr1, hr2]
    have := strs_append (List.replicate k (49 : UInt8)) [48]
    rw [show (⟨#[48]⟩ : ByteArray) = ⟨([48] : List UInt8).toArray⟩ from rfl, this, strs_append]
    rfl
  have hS : ∀ W2, Below W.heap.size W W2 → W2.cell? ⟨po, 0, none⟩ = some (.string ⟨#[49]⟩) ∧ W2.cell? ⟨pv, 0, none⟩ = some (.int .i32 48) ∧ W2.cell? ⟨pn, 0, none⟩ = some (.int .i64 (nets : Int)) := fun W2 hB => ⟨(hB.cell (p := ⟨po, 0, none⟩) l1).trans ho, (hB.cell (p := ⟨pv, 0, none⟩) l2).trans hv, (hB.cell (p := ⟨pn, 0, none⟩) l3).trans hn⟩
  have hrep1 : ∀ W2 : World, Below W.heap.size W W2 → Calls Tryz.prog 32 #[.string ⟨#[49]⟩, .int .i64 (k : Int)] W2 fun e w' => e = .returned (.string r1) ∧ Below W.heap.size W w' ∧ (w'.cell? ⟨po, 0, none⟩ = some (.string ⟨#[49]⟩) ∧ w'.cell? ⟨pv, 0, none⟩ = some (.int .i32 48) ∧ w'.cell? ⟨pn, 0, none⟩ = some (.int .i64 (nets : Int))) := fun W2 hB => (repeat_one 49 k (by omega) W2).mono fun e w' hh => ⟨by rw [hr1]; exact hh.1, hB.trans (hh.2.mono hB.size), hS w' (hB.trans (hh.2.mono hB.size))⟩
  have hz : IntKind.i64.wrap (IntKind.i64.wrap ((nets : Int) - 1) - (k : Int)) = ((nets - 1 - k : Nat) : Int) := by
    rw [IntWalk.i64_in ((nets : Int) - 1) (by omega), IntWalk.i64_in _ (by omega)]
    omega
  have hrep2 : ∀ W2 : World, Below W.heap.size W W2 → Calls Tryz.prog 32 #[.string ⟨#[49]⟩, .int .i64 (IntKind.i64.wrap (IntKind.i64.wrap ((nets : Int) - 1) - (k : Int)))] W2 fun e w' => e = .returned (.string r2) ∧ Below W.heap.size W w' ∧ (w'.cell? ⟨po, 0, none⟩ = some (.string ⟨#[49]⟩) ∧ w'.cell? ⟨pv, 0, none⟩ = some (.int .i32 48) ∧ w'.cell? ⟨pn, 0, none⟩ = some (.int .i64 (nets : Int))) := fun W2 hB => by
    rw [hz]
    exact (repeat_one 49 (nets - 1 - k) (by omega) W2).mono fun e w' hh => ⟨by rw [hr2]; exact hh.1, hB.trans (hh.2.mono hB.size), hS w' (hB.trans (hh.2.mono hB.size))⟩
  have hconv := Tryz.runeStr0
  have hn1 : (1 : Int) ≤ (nets : Int) := by omega
  have hn2 : (nets : Int) ≤ 100 := by omega
  have hk1 : (k : Int) < (nets : Int) := by omega
  have hk0 : (0 : Int) ≤ (k : Int) := by omega
  have hk3 : (0 : Int) ≤ (nets : Int) - 1 - (k : Int) := by omega
  have hc1 : ¬ 9223372036854775807 < r1.size + 1 := by omega
  have hc2 : ¬ 9223372036854775807 < (r1 ++ ⟨#[48]⟩).size + r2.size := by
    rw [show (r1 ++ ⟨#[48]⟩ : ByteArray).size = r1.size + 1 from ByteArray.size_append]
    omega
  have hc3 : ¬ 9223372036854775807 < r1.size + 1 + r2.size := by omega
  obtain ⟨res, hrs⟩ : ∃ res, res = (⟨(walkL nets 0 k).toArray⟩ : ByteArray) := ⟨_, rfl⟩
  show Calls _ _ _ _ fun e w' => e = .returned (.string ⟨(walkL nets 0 k).toArray⟩) ∧ _
  rw [← hrs] at hres ⊢
  have HR := Lib.hid hres
  have HS := Lib.hid hS
  clear hr1 hr2 z1 z2 hres hrs hz hS
  go_enter Tryz.func31, Tryz.ntmps31
  go_wp2_with fail
  go_region_held3 (fun w' => w'.cell? ⟨po, 0, none⟩ = some (.string ⟨#[49]⟩) ∧ w'.cell? ⟨pv, 0, none⟩ = some (.int .i32 48) ∧ w'.cell? ⟨pn, 0, none⟩ = some (.int .i64 (nets : Int)))
    (first | exact ⟨ho, hv, hn⟩ | assumption)
    ((go_at_call 32; first | ((with_reducible refine (hrep1 _ (by first | assumption | exact (Below.refl _ W).drew)).mono ?_); rintro e w2 ⟨rfl, hB2, hS2⟩) | ((with_reducible refine (hrep2 _ (by first | assumption | exact (Below.refl _ W).drew)).mono ?_); rintro e w2 ⟨rfl, hB2, hS2⟩)))
  all_goals
    go_wp2_with fail
    go_ret
    rw [← HR.out]
    exact ⟨rfl, by assumption⟩

set_option maxHeartbeats 2000000 in
set_option maxRecDepth 100000 in
theorem walking0_ok (nets : Nat) (h1 : 1 ≤ nets) (h2 : nets ≤ 100) (w : World) : Calls Tryz.prog 11 #[.int .i64 (nets : Int), .int .i64 0] w fun e w' => ∃ v : Value, e = .returned (.tuple #[v, .int .i64 0]) ∧ StrsAt w.heap.size w' v (turnL (walkS nets 0) nets) ∧ Below w.heap.size w w' := by
  have e1 : netsErr (nets : Int) = 0 := if_pos (by omega)
  have hc := fun W => checkNets_any (nets : Int) W
  rw [e1] at hc
  have hi : ∀ W, Calls Tryz.prog 30 #[.int .i32 48] W fun e w' => e = .returned (.int .i32 49) ∧ Below W.heap.size W w' := fun W => pinverted_any 48 (by decide) W
  have hstr := Tryz.runeStrO0
  obtain ⟨W1, hW1⟩ : ∃ W1 : World, W1 = w.alloc (.cells #[.int .i64 (nets : Int)] 3) := ⟨_, rfl⟩
  obtain ⟨W2, hW2⟩ : ∃ W2 : World, W2 = W1.alloc (.cells #[.int .i32 48] 21) := ⟨_, rfl⟩
  have hs1 : W1.heap.size = w.heap.size + 1 := by rw [hW1]; simp
  have hs2 : W2.heap.size = w.heap.size + 1 + 1 := by rw [hW2]; simp [hs1]
  have hB1 : Below w.heap.size w W1 := by rw [hW1]; exact (Below.refl _ _).alloc (Nat.le_refl _) _
  have hB2 : Below w.heap.size w W2 := by rw [hW2]; exact hB1.alloc (by omega) _
  have hn0 : W1.cell? ⟨w.heap.size, 0, none⟩ = some (.int .i64 (nets : Int)) := by rw [hW1]; exact (fresh_at w _ #[.int .i64 (nets : Int)] 3 (Below.refl _ _) 0).1
  have hB12 : Below W1.heap.size W1 W2 := by rw [hW2]; exact (Below.refl _ _).alloc (Nat.le_refl _) _
  have hn : W2.cell? ⟨w.heap.size, 0, none⟩ = some (.int .i64 (nets : Int)) := (hB12.cell (p := ⟨w.heap.size, 0, none⟩) (by show w.heap.size < _; omega)).trans hn0
  have hv : W2.cell? ⟨w.heap.size + 1, 0, none⟩ = some (.int .i32 48) := by
    have := (fresh_at W1 W2 #[.int .i32 48] 21 (by rw [hW2]; exact Below.refl _ _) 0).1
    rw [hs1] at this
    exact this
  have hvec := fun (W : World) (po : Nat) (hpo : W.cell? ⟨po, 0, none⟩ = some (.string ⟨#[49]⟩)) (hpv : W.cell? ⟨w.heap.size + 1, 0, none⟩ = some (.int .i32 48)) (hpn : W.cell? ⟨w.heap.size, 0, none⟩ = some (.int .i64 (nets : Int))) => vectorsOfWalking1_any nets nets h1 (by omega) (by omega) (fun j => walkL nets 0 j) (fun j hj => walkL_len nets 0 j hj) W po (w.heap.size + 1) w.heap.size (fun W3 j hW hj =>
    walking10_any nets j hj h2 W3 po (w.heap.size + 1) w.heap.size ((hW.cell (p := ⟨po, 0, none⟩) (World.block_lt_of_cell? W ⟨po, 0, none⟩ hpo)).trans hpo) ((hW.cell (p := ⟨w.heap.size + 1, 0, none⟩) (World.block_lt_of_cell? W ⟨w.heap.size + 1, 0, none⟩ hpv)).trans hpv) ((hW.cell (p := ⟨w.heap.size, 0, none⟩) (World.block_lt_of_cell? W ⟨w.heap.size, 0, none⟩ hpn)).trans hpn))
  have HVEC := Lib.hid hvec
  have H := Lib.hid (⟨hB2, hn, hv, hs2⟩ : _ ∧ _ ∧ _ ∧ _)
  have HS1 := Lib.hid hs1
  clear hvec e1 hB1 hB2 hB12 hn hv hs2 hs1
  go_enter Tryz.func11, Tryz.ntmps11
  go_wp2_with fail
  rw [← hW1]
  have HW1 := Lib.hid hW1
  clear hW1
  refine (hc _).mono ?_
  rintro e w' ⟨rfl, rfl⟩
  clear hc
  go_wp2_with fail
  rw [HS1.out, ← hW2]
  have HW2 := Lib.hid hW2
  have hvv := H.out.2.2.1
  clear hW2
  go_wp2_with fail
  refine (hi _).mono ?_
  rintro e W3 ⟨rfl, hB3⟩
  clear hi
  obtain ⟨hB2, hn2, hv2, hs2⟩ := H.out
  have hn3 := (hB3.cell (p := ⟨w.heap.size, 0, none⟩) (by show w.heap.size < _; omega)).trans hn2
  have hv3 := (hB3.cell (p := ⟨w.heap.size + 1, 0, none⟩) (by show w.heap.size + 1 < _; omega)).trans hv2
  have hs3 : w.heap.size + 2 ≤ W3.heap.size := by have := hB3.size; omega
  have hBw3 : Below w.heap.size w W3 := hB2.trans (hB3.mono (by omega))
  obtain ⟨W4, hW4⟩ : ∃ W4 : World, W4 = W3.alloc (.cells #[.string ⟨#[49]⟩] 9) := ⟨_, rfl⟩
  have hB34 : Below W3.heap.size W3 W4 := by rw [hW4]; exact (Below.refl _ _).alloc (Nat.le_refl _) _
  have hn4 := (hB34.cell (p := ⟨w.heap.size, 0, none⟩) (by show w.heap.size < _; omega)).trans hn3
  have hv4 := (hB34.cell (p := ⟨w.heap.size + 1, 0, none⟩) (by show w.heap.size + 1 < _; omega)).trans hv3
  have ho4 : W4.cell? ⟨W3.heap.size, 0, none⟩ = some (.string ⟨#[49]⟩) := (fresh_at W3 W4 #[.string ⟨#[49]⟩] 9 (by rw [hW4]; exact Below.refl _ _) 0).1
  have hv := HVEC.out W4 W3.heap.size ho4 hv4 hn4
  have HB := Lib.hid (hBw3.trans (hB34.mono (by omega)))
  have hlt3 : w.heap.size < W3.heap.size := by omega
  have HW4 := Lib.hid hW4
  clear hB3 hB2 hn2 hv2 hs2 hv3 hs3 hBw3 hB34 hv4 ho4 HVEC hvv hW4
  go_wp2_with fail
  rw [← HW4.out]
  clear hn3 hlt3
  refine hv.mono ?_
  rintro e w5 ⟨v', rfl, hS, hB5⟩
  clear hv
  have hb0 := HB.out.size
  have HF := Lib.hid (⟨row_base hS hb0, HB.out.trans (hB5.mono hb0)⟩ : w5.ownsRow w.heap.size 9 1 v' _ _ ∧ _)
  have hS2 := hS
  clear hS hB5
  obtain ⟨-, ⟨rfl, -⟩ | ⟨g2, cap2, cur2, rfl, -⟩⟩ := hS2
  · go_wp2_with fail
    go_ret2
    exact ⟨_, rfl, HF.out⟩
  · go_wp2_with fail
    go_ret2
    exact ⟨_, rfl, HF.out⟩

theorem Tryz.runeStrO1 (W : World) : (convert 21 9 (.int .i32 48)).run Tryz.prog W = .ok (.string ⟨#[48]⟩) W := by kernel_rfl
theorem Tryz.runeStr1 (W : World) : (convert 21 9 (.int .i32 49)).run Tryz.prog W = .ok (.string ⟨#[49]⟩) W := by kernel_rfl
set_option maxHeartbeats 2000000 in
set_option maxRecDepth 100000 in
theorem walking11_any (nets k : Nat) (hk : k < nets) (h2 : nets ≤ 100) (W : World) (po pv pn : Nat) (ho : W.cell? ⟨po, 0, none⟩ = some (.string ⟨#[48]⟩)) (hv : W.cell? ⟨pv, 0, none⟩ = some (.int .i32 49)) (hn : W.cell? ⟨pn, 0, none⟩ = some (.int .i64 (nets : Int))) :
    Calls Tryz.prog 31 #[.int .i64 (k : Int), .pointer (some ⟨po, 0, none⟩), .pointer (some ⟨pv, 0, none⟩), .pointer (some ⟨pn, 0, none⟩)] W fun e w' => e = .returned (strV (walkL nets 1 k)) ∧ Below W.heap.size W w' := by
  have l1 := World.block_lt_of_cell? W ⟨po, 0, none⟩ ho
  have l2 := World.block_lt_of_cell? W ⟨pv, 0, none⟩ hv
  have l3 := World.block_lt_of_cell? W ⟨pn, 0, none⟩ hn
  obtain ⟨r1, hr1⟩ : ∃ r1, r1 = (⟨(List.replicate k (48 : UInt8)).toArray⟩ : ByteArray) := ⟨_, rfl⟩
  obtain ⟨r2, hr2⟩ : ∃ r2, r2 = (⟨(List.replicate (nets - 1 - k) (48 : UInt8)).toArray⟩ : ByteArray) := ⟨_, rfl⟩
  have z1 : r1.size = k := by rw [hr1]; show (List.replicate k (48 : UInt8)).toArray.size = k; simp
  have z2 : r2.size = nets - 1 - k := by rw [hr2]; show (List.replicate (nets - 1 - k) (48 : UInt8)).toArray.size = _; simp
  have hres : r1 ++ ⟨#[49]⟩ ++ r2 = ⟨(walkL nets 1 k).toArray⟩ := by
    rw [hr1, hr2]
    have := strs_append (List.replicate k (48 : UInt8)) [49]
    rw [show (⟨#[49]⟩ : ByteArray) = ⟨([49] : List UInt8).toArray⟩ from rfl, this, strs_append]
    rfl
  have hS : ∀ W2, Below W.heap.size W W2 → W2.cell? ⟨po, 0, none⟩ = some (.string ⟨#[48]⟩) ∧ W2.cell? ⟨pv, 0, none⟩ = some (.int .i32 49) ∧ W2.cell? ⟨pn, 0, none⟩ = some (.int .i64 (nets : Int)) := fun W2 hB => ⟨(hB.cell (p := ⟨po, 0, none⟩) l1).trans ho, (hB.cell (p := ⟨pv, 0, none⟩) l2).trans hv, (hB.cell (p := ⟨pn, 0, none⟩) l3).trans hn⟩
  have hrep1 : ∀ W2 : World, Below W.heap.size W W2 → Calls Tryz.prog 32 #[.string ⟨#[48]⟩, .int .i64 (k : Int)] W2 fun e w' => e = .returned (.string r1) ∧ Below W.heap.size W w' ∧ (w'.cell? ⟨po, 0, none⟩ = some (.string ⟨#[48]⟩) ∧ w'.cell? ⟨pv, 0, none⟩ = some (.int .i32 49) ∧ w'.cell? ⟨pn, 0, none⟩ = some (.int .i64 (nets : Int))) := fun W2 hB => (repeat_one 48 k (by omega) W2).mono fun e w' hh => ⟨by rw [hr1]; exact hh.1, hB.trans (hh.2.mono hB.size), hS w' (hB.trans (hh.2.mono hB.size))⟩
  have hz : IntKind.i64.wrap (IntKind.i64.wrap ((nets : Int) - 1) - (k : Int)) = ((nets - 1 - k : Nat) : Int) := by
    rw [IntWalk.i64_in ((nets : Int) - 1) (by omega), IntWalk.i64_in _ (by omega)]
    omega
  have hrep2 : ∀ W2 : World, Below W.heap.size W W2 → Calls Tryz.prog 32 #[.string ⟨#[48]⟩, .int .i64 (IntKind.i64.wrap (IntKind.i64.wrap ((nets : Int) - 1) - (k : Int)))] W2 fun e w' => e = .returned (.string r2) ∧ Below W.heap.size W w' ∧ (w'.cell? ⟨po, 0, none⟩ = some (.string ⟨#[48]⟩) ∧ w'.cell? ⟨pv, 0, none⟩ = some (.int .i32 49) ∧ w'.cell? ⟨pn, 0, none⟩ = some (.int .i64 (nets : Int))) := fun W2 hB => by
    rw [hz]
    exact (repeat_one 48 (nets - 1 - k) (by omega) W2).mono fun e w' hh => ⟨by rw [hr2]; exact hh.1, hB.trans (hh.2.mono hB.size), hS w' (hB.trans (hh.2.mono hB.size))⟩
  have hconv := Tryz.runeStr1
  have hn1 : (1 : Int) ≤ (nets : Int) := by omega
  have hn2 : (nets : Int) ≤ 100 := by omega
  have hk1 : (k : Int) < (nets : Int) := by omega
  have hk0 : (0 : Int) ≤ (k : Int) := by omega
  have hk3 : (0 : Int) ≤ (nets : Int) - 1 - (k : Int) := by omega
  have hc1 : ¬ 9223372036854775807 < r1.size + 1 := by omega
  have hc2 : ¬ 9223372036854775807 < (r1 ++ ⟨#[49]⟩).size + r2.size := by
    rw [show (r1 ++ ⟨#[49]⟩ : ByteArray).size = r1.size + 1 from ByteArray.size_append]
    omega
  have hc3 : ¬ 9223372036854775807 < r1.size + 1 + r2.size := by omega
  obtain ⟨res, hrs⟩ : ∃ res, res = (⟨(walkL nets 1 k).toArray⟩ : ByteArray) := ⟨_, rfl⟩
  show Calls _ _ _ _ fun e w' => e = .returned (.string ⟨(walkL nets 1 k).toArray⟩) ∧ _
  rw [← hrs] at hres ⊢
  have HR := Lib.hid hres
  have HS := Lib.hid hS
  clear hr1 hr2 z1 z2 hres hrs hz hS
  go_enter Tryz.func31, Tryz.ntmps31
  go_wp2_with fail
  go_region_held3 (fun w' => w'.cell? ⟨po, 0, none⟩ = some (.string ⟨#[48]⟩) ∧ w'.cell? ⟨pv, 0, none⟩ = some (.int .i32 49) ∧ w'.cell? ⟨pn, 0, none⟩ = some (.int .i64 (nets : Int)))
    (first | exact ⟨ho, hv, hn⟩ | assumption)
    ((go_at_call 32; first | ((with_reducible refine (hrep1 _ (by first | assumption | exact (Below.refl _ W).drew)).mono ?_); rintro e w2 ⟨rfl, hB2, hS2⟩) | ((with_reducible refine (hrep2 _ (by first | assumption | exact (Below.refl _ W).drew)).mono ?_); rintro e w2 ⟨rfl, hB2, hS2⟩)))
  all_goals
    go_wp2_with fail
    go_ret
    rw [← HR.out]
    exact ⟨rfl, by assumption⟩

set_option maxHeartbeats 2000000 in
set_option maxRecDepth 100000 in
theorem walking1_ok (nets : Nat) (h1 : 1 ≤ nets) (h2 : nets ≤ 100) (w : World) : Calls Tryz.prog 11 #[.int .i64 (nets : Int), .int .i64 1] w fun e w' => ∃ v : Value, e = .returned (.tuple #[v, .int .i64 0]) ∧ StrsAt w.heap.size w' v (turnL (walkS nets 1) nets) ∧ Below w.heap.size w w' := by
  have e1 : netsErr (nets : Int) = 0 := if_pos (by omega)
  have hc := fun W => checkNets_any (nets : Int) W
  rw [e1] at hc
  have hi : ∀ W, Calls Tryz.prog 30 #[.int .i32 49] W fun e w' => e = .returned (.int .i32 48) ∧ Below W.heap.size W w' := fun W => pinverted_any 49 (by decide) W
  have hstr := Tryz.runeStrO1
  obtain ⟨W1, hW1⟩ : ∃ W1 : World, W1 = w.alloc (.cells #[.int .i64 (nets : Int)] 3) := ⟨_, rfl⟩
  obtain ⟨W2, hW2⟩ : ∃ W2 : World, W2 = W1.alloc (.cells #[.int .i32 49] 21) := ⟨_, rfl⟩
  have hs1 : W1.heap.size = w.heap.size + 1 := by rw [hW1]; simp
  have hs2 : W2.heap.size = w.heap.size + 1 + 1 := by rw [hW2]; simp [hs1]
  have hB1 : Below w.heap.size w W1 := by rw [hW1]; exact (Below.refl _ _).alloc (Nat.le_refl _) _
  have hB2 : Below w.heap.size w W2 := by rw [hW2]; exact hB1.alloc (by omega) _
  have hn0 : W1.cell? ⟨w.heap.size, 0, none⟩ = some (.int .i64 (nets : Int)) := by rw [hW1]; exact (fresh_at w _ #[.int .i64 (nets : Int)] 3 (Below.refl _ _) 0).1
  have hB12 : Below W1.heap.size W1 W2 := by rw [hW2]; exact (Below.refl _ _).alloc (Nat.le_refl _) _
  have hn : W2.cell? ⟨w.heap.size, 0, none⟩ = some (.int .i64 (nets : Int)) := (hB12.cell (p := ⟨w.heap.size, 0, none⟩) (by show w.heap.size < _; omega)).trans hn0
  have hv : W2.cell? ⟨w.heap.size + 1, 0, none⟩ = some (.int .i32 49) := by
    have := (fresh_at W1 W2 #[.int .i32 49] 21 (by rw [hW2]; exact Below.refl _ _) 0).1
    rw [hs1] at this
    exact this
  have hvec := fun (W : World) (po : Nat) (hpo : W.cell? ⟨po, 0, none⟩ = some (.string ⟨#[48]⟩)) (hpv : W.cell? ⟨w.heap.size + 1, 0, none⟩ = some (.int .i32 49)) (hpn : W.cell? ⟨w.heap.size, 0, none⟩ = some (.int .i64 (nets : Int))) => vectorsOfWalking1_any nets nets h1 (by omega) (by omega) (fun j => walkL nets 1 j) (fun j hj => walkL_len nets 1 j hj) W po (w.heap.size + 1) w.heap.size (fun W3 j hW hj =>
    walking11_any nets j hj h2 W3 po (w.heap.size + 1) w.heap.size ((hW.cell (p := ⟨po, 0, none⟩) (World.block_lt_of_cell? W ⟨po, 0, none⟩ hpo)).trans hpo) ((hW.cell (p := ⟨w.heap.size + 1, 0, none⟩) (World.block_lt_of_cell? W ⟨w.heap.size + 1, 0, none⟩ hpv)).trans hpv) ((hW.cell (p := ⟨w.heap.size, 0, none⟩) (World.block_lt_of_cell? W ⟨w.heap.size, 0, none⟩ hpn)).trans hpn))
  have HVEC := Lib.hid hvec
  have H := Lib.hid (⟨hB2, hn, hv, hs2⟩ : _ ∧ _ ∧ _ ∧ _)
  have HS1 := Lib.hid hs1
  clear hvec e1 hB1 hB2 hB12 hn hv hs2 hs1
  go_enter Tryz.func11, Tryz.ntmps11
  go_wp2_with fail
  rw [← hW1]
  have HW1 := Lib.hid hW1
  clear hW1
  refine (hc _).mono ?_
  rintro e w' ⟨rfl, rfl⟩
  clear hc
  go_wp2_with fail
  rw [HS1.out, ← hW2]
  have HW2 := Lib.hid hW2
  have hvv := H.out.2.2.1
  clear hW2
  go_wp2_with fail
  refine (hi _).mono ?_
  rintro e W3 ⟨rfl, hB3⟩
  clear hi
  obtain ⟨hB2, hn2, hv2, hs2⟩ := H.out
  have hn3 := (hB3.cell (p := ⟨w.heap.size, 0, none⟩) (by show w.heap.size < _; omega)).trans hn2
  have hv3 := (hB3.cell (p := ⟨w.heap.size + 1, 0, none⟩) (by show w.heap.size + 1 < _; omega)).trans hv2
  have hs3 : w.heap.size + 2 ≤ W3.heap.size := by have := hB3.size; omega
  have hBw3 : Below w.heap.size w W3 := hB2.trans (hB3.mono (by omega))
  obtain ⟨W4, hW4⟩ : ∃ W4 : World, W4 = W3.alloc (.cells #[.string ⟨#[48]⟩] 9) := ⟨_, rfl⟩
  have hB34 : Below W3.heap.size W3 W4 := by rw [hW4]; exact (Below.refl _ _).alloc (Nat.le_refl _) _
  have hn4 := (hB34.cell (p := ⟨w.heap.size, 0, none⟩) (by show w.heap.size < _; omega)).trans hn3
  have hv4 := (hB34.cell (p := ⟨w.heap.size + 1, 0, none⟩) (by show w.heap.size + 1 < _; omega)).trans hv3
  have ho4 : W4.cell? ⟨W3.heap.size, 0, none⟩ = some (.string ⟨#[48]⟩) := (fresh_at W3 W4 #[.string ⟨#[48]⟩] 9 (by rw [hW4]; exact Below.refl _ _) 0).1
  have hv := HVEC.out W4 W3.heap.size ho4 hv4 hn4
  have HB := Lib.hid (hBw3.trans (hB34.mono (by omega)))
  have hlt3 : w.heap.size < W3.heap.size := by omega
  have HW4 := Lib.hid hW4
  clear hB3 hB2 hn2 hv2 hs2 hv3 hs3 hBw3 hB34 hv4 ho4 HVEC hvv hW4
  go_wp2_with fail
  rw [← HW4.out]
  clear hn3 hlt3
  refine hv.mono ?_
  rintro e w5 ⟨v', rfl, hS, hB5⟩
  clear hv
  have hb0 := HB.out.size
  have HF := Lib.hid (⟨row_base hS hb0, HB.out.trans (hB5.mono hb0)⟩ : w5.ownsRow w.heap.size 9 1 v' _ _ ∧ _)
  have hS2 := hS
  clear hS hB5
  obtain ⟨-, ⟨rfl, -⟩ | ⟨g2, cap2, cur2, rfl, -⟩⟩ := hS2
  · go_wp2_with fail
    go_ret2
    exact ⟨_, rfl, HF.out⟩
  · go_wp2_with fail
    go_ret2
    exact ⟨_, rfl, HF.out⟩

set_option maxHeartbeats 2000000 in
set_option maxRecDepth 100000 in
theorem walking_bad (nets bit : Int) (h : netsErr nets ≠ 0) (w : World) : Calls Tryz.prog 11 #[.int .i64 nets, .int .i64 bit] w fun e w' => e = .returned (.tuple #[.slice none 0 0, .int .i64 1]) ∧ Below w.heap.size w w' := by
  have e1 : netsErr nets = 1 := by
    unfold netsErr at h ⊢
    split
    · rename_i h2; rw [if_pos h2] at h; exact absurd rfl h
    · rfl
  have hc := fun W => checkNets_any nets W
  rw [e1] at hc
  obtain ⟨W1, hW1⟩ : ∃ W1 : World, W1 = w.alloc (.cells #[.int .i64 nets] 3) := ⟨_, rfl⟩
  have hs1 : W1.heap.size = w.heap.size + 1 := by rw [hW1]; simp
  have hB1 : Below w.heap.size w W1 := by rw [hW1]; exact (Below.refl _ _).alloc (Nat.le_refl _) _
  have hn0 : W1.cell? ⟨w.heap.size, 0, none⟩ = some (.int .i64 nets) := by rw [hW1]; exact (fresh_at w _ #[.int .i64 nets] 3 (Below.refl _ _) 0).1
  have HB := Lib.hid hB1
  clear e1 h hB1 hs1
  go_enter Tryz.func11, Tryz.ntmps11
  go_wp2_with fail
  rw [← hW1]
  have HW1 := Lib.hid hW1
  clear hW1
  refine (hc _).mono ?_
  rintro e w' ⟨rfl, rfl⟩
  clear hc
  go_wp2_with fail
  go_ret2
  exact ⟨rfl, HB.out⟩

set_option maxHeartbeats 2000000 in
set_option maxRecDepth 100000 in
theorem walking_bit (nets bit : Int) (h : netsErr nets = 0) (hb0 : bit ≠ 0) (hb1 : bit ≠ 1) (w : World) : Calls Tryz.prog 11 #[.int .i64 nets, .int .i64 bit] w fun e w' => e = .returned (.tuple #[.slice none 0 0, .int .i64 1]) ∧ Below w.heap.size w w' := by
  have hc := fun W => checkNets_any nets W
  rw [h] at hc
  have hx0 : (bit != 0) = true := by simpa using hb0
  have hx1 : (bit != 1) = true := by simpa using hb1
  obtain ⟨W1, hW1⟩ : ∃ W1 : World, W1 = w.alloc (.cells #[.int .i64 nets] 3) := ⟨_, rfl⟩
  have hs1 : W1.heap.size = w.heap.size + 1 := by rw [hW1]; simp
  have hB1 : Below w.heap.size w W1 := by rw [hW1]; exact (Below.refl _ _).alloc (Nat.le_refl _) _
  have hn0 : W1.cell? ⟨w.heap.size, 0, none⟩ = some (.int .i64 nets) := by rw [hW1]; exact (fresh_at w _ #[.int .i64 nets] 3 (Below.refl _ _) 0).1
  have HB := Lib.hid hB1
  clear h hB1 hs1
  go_enter Tryz.func11, Tryz.ntmps11
  go_wp2_with fail
  rw [← hW1]
  have HW1 := Lib.hid hW1
  clear hW1
  refine (hc _).mono ?_
  rintro e w' ⟨rfl, rfl⟩
  clear hc
  go_wp2_with fail
  go_ret2
  exact ⟨rfl, HB.out⟩
end Go.Proofs.YtlcknglnpcggaaaGreatDoor
